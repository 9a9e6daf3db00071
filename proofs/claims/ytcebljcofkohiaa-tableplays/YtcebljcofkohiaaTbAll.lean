/- Layer 11: the row gone over. -/
import Derived.RangeFuncNested
import Derived.RangeFuncBound
import Derived.RangeFuncCalls
import Derived.RangeFuncLeaves
import Derived.RangeFuncBox
import Derived.Shelf.Abstract
import Derived.Shelf.RegionOpen
import Derived.OwnWalkIn
import Derived.TacticsInMore
import Derived.LoopNIn
import Derived.LoopIn
import Derived.LaidEqlPtr
import Derived.Test.YtcebljcofkohiaaTbPut
namespace Go.Proofs.Ytcebljcofkohiaa
set_option linter.unusedVariables false
open Go.RowKit Go.Shelf
open Go.MapKept Go.WideMaps
attribute [local go_sem] Oper.semAt_some

/-- rows of cells among S stay. -/
def KeepB (S : Nat → Prop) (W W' : World) : Prop := ∀ b c t f, S b → W.heap[b]? = some (.cells c t f) → W'.heap[b]? = some (.cells c t f)
theorem KeepB.refl (S : Nat → Prop) (W : World) : KeepB S W W := fun _ _ _ _ _ h => h
theorem KeepB.t {S : Nat → Prop} {A B C : World} (h : KeepB S A B) (k : KeepB S B C) : KeepB S A C := fun b c t f hs hb => k b c t f hs (h b c t f hs hb)
theorem KeepB.b {S : Nat → Prop} {N' : Nat} (W : World) (l : Nat) (o o' : Obj) (_ : N' ≤ l) (h : W.heap[l]? = some o) (hc : o.isCells = false) (_ : o.isWalk = false) : KeepB S W (W.putObj l o') :=
  fun b c t f _ hb => (World.putObj_heap_other (fun e => by subst e; rw [h] at hb; cases hb; cases hc)).trans hb
theorem KeepB.row {S : Nat → Prop} {W W' : World} {E : Nat} {L : List Ent} (h : KeepB S W W') (hr : Row W E L) (hs : ∀ b ∈ E :: bs L, S b) : Row W' E L :=
  hr.same fun b hb => by
    obtain ⟨c, hc, _⟩ := hr.plc b hb
    rw [hc]
    exact h b _ _ _ (hs b hb) hc

theorem all_in (w : World) (T : Nat) :
    Calls Try.prog 31 #[.pointer (some ⟨T, 1, none⟩)] w fun e w' => e = .returned (.func (.func 38) #[] #[pt w.heap.size]) ∧ w' = w.alloc (.cells #[.pointer (some ⟨T, 1, none⟩)] 76) := by
  have hmf : ∀ (fn : Fn) (first cap : Array Value) (w : World), (Instr.makeFunc fn first cap).run Try.prog w = .ok (.func fn first cap) w := fun _ _ _ _ => rfl
  go_enter Try.func31, Try.ntmps31
  go_wp2
  go_ret
  exact ⟨rfl, rfl⟩

def blkOf : Value → Nat
  | .pointer (some a) => a.block
  | _ => 0
/-- the place at k, its older neighbour. -/
def atR (E : Nat) (L : List Ent) (k : Nat) : Nat := (bs L)[k]?.getD E
theorem Links.get {w : World} : ∀ (a : Nat) (r : List Nat) (k : Nat) (h : k < r.length), Links w (a :: r) → w.cell? ⟨(a :: r)[k]'(by simp; omega), 3, none⟩ = some (pt r[k])
  | a, b :: r, 0, h, hl => hl.1
  | a, b :: r, k + 1, h, hl => Links.get b r k (by simpa using h) hl.2.2
theorem Row.older {w : World} {E : Nat} {L : List Ent} (h : Row w E L) (k : Nat) (hk : k < L.length) : w.cell? ⟨atR E L k, 3, none⟩ = some (pt (atR E L (k + 1))) := by
  have hl : (bs L).length = L.length := by simp [bs]
  have := Links.get E (bs L ++ [E]) (k + 1) (by simp [hl]; omega) h.links
  simp only [List.getElem_cons_succ] at this
  rw [List.getElem_append_left (by omega)] at this
  unfold atR
  rw [List.getElem?_eq_getElem (by omega), Option.getD_some, this]
  by_cases e : k + 1 < (bs L).length
  · rw [List.getElem_append_left e, List.getElem?_eq_getElem e, Option.getD_some]
  · rw [List.getElem_append_right (by omega), List.getElem?_eq_none (by omega)]
    simp
theorem Row.first {w : World} {E : Nat} {L : List Ent} (h : Row w E L) : w.cell? ⟨E, 3, none⟩ = some (pt (atR E L 0)) := by
  have := Links.get E (bs L ++ [E]) 0 (by simp) h.links
  simp only [List.getElem_cons_zero] at this
  rw [this]
  unfold atR
  by_cases e : 0 < (bs L).length
  · rw [List.getElem_append_left e, List.getElem?_eq_getElem e, Option.getD_some]
  · rw [List.getElem_append_right (by omega), List.getElem?_eq_none (by omega)]
    simp
theorem Row.idx {w : World} {E : Nat} {L : List Ent} (h : Row w E L) (k : Nat) (hk : k ≤ L.length) : (bs L).idxOf (atR E L k) = k := by
  have hl : (bs L).length = L.length := by simp [bs]
  have nd := List.nodup_cons.1 h.nd
  unfold atR
  by_cases e : k < (bs L).length
  · rw [List.getElem?_eq_getElem e, Option.getD_some]
    exact nd.2.idxOf_getElem k e
  · rw [List.getElem?_eq_none (by omega), Option.getD_none, List.idxOf_eq_length nd.1]
    omega
theorem Row.neE {w : World} {E : Nat} {L : List Ent} (h : Row w E L) (k : Nat) (hk : k < L.length) : ¬ atR E L k = E := by
  intro e
  have h1 := h.idx k (by omega)
  rw [e] at h1
  have h2 : (bs L).idxOf E = (bs L).length := List.idxOf_eq_length (List.nodup_cons.1 h.nd).1
  have hl : (bs L).length = L.length := by simp [bs]
  omega
theorem fin_take (m k : Nat) (hk : k < m) : (List.finRange m).take k ++ [⟨k, hk⟩] = (List.finRange m).take (k + 1) := by
  rw [List.take_succ_eq_append_getElem (by simpa using hk)]
  simp
theorem atR_get (E : Nat) (L : List Ent) (k : Nat) (hk : k < L.length) : atR E L k = L[k].b := by
  unfold atR
  rw [List.getElem?_eq_getElem (by simpa [bs] using hk), Option.getD_some]
  simp [bs]
theorem atR_end (E : Nat) (L : List Ent) : atR E L L.length = E := by
  unfold atR
  rw [List.getElem?_eq_none (by simp [bs])]
  rfl

theorem neq_same (w : World) (a : Addr) : (binOp .neq 52 (.pointer (some a)) (.pointer (some a))).run Try.prog w = .ok (.bool false) w := by
  obtain ⟨j, hj⟩ : ∃ j, Try.prog.info? 62 = some j := by
    have : (Try.prog.info? 62).map (·.size) = some 4 := by kernel_rfl
    cases hq : Try.prog.info? 62 with
    | none => rw [hq] at this; cases this
    | some j => exact ⟨j, rfl⟩
  have h : ∀ d : Nat, (Op.equalIn (d + 1) 52 (.pointer (some a)) (.pointer (some a))).run Try.prog w = .ok true w := fun d => by
    simp [Op.equalIn, run_underlying Try.underlying52, sizeOf, typeInfo, hj, run_sameAddr_same]
  simp only [binOp]
  simp [Op.equal, Op.maxDepth, h 9999]
theorem neq_other (w : World) {a b : Nat} (hne : ¬ a = b) (ha : Plc w a) (hb : Plc w b) : (binOp .neq 52 (pt a) (pt b)).run Try.prog w = .ok (.bool true) w := by
  obtain ⟨j, hj, hz⟩ : ∃ j, Try.prog.info? 62 = some j ∧ j.size ≠ 0 := by
    have : (Try.prog.info? 62).map (·.size) = some 4 := by kernel_rfl
    cases hq : Try.prog.info? 62 with
    | none => rw [hq] at this; cases this
    | some j => rw [hq] at this; exact ⟨j, rfl, by simp at this; omega⟩
  obtain ⟨ca, ha, _⟩ := ha
  obtain ⟨cb, hb, _⟩ := hb
  have h : ∀ d : Nat, (Op.equalIn (d + 1) 52 (pt a) (pt b)).run Try.prog w = .ok false w := fun d => by
    simp [Op.equalIn, run_underlying Try.underlying52, sizeOf, typeInfo, hj, hz, run_sameAddr_other w (a := ⟨a, 0, none⟩) (b := ⟨b, 0, none⟩) (fun e => hne (by cases e; rfl)) ha hb]
  simp only [binOp]
  simp [Op.equal, Op.maxDepth, h 9999]
theorem atR_mem (E : Nat) (L : List Ent) (k : Nat) : atR E L k ∈ E :: bs L := by
  unfold atR
  by_cases e : k < (bs L).length
  · rw [List.getElem?_eq_getElem e, Option.getD_some]
    exact List.mem_cons_of_mem _ (List.getElem_mem e)
  · rw [List.getElem?_eq_none (by omega)]
    simp

set_option maxRecDepth 100000 in
set_option maxHeartbeats 1000000 in
theorem all1_in (F : Fence) (n : Nat) (h6 : F.fn 38) (hro : F.round = none) (hn : 1 ≤ n) (l Bn T E M : Nat) (most : Int) (L : List Ent) (S : Nat → Prop) (hS : ∀ b, b = Bn ∨ b = T ∨ b ∈ E :: bs L → S b) (J Jx : List (Fin L.length) → World → Prop)
    (hY : ∀ pre (x : Fin L.length) W, J pre W → pre.length < L.length → YieldAt F (n - 1) Try.prog l #[pt (atR E L x.1)] W fun e W' =>
      (e = .returned (.bool true) ∧ J (pre ++ [x]) W' ∧ KeepB S W W') ∨ (e = .returned (.bool false) ∧ Jx (pre ++ [x]) W'))
    (W : World) (hBn : W.heap[Bn]? = some (.cells #[.pointer (some ⟨T, 1, none⟩)] 76 (0, 0))) (hT : W.heap[T]? = some (tabObj most E (L.length : Int) M)) (hR : Row W E L) (h0 : J [] W) :
    CallsIn F n Try.prog 38 #[.func (.yield l) #[] #[], pt Bn] W fun e W' => (∃ v, e = .returned v) ∧
      ((∃ ys : List (Fin L.length), ys = List.finRange L.length ∧ J ys W') ∨ (∃ pre : List (Fin L.length), pre <+: List.finRange L.length ∧ Jx pre W')) := by
  have cB : W.cell? ⟨Bn, 0, none⟩ = some (.pointer (some ⟨T, 1, none⟩)) := by rw [cell_of_row _ _ _ _ _ _ hBn]; rfl
  have cT : W.cell? ⟨T, 1, none⟩ = some (pt E) := by rw [cell_of_row _ _ _ _ _ _ hT]; rfl
  have c0 := hR.first
  have HR := Hid.mk hR
  refine callsIn_of_wp Try.func38 rfl h6 ?_ hro
  simp only [Try.ntmps38, List.size_toArray, List.length_cons, List.length_nil, Nat.reduceAdd, Nat.reduceSub, Array.replicate_succ, Array.replicate_zero, List.push_toArray, List.append_toArray, List.nil_append, List.cons_append]
  gi_wp2
  gi_loopw [3] (fun i wr => ∃ (k : Nat), k ≤ L.length ∧ i = pt (atR E L k) ∧ J ((List.finRange L.length).take k) wr ∧ wr.heap[Bn]? = some (.cells #[.pointer (some ⟨T, 1, none⟩)] 76 (0, 0)) ∧ wr.heap[T]? = some (tabObj most E (L.length : Int) M) ∧ Row wr E L)
    (fun i _ => L.length - (bs L).idxOf (blkOf i))
  case atStart => exact ⟨0, Nat.zero_le _, rfl, h0, hBn, hT, hR⟩
  case round =>
    obtain ⟨k, hk, rfl, hJ, hB1, hT1, hR1⟩ := hrel
    have cB1 : wr.cell? ⟨Bn, 0, none⟩ = some (.pointer (some ⟨T, 1, none⟩)) := by rw [cell_of_row _ _ _ _ _ _ hB1]; rfl
    have cT1 : wr.cell? ⟨T, 1, none⟩ = some (pt E) := by rw [cell_of_row _ _ _ _ _ _ hT1]; rfl
    by_cases hlt : k < L.length
    · have hne := neq_other wr (hR1.neE k hlt) (hR1.plc _ (atR_mem E L k)) (hR1.plc E (by simp))
      have HI := Hid.mk (hR1.idx k hk)
      have HI2 := Hid.mk (hR1.idx (k + 1) hlt)
      obtain ⟨fn, tmps, assign, body, hy, hRr⟩ := hY _ ⟨k, hlt⟩ wr hJ (by rw [List.length_take]; omega)
      dsimp only at hy
      have HX := Hid.mk (And.intro hk hlt)
      clear hk
      gi_wp2
      refine hRr.mono ?_
      rintro e W3 (⟨rfl, hJ3, hk3⟩ | ⟨rfl, hJx3⟩)
      · have hB3 := hk3 _ _ _ _ (hS Bn (.inl rfl)) hB1
        have hT3 := hk3 _ _ _ _ (hS T (.inr (.inl rfl))) hT1
        have hR3 := hk3.row hR1 (fun b hb => hS b (.inr (.inr hb)))
        have co := hR3.older k HX.out.2
        gi_wp2
        go_roundw
        case rel => exact ⟨k + 1, HX.out.2, rfl, by rw [← fin_take L.length k HX.out.2]; exact hJ3, hB3, hT3, hR3⟩
        case measure =>
          show L.length - (bs L).idxOf (atR E L (k + 1)) < L.length - (bs L).idxOf (atR E L k)
          rw [HI.out, HI2.out]
          have := HX.out.2
          omega
      · gi_wp2
        refine bodyPost_ret (results_none rfl _ _ _) rfl ?_
        exact ⟨⟨_, rfl⟩, .inr ⟨_, by rw [fin_take L.length k HX.out.2]; exact List.take_prefix _ _, hJx3⟩⟩
    · obtain rfl : k = L.length := by omega
      have hJ' := Hid.mk hJ
      rw [atR_end]
      have hne := neq_same wr ⟨E, 0, none⟩
      gi_wp2
      go_end0
      exact ⟨⟨_, rfl⟩, .inl ⟨_, by rw [List.take_of_length_le (by simp)], hJ'.out⟩⟩

end Go.Proofs.Ytcebljcofkohiaa
