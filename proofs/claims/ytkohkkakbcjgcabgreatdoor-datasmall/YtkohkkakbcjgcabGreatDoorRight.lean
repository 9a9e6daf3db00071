/- Right: of any bytes it tells whether they are a name. -/
import Derived.Test.YtkohkkakbcjgcabGreatDoorEach
namespace Go.Proofs.YtkohkkakbcjgcabGreatDoor
set_option linter.unusedVariables false
open Go.RowKit Go.Shelf
attribute [local go_sem] Oper.semAt_some

variable {N : Nat}
/-- where the labels that have come end. -/
def endOf (p : List (Lab N)) : Nat := match p.getLast? with | none => 0 | some x => x.1.1 + 1 + x.1.2.size
theorem endOf_snoc (p : List (Lab N)) (x : Lab N) : endOf (p ++ [x]) = x.1.1 + 1 + x.1.2.size := by simp [endOf]
theorem endOf_placed : ∀ {p : List (Lab N)}, Placed p → endOf p = (flat (labs p)).length := by
  intro p h
  rcases List.eq_nil_or_concat p with rfl | ⟨q, x, rfl⟩
  · rfl
  · rw [List.concat_eq_append] at h ⊢
    rw [endOf_snoc, labs_snoc, flat_snoc]
    have := h q.length (by simp)
    simp at this
    simp [this]; omega

theorem Hid.mk {p : Prop} (h : p) : Hid p := h

theorem right_fin {s : ByteArray} {ys : List (Lab N)} (hsq : Seq s (labs ys)) (hpl : Placed ys) (hen : Ends s (flat (labs ys)).length) (h3 : ∀ l ∈ labs ys, l.length ≤ 63) (h : s.size ≤ 255) :
    (((s.extract (endOf ys) s.size).toList == [0]) = true) ↔ IsName s := by
  rw [endOf_placed hpl, beq_iff_eq, ByteArray.toList_eq]
  have hx : (s.extract (flat (labs ys)).length s.size).data.toList = s.data.toList.drop (flat (labs ys)).length := by
    rw [Lib.extract_data]; exact List.take_of_length_le (by rw [List.length_drop, size_list]; exact Nat.le_refl _)
  have hs : s.data.toList = flat (labs ys) ++ s.data.toList.drop (flat (labs ys)).length := by
    have := List.prefix_iff_eq_take.1 hsq.pre
    conv => lhs; rw [← List.take_append_drop (flat (labs ys)).length s.data.toList, ← this]
  rw [hx]
  constructor
  · intro e
    rw [e] at hs
    obtain ⟨h1, h2⟩ := hsq.is_name h3 h hs (fun l hl => (hsq.lab l hl).1)
    exact ⟨_, h1, h2⟩
  · rintro ⟨ls, ho, rfl⟩
    have hp : labs ys = ls := hsq.all_name ho hen
    rw [hp, nm_list]; simp [nmL]

theorem right_stop {s : ByteArray} {pre : List (Lab N)} (hsq : Seq s (labs pre)) {l : List UInt8} (hl : l ∈ labs pre) (h63 : 63 < l.length) : (false = true ↔ IsName s) := by
  refine ⟨fun h => (by cases h), ?_⟩
  rintro ⟨ls, ho, rfl⟩
  have := ho.lab l ((hsq.of_name ho).subset hl)
  omega

theorem right_long (s : ByteArray) (w : World) (hm : s.size ≤ maxLen) (h : 255 < s.size) :
    Calls Tryz.prog 73 #[.string s] w fun e w' => e = .returned (.bool false) ∧ Below w.heap.size w w' := by
  unfold maxLen at hm
  go_enter Tryz.func73, Tryz.ntmps73
  go_wp2
  refine bodyPost_ret (v := .bool false) (by simp [results, Tryz.results73, go_sem]) rfl ⟨rfl, ?_⟩
  exact (Below.refl _ _).alloc (Nat.le_refl _) _

set_option maxRecDepth 100000 in
set_option maxHeartbeats 1000000 in
theorem right_short (s : ByteArray) (w : World) (h : s.size ≤ 255) :
    Calls Tryz.prog 73 #[.string s] w fun e w' => (∃ b, e = .returned (.bool b) ∧ (b = true ↔ IsName s)) ∧ Below w.heap.size w w' := by
  have hb255 : decide (255 < (s.size : Int)) = false := by simp; omega
  refine (callsIn_wide (n := 5)).1 ?_
  refine callsIn_of_wp_marks Tryz.func73 rfl trivial ?_ rfl
  simp only [Tryz.ntmps73, List.size_toArray, List.length_cons, List.length_nil, Nat.reduceAdd, Nat.reduceSub, Array.replicate_succ, Array.replicate_zero, List.push_toArray, List.append_toArray, List.nil_append, List.cons_append]
  gi_wp2_with (refine ⟨trivial, ?_⟩; gi_at_call 123; refine (callsIn_wide.2 (eachLabel_in _ _)).mono ?_; rintro e w' ⟨rfl, rfl⟩)
  have hs : ((((w.alloc (.cells #[.bool false] 4)).alloc (.cells #[.int .i64 0] 3))).alloc (.cells #[.string s] 9)).cell? ⟨w.heap.size + 1 + 1, 0, none⟩ = some (.string s) := by
    have := (Boxed.new (((w.alloc (.cells #[.bool false] 4)).alloc (.cells #[.int .i64 0] 3))) 9 (.string s)).cell
    rwa [World.size_alloc, World.size_alloc] at this
  refine wpIn_rangeFunc_ownF rfl (by omega) (gf := 142) (lb := #[.pointer (some ⟨w.heap.size + 1 + 1, 0, none⟩)]) rfl trivial (enters_of Tryz.func142 (by kernel_rfl) rfl)
    (eachLabel_stops Fence.wide (5 - 1) trivial rfl (by omega) (w.heap.size + 1 + 1) s h _ (by simp) hs) KeepCell.t KeepCell.b (Below.refl _ _) (fun _ => rfl)
    (fun pre W => (Boxed W w.heap.size 4 (.bool false) ∧ Boxed W (w.heap.size + 1) 3 (.int .i64 (endOf pre)) ∧ (∀ l ∈ labs pre, l.length ≤ 63)) ∧ Below w.heap.size w W)
    (fun c pre W => (c = .ret ∧ Boxed W w.heap.size 4 (.bool false) ∧ ∃ l ∈ labs pre, 63 < l.length) ∧ Below w.heap.size w W)
    ?hI ?hIx ?h0 (fun x => { tmps := #[.string s, undef, .pointer (some ⟨w.heap.size, 0, none⟩), .pointer (some ⟨w.heap.size + 1, 0, none⟩), .int .i64 (x.1.1 : Int), .string x.1.2, .string s, .int .i64 s.size, .bool false, .string s, .func (.func 142) #[] #[.pointer (some ⟨w.heap.size + 1 + 1, 0, none⟩)], .int .i64 (x.1.1 : Int), .string x.1.2, undef, undef, undef, undef, undef, undef, undef, undef, undef, undef, undef, undef], defers := [] }) ?assign ?body ?done ?stop
  case hI =>
    exact OwnFrom.and (OwnFrom.and (Own.from (boxed_own _ _ _) _) (OwnFrom.and (Own.from (boxed_own _ _ _) _) (ownFrom_pure _ _))) (ownFrom_below (Nat.le_refl _) (by simp; omega))
  case hIx =>
    intro c
    exact OwnFrom.and (OwnFrom.and (ownFrom_pure _ _) (OwnFrom.and (Own.from (boxed_own _ _ _) _) (ownFrom_pure _ _))) (ownFrom_below (Nat.le_refl _) (by simp; omega))
  case h0 =>
    refine ⟨⟨((Boxed.new _ _ _).alloc _).alloc _, ?_, by simp [labs]⟩, (((Below.refl _ _).alloc (Nat.le_refl _) _).alloc (by simp) _).alloc (by simp; omega) _⟩
    have := (Boxed.new (w.alloc (.cells #[.bool false] 4)) 3 (.int .i64 0)).alloc (.cells #[.string s] 9)
    rwa [World.size_alloc] at this
  case assign =>
    intro l x W K hK
    gi_wp2
    exact hK
  case body =>
    rintro l pre x W ⟨⟨h1, h2, h3⟩, hB⟩ _
    have hx1 := x.2.1
    have hx2 := x.2.2
    have hc1 := h1.cell
    have hf1 := h1.frozen
    have hc2 := h2.cell
    have hf2 := h2.frozen
    by_cases hlen : x.1.2.size ≤ 63
    · gi_wp2
      refine ⟨KeepsOthers.setCell _ _ _, KeepCell.setCell _ _ (by omega), ⟨h1.other (by omega) _, ?_, ?_⟩, hB.setCell (p := ⟨w.heap.size + 1, 0, none⟩) (by simp) _⟩
      · have := h2.set (.int .i64 ((endOf (pre ++ [x]) : Nat) : Int))
        rw [endOf_snoc] at this ⊢
        exact this
      · rw [labs_snoc]; intro l' hl'
        rcases List.mem_append.1 hl' with h' | h'
        · exact h3 l' h'
        · simp only [List.mem_singleton] at h'; subst h'; exact hlen
    · gi_wp2
      refine ⟨KeepsOthers.setCell _ _ _, ⟨rfl, h1.set _, ?_⟩, hB.setCell (p := ⟨w.heap.size, 0, none⟩) (by simp) _⟩
      rw [labs_snoc]; exact ⟨x.1.2.data.toList, by simp, by rw [size_list]; omega⟩
  case done =>
    rintro D ys W hD ⟨hsq, hpl, hen⟩ ⟨⟨h1, h2, h3⟩, hB⟩ hK
    have hc1 := h1.cell
    have hf1 := h1.frozen
    have hc2 := h2.cell
    have he : endOf ys ≤ s.size := by rw [endOf_placed hpl]; exact hsq.le
    have Hfin : Hid ((((s.extract (endOf ys) s.size).toList == [0]) = true) ↔ IsName s) := right_fin hsq hpl hen h3 h
    generalize hbv : ((s.extract (endOf ys) s.size).toList == [0]) = bv at Hfin
    have HBV := Hid.mk hbv
    clear hbv h3
    gi_wp2
    rw [HBV.out]
    have hK' := (KeepsOthers.setCell W ⟨w.heap.size, 0, none⟩ (.bool bv)).same D _ hK rfl
    refine ⟨by simp, .inl ⟨_, _, rfl, run_takeDeferred hK', ?_⟩⟩
    have hc5 := cell_kept (World.cell?_setCell_same' W ⟨w.heap.size, 0, none⟩ (.bool bv) (by rw [hc1]; rfl)) (grownBy_putObj' _ D (.deferred none)) (fun r e => by cases e; exact ⟨_, hK', rfl⟩)
    refine ⟨.bool bv, ?_, ⟨bv, rfl, Hfin.out⟩, (hB.setCell (p := ⟨w.heap.size, 0, none⟩) (by simp) _).trans (belowK_b (w := w) (Nat.le_refl _) _ D _ _ (by simp at hD; omega) hK' rfl rfl)⟩
    simp [results, Tryz.f73, go_sem, hc5]
  case stop =>
    rintro D c pre W hD ⟨hsq, hpl⟩ ⟨⟨rfl, h1, l, hl, h63⟩, hB⟩ hK
    gi_wp2
    refine ⟨by simp, .inl ⟨_, _, rfl, run_takeDeferred hK, ?_⟩⟩
    have hc5 := cell_kept h1.cell (grownBy_putObj' _ D (.deferred none)) (fun r e => by cases e; exact ⟨_, hK, rfl⟩)
    refine ⟨.bool false, ?_, ⟨false, rfl, right_stop hsq hl h63⟩, hB.trans (belowK_b (w := w) (Nat.le_refl _) W D _ _ (by simp at hD; omega) hK rfl rfl)⟩
    simp [results, Tryz.f73, go_sem, hc5]

theorem right_yes (ls : List (List UInt8)) (ho : OkN ls) (w : World) :
    Calls Tryz.prog 73 #[.string (nm ls)] w fun e w' => e = .returned (.bool true) ∧ Below w.heap.size w w' :=
  (right_short (nm ls) w (by rw [nm_size]; have := ho.len; omega)).mono fun e w' ⟨⟨b, he, hb⟩, h⟩ => ⟨by rw [he, hb.2 ⟨ls, ho, rfl⟩], h⟩

theorem right_no (s : ByteArray) (hn : ¬ IsName s) (hm : s.size ≤ maxLen) (w : World) :
    Calls Tryz.prog 73 #[.string s] w fun e w' => e = .returned (.bool false) ∧ Below w.heap.size w w' := by
  by_cases h : s.size ≤ 255
  · refine (right_short s w h).mono fun e w' ⟨⟨b, he, hb⟩, hB⟩ => ⟨?_, hB⟩
    cases b with
    | false => exact he
    | true => exact absurd (hb.1 rfl) hn
  · exact right_long s w hm (by omega)

end Go.Proofs.YtkohkkakbcjgcabGreatDoor
