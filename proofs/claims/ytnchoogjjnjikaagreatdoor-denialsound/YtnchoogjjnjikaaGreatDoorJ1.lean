/- Texts of this proof, joined: Plain, Each, Right, DRead, DParts, Leaf. -/
import Derived.Lib.Strings
import Derived.Lib.IndexBytes
import Derived.RangeFuncNested
import Derived.RangeFuncBound
import Derived.RangeFuncCalls
import Derived.RangeFuncLeaves
import Derived.RangeFuncBox
import Derived.Shelf.Abstract
import Derived.Shelf.RegionOpen
import Derived.WalkKit
import Derived.WalkSpells
import Derived.WalkLawsBesides
import Derived.OwnWalkIn
import Derived.TacticsInMore
import Derived.LoopNIn
import Derived.LoopIn
import Derived.Test.YtnchoogjjnjikaaGreatDoorRows
import Derived.Laws.Bits64b
import Derived.Defers
import Derived.Recover
import Derived.Laws.EntriesVeiled
/- Plain facts on names: a name is the list of its labels; its bytes are each label behind its length, and a byte 0. Nothing here speaks of the program. -/
namespace Go.Proofs.YtnchoogjjnjikaaGreatDoor
set_option linter.unusedVariables false
def flat : List (List UInt8) → List UInt8
  | [] => []
  | l :: ls => UInt8.ofNat l.length :: (l ++ flat ls)
def nmL (ls : List (List UInt8)) : List UInt8 := flat ls ++ [0]
def nm (ls : List (List UInt8)) : ByteArray := ⟨(nmL ls).toArray⟩
structure OkN (ls : List (List UInt8)) : Prop where
  lab : ∀ l ∈ ls, 1 ≤ l.length ∧ l.length ≤ 63
  len : (flat ls).length ≤ 254
def IsName (s : ByteArray) : Prop := ∃ ls, OkN ls ∧ s = nm ls
theorem flat_append (a b : List (List UInt8)) : flat (a ++ b) = flat a ++ flat b := by
  induction a with
  | nil => rfl
  | cons l ls ih => simp [flat, ih]
theorem flat_snoc (a : List (List UInt8)) (l : List UInt8) : flat (a ++ [l]) = flat a ++ (UInt8.ofNat l.length :: l) := by
  rw [flat_append]; simp [flat]
theorem size_list (s : ByteArray) : s.data.toList.length = s.size := rfl
theorem ba_ext {s t : ByteArray} (h : s.data.toList = t.data.toList) : s = t := by
  cases s; cases t; congr; exact Array.toList_inj.1 h
theorem ba_toList (l : List UInt8) : (ByteArray.mk l.toArray).data.toList = l := rfl
theorem ba_size (l : List UInt8) : (ByteArray.mk l.toArray).size = l.length := rfl
theorem nm_list (ls : List (List UInt8)) : (nm ls).data.toList = nmL ls := rfl
theorem nm_size (ls : List (List UInt8)) : (nm ls).size = (flat ls).length + 1 := by
  show (nmL ls).length = _; simp [nmL]
theorem getElem_list (s : ByteArray) (k : Nat) (h : k < s.size) : s.data.toList[k]'(by rw [size_list]; exact h) = s[k] := rfl
structure Seq (s : ByteArray) (p : List (List UInt8)) : Prop where
  pre : flat p <+: s.data.toList
  lab : ∀ l ∈ p, 1 ≤ l.length ∧ l.length ≤ 255
def Ends (s : ByteArray) (k : Nat) : Prop := ∀ h : k < s.size, s[k] = 0 ∨ s.size < k + 1 + s[k].toNat
theorem Seq.nil (s : ByteArray) : Seq s [] := ⟨⟨_, rfl⟩, by simp⟩
theorem Seq.le {s : ByteArray} {p : List (List UInt8)} (h : Seq s p) : (flat p).length ≤ s.size := by
  have := h.pre.length_le; rwa [size_list] at this
theorem Seq.snoc {s : ByteArray} {p : List (List UInt8)} (h : Seq s p) {k : Nat} (hk : k = (flat p).length) (hlt : k < s.size) (hc : s[k] ≠ 0) (hn : k + 1 + s[k].toNat ≤ s.size) :
    Seq s (p ++ [((s.extract (k + 1) (k + 1 + s[k].toNat)).data.toList)]) ∧ (s.extract (k + 1) (k + 1 + s[k].toNat)).size = s[k].toNat := by
  have hsz : (s.extract (k + 1) (k + 1 + s[k].toNat)).size = s[k].toNat := by
    rw [ByteArray.size_extract]; omega
  refine ⟨⟨?_, ?_⟩, hsz⟩
  · rw [flat_snoc, size_list, hsz, UInt8.ofNat_toNat]
    have e1 : s.data.toList = s.data.toList.take k ++ s.data.toList.drop k := (List.take_append_drop k _).symm
    have e2 : s.data.toList.take k = flat p := by
      have := List.prefix_iff_eq_take.1 h.pre; rw [hk]; exact this.symm
    have e3 : s.data.toList.drop k = s[k] :: s.data.toList.drop (k + 1) := by
      rw [List.drop_eq_getElem_cons (by rw [size_list]; exact hlt)]; rfl
    have e4 : (s.extract (k + 1) (k + 1 + s[k].toNat)).data.toList = (s.data.toList.drop (k + 1)).take (s[k].toNat) := by
      rw [Lib.extract_data]; simp
    rw [e1, e2, e3, e4]
    refine (List.prefix_append_right_inj _).2 ?_
    exact List.cons_prefix_cons.2 ⟨rfl, List.take_prefix _ _⟩
  · intro l hl
    rcases List.mem_append.1 hl with h1 | h1
    · exact h.lab l h1
    · simp only [List.mem_singleton] at h1
      subst h1
      rw [size_list, hsz]
      have : s[k].toNat ≠ 0 := fun e => hc (by rw [← UInt8.ofNat_toNat (x := s[k]), e]; rfl)
      have := s[k].toNat_lt
      omega
theorem Seq.snoc_len {s : ByteArray} {p : List (List UInt8)} {k : Nat} (hk : k = (flat p).length) (hlt : k < s.size) (hn : k + 1 + s[k].toNat ≤ s.size) :
    (flat (p ++ [((s.extract (k + 1) (k + 1 + s[k].toNat)).data.toList)])).length = k + 1 + s[k].toNat := by
  rw [flat_snoc, List.length_append, List.length_cons, size_list, ByteArray.size_extract]; omega
theorem ofNat_inj {a b : Nat} (ha : a ≤ 255) (hb : b ≤ 255) (h : UInt8.ofNat a = UInt8.ofNat b) : a = b := by
  have := congrArg UInt8.toNat h
  simpa [UInt8.toNat_ofNat', Nat.mod_eq_of_lt (show a < 256 by omega), Nat.mod_eq_of_lt (show b < 256 by omega)] using this
theorem flat_prefix : ∀ (p ls : List (List UInt8)), (∀ l ∈ p, 1 ≤ l.length ∧ l.length ≤ 255) → (∀ l ∈ ls, 1 ≤ l.length ∧ l.length ≤ 63) → flat p <+: flat ls ++ [0] → p <+: ls
  | [], _, _, _, _ => List.nil_prefix
  | l :: p, [], hp, _, h => by
    have := (List.cons_prefix_cons.1 (show UInt8.ofNat l.length :: (l ++ flat p) <+: 0 :: [] from h)).1
    have h1 := hp l (by simp)
    have := ofNat_inj h1.2 (by omega : 0 ≤ 255) this
    omega
  | l :: p, m :: ls, hp, hl, h => by
    have hh := List.cons_prefix_cons.1 (show UInt8.ofNat l.length :: (l ++ flat p) <+: UInt8.ofNat m.length :: ((m ++ flat ls) ++ [0]) from h)
    have h1 := hp l (by simp)
    have h2 := hl m (by simp)
    have e := ofNat_inj h1.2 (by omega : m.length ≤ 255) hh.1
    have h3 := hh.2
    rw [List.append_assoc] at h3
    have elm : l = m := by
      have a1 : l <+: m ++ (flat ls ++ [0]) := (List.prefix_append _ _).trans h3
      have a2 : m <+: m ++ (flat ls ++ [0]) := List.prefix_append _ _
      exact (List.prefix_of_prefix_length_le a1 a2 (by omega)).eq_of_length e
    subst elm
    have h4 := (List.prefix_append_right_inj _).1 h3
    exact List.cons_prefix_cons.2 ⟨rfl, flat_prefix p ls (fun x hx => hp x (by simp [hx])) (fun x hx => hl x (by simp [hx])) h4⟩
theorem Seq.of_name {ls p : List (List UInt8)} (ho : OkN ls) (h : Seq (nm ls) p) : p <+: ls :=
  flat_prefix p ls h.lab ho.lab h.pre
theorem nm_get_end (ls : List (List UInt8)) (h : (flat ls).length < (nm ls).size) : (nm ls)[(flat ls).length] = 0 := by
  rw [← getElem_list _ _ h]
  simp [nm_list, nmL]
theorem Seq.all_name {ls p : List (List UInt8)} (ho : OkN ls) (h : Seq (nm ls) p) (he : Ends (nm ls) (flat p).length) : p = ls := by
  obtain ⟨q, hq⟩ := h.of_name ho
  cases q with
  | nil => simpa using hq
  | cons m q =>
    exfalso
    have hm := ho.lab m (by rw [← hq]; simp)
    have hfl : flat ls = flat p ++ (UInt8.ofNat m.length :: (m ++ flat q)) := by rw [← hq, flat_append]; rfl
    have hlt : (flat p).length < (nm ls).size := by rw [nm_size, hfl]; simp; omega
    have hc : (nm ls)[(flat p).length] = UInt8.ofNat m.length := by
      rw [← getElem_list _ _ hlt]
      simp [nm_list, nmL, hfl]
    have ht : (UInt8.ofNat m.length).toNat = m.length := by simp [UInt8.toNat_ofNat']; omega
    rcases he hlt with e | e
    · rw [hc] at e
      have := ofNat_inj (by omega) (by omega : 0 ≤ 255) e
      omega
    · rw [hc, ht, nm_size, hfl] at e
      simp at e; omega
theorem Seq.is_name {s : ByteArray} {p : List (List UInt8)} (_h : Seq s p) (h63 : ∀ l ∈ p, l.length ≤ 63) (hs : s.size ≤ 255) (hd : s.data.toList = flat p ++ [0]) (h1 : ∀ l ∈ p, 1 ≤ l.length) : OkN p ∧ s = nm p := by
  refine ⟨⟨fun l hl => ⟨h1 l hl, h63 l hl⟩, ?_⟩, ba_ext hd⟩
  rw [← size_list, hd] at hs; simp at hs; omega
end Go.Proofs.YtnchoogjjnjikaaGreatDoor
/- eachLabel and what it hands back: over any bytes (at most 255) the labels come one behind the other, each with the place of its length byte. -/
namespace Go.Proofs.YtnchoogjjnjikaaGreatDoor
set_option linter.unusedVariables false
open Go.RowKit Go.Shelf
attribute [local go_sem] Oper.semAt_some
abbrev Lab (N : Nat) := { x : Nat × ByteArray // x.1 < N ∧ x.2.size ≤ 255 }
variable {N : Nat}
abbrev labEnc (x : Lab N) : Array Value := #[.int .i64 (x.1.1 : Int), .string x.1.2]
def labs (p : List (Lab N)) : List (List UInt8) := p.map fun x => x.1.2.data.toList
theorem labs_snoc (p : List (Lab N)) (x : Lab N) : labs (p ++ [x]) = labs p ++ [x.1.2.data.toList] := by simp [labs]
def Placed : List (Lab N) → Prop := fun p => ∀ i (h : i < p.length), (p[i]).1.1 = (flat (labs (p.take i))).length
theorem Placed.nil : Placed ([] : List (Lab N)) := fun i h => by simp at h
theorem Placed.snoc {p : List (Lab N)} (h : Placed p) {x : Lab N} (hx : x.1.1 = (flat (labs p)).length) : Placed (p ++ [x]) := by
  intro i hi
  rw [List.length_append, List.length_singleton] at hi
  by_cases e : i < p.length
  · rw [List.getElem_append_left e, h i e, List.take_append_of_le_length (by omega)]
  · obtain rfl : i = p.length := by omega
    simp [hx]
def KeepCell (b : Nat) (W W' : World) : Prop := ∀ v, W.cell? ⟨b, 0, none⟩ = some v → W'.cell? ⟨b, 0, none⟩ = some v
theorem KeepCell.refl (b : Nat) (W : World) : KeepCell b W W := fun _ h => h
theorem KeepCell.t {b : Nat} {A B C : World} (h : KeepCell b A B) (k : KeepCell b B C) : KeepCell b A C := fun v hv => k v (h v hv)
theorem KeepCell.b {b N' : Nat} (W : World) (l : Nat) (o o' : Obj) (_ : N' ≤ l) (h : W.heap[l]? = some o) (hc : o.isCells = false) (_ : o.isWalk = false) : KeepCell b W (W.putObj l o') :=
  fun _ hv => cell_kept hv (grownBy_putObj' W l o') (fun r e => by cases e; exact ⟨o, h, hc⟩)
theorem KeepCell.of_block {b : Nat} {W W' : World} (h : W'.heap[b]? = W.heap[b]?) : KeepCell b W W' := fun v hv => (World.cell?_of_block (w := W) (a := ⟨b, 0, none⟩) h).trans hv
theorem KeepCell.setCell {b B : Nat} (W : World) (v : Value) (hne : b ≠ B) : KeepCell b W (W.setCell ⟨B, 0, none⟩ v) := KeepCell.of_block (Below.heap_setCell _ _ _ _ hne)
theorem KeepCell.below {b N' : Nat} {W W' : World} (h : Below N' W W') (hb : b < N') : KeepCell b W W' := KeepCell.of_block (h.block b hb)
theorem flat_count : ∀ (p : List (List UInt8)), (∀ l ∈ p, 1 ≤ l.length) → 2 * p.length ≤ (flat p).length
  | [], _ => by simp [flat]
  | l :: p, h => by
    have h1 := h l (by simp)
    have h2 := flat_count p (fun x hx => h x (by simp [hx]))
    simp [flat]; omega
theorem labs_short {s : ByteArray} {p : List (Lab N)} (h : Seq s (labs p)) (hs : s.size ≤ 255) : p.length < 256 := by
  have h1 := flat_count _ (fun l hl => (h.lab l hl).1)
  have h2 := h.le
  simp [labs] at h1; simp [labs] at h2; omega
theorem eachLabel_in (s : ByteArray) (w : World) :
    Calls Tryz.prog 36 #[.string s] w fun e w' => e = .returned (.func (.func 61) #[] #[.pointer (some ⟨w.heap.size, 0, none⟩)]) ∧ w' = w.alloc (.cells #[.string s] 9) := by
  go_enter Tryz.func36, Tryz.ntmps36
  go_wp2
  go_ret
  exact ⟨rfl, rfl⟩
set_option maxRecDepth 100000 in
set_option maxHeartbeats 1000000 in
theorem each1_in (F : Fence) (n : Nat) (h6 : F.fn 61) (hro : F.round = none) (hn : 1 ≤ n) (l Bn : Nat) (s : ByteArray) (hs : s.size ≤ 255) (J Jx : List (Lab s.size) → World → Prop)
    (hY : ∀ pre x W, J pre W → pre.length < 256 → YieldAt F (n - 1) Tryz.prog l (labEnc x) W fun e W' =>
      (e = .returned (.bool true) ∧ J (pre ++ [x]) W' ∧ KeepCell Bn W W') ∨ (e = .returned (.bool false) ∧ Jx (pre ++ [x]) W'))
    (W : World) (hBn : W.cell? ⟨Bn, 0, none⟩ = some (.string s)) (h0 : J [] W) :
    CallsIn F n Tryz.prog 61 #[.func (.yield l) #[] #[], .pointer (some ⟨Bn, 0, none⟩)] W fun e W' => (∃ v, e = .returned v) ∧
      ((∃ ys : List (Lab s.size), (Seq s (labs ys) ∧ Placed ys ∧ Ends s (flat (labs ys)).length) ∧ J ys W') ∨ (∃ pre : List (Lab s.size), (Seq s (labs pre) ∧ Placed pre) ∧ Jx pre W')) := by
  refine callsIn_of_wp Tryz.func61 rfl h6 ?_ hro
  simp only [Tryz.ntmps61, List.size_toArray, List.length_cons, List.length_nil, Nat.reduceAdd, Nat.reduceSub, Array.replicate_succ, Array.replicate_zero, List.push_toArray, List.append_toArray, List.nil_append, List.cons_append]
  gi_wp2
  gi_loopw [3] (fun i wr => ∃ (k : Nat) (pre : List (Lab s.size)), i = .int .i64 k ∧ k = (flat (labs pre)).length ∧ Seq s (labs pre) ∧ Placed pre ∧ J pre wr ∧ wr.cell? ⟨Bn, 0, none⟩ = some (.string s))
    (fun i _ => s.size - (intOf i).toNat)
  case atStart => exact ⟨0, [], rfl, rfl, Seq.nil s, Placed.nil, h0, hBn⟩
  case round =>
    obtain ⟨k, pre, rfl, hk, hsq, hpl, hJs, hcx⟩ := hrel
    have HK : Hid (k = (flat (labs pre)).length) := hk
    clear hk
    have hkle : k ≤ s.size := by rw [HK.out]; exact hsq.le
    by_cases hlt : k < s.size
    · by_cases hz : s[k] = 0
      · have hzb : ((s[k].toNat : Int) != 0) = false := by rw [hz]; rfl
        have hE : Hid (Ends s (flat (labs pre)).length) := by
          show Ends s _; rw [← HK.out]; exact fun _ => .inl hz
        clear hz
        gi_wp2
        go_end0
        exact ⟨⟨_, rfl⟩, .inl ⟨pre, ⟨hsq, hpl, hE.out⟩, hJs⟩⟩
      · have hzb : ((s[k].toNat : Int) != 0) = true := by
          rw [bne_iff_ne]; intro e; exact hz (by rw [← UInt8.ofNat_toNat (x := s[k]), show s[k].toNat = 0 by omega]; rfl)
        by_cases hfit : k + 1 + s[k].toNat ≤ s.size
        · have hu := s[k].toNat_lt
          have hsz : (s.extract (k + 1) (k + 1 + s[k].toNat)).size ≤ 255 := by rw [ByteArray.size_extract]; omega
          obtain ⟨fn, tmps, assign, body, hy, hR⟩ := hY _ ⟨(k, s.extract (k + 1) (k + 1 + s[k].toNat)), hlt, hsz⟩ wr hJs (labs_short hsq hs)
          dsimp only [labEnc] at hy
          have HS := Seq.snoc hsq HK.out hlt hz hfit
          have HL := Seq.snoc_len HK.out hlt hfit
          have HS' : Hid _ := HS
          have HL' : Hid _ := HL
          clear HS HL hz
          gi_wp2
          refine hR.mono ?_
          rintro e W3 (⟨rfl, hJ3, hk3⟩ | ⟨rfl, hJx3⟩)
          · gi_wp2
            go_roundw
            case rel => exact ⟨k + 1 + s[k].toNat, _, by go_num, by rw [labs_snoc]; exact HL'.out.symm, by rw [labs_snoc]; exact HS'.out.1, hpl.snoc HK.out, hJ3, hk3 _ hcx⟩
            case measure => simp [intOf]; omega
          · gi_wp2
            refine bodyPost_ret (results_none rfl _ _ _) rfl ?_
            exact ⟨⟨_, rfl⟩, .inr ⟨_, ⟨by rw [labs_snoc]; exact HS'.out.1, hpl.snoc HK.out⟩, hJx3⟩⟩
        · have hE : Hid (Ends s (flat (labs pre)).length) := by
            show Ends s _; rw [← HK.out]; exact fun _ => .inr (by omega)
          have hu := s[k].toNat_lt
          have hfit' : s.size < k + 1 + s[k].toNat := by omega
          clear hz hfit
          gi_wp2
          refine ⟨fun _ h => (by cases h), ?_⟩
          gi_wp2
          refine bodyPost_ret (results_none rfl _ _ _) rfl ?_
          exact ⟨⟨_, rfl⟩, .inl ⟨pre, ⟨hsq, hpl, hE.out⟩, hJs⟩⟩
    · have hE : Hid (Ends s (flat (labs pre)).length) := by
        show Ends s _; rw [← HK.out]; exact fun h => absurd h hlt
      gi_wp2
      go_end0
      exact ⟨⟨_, rfl⟩, .inl ⟨pre, ⟨hsq, hpl, hE.out⟩, hJs⟩⟩
theorem eachLabel_stops (F : Fence) (n : Nat) (h6 : F.fn 61) (hro : F.round = none) (hn : 1 ≤ n) (Bn : Nat) (s : ByteArray) (hs : s.size ≤ 255) (w : World) (hBw : Bn < w.heap.size)
    (hBn : w.cell? ⟨Bn, 0, none⟩ = some (.string s)) :
    SeqStopsK F n Tryz.prog 61 #[.pointer (some ⟨Bn, 0, none⟩)] labEnc (KeepCell Bn) (fun ys : List (Lab s.size) => Seq s (labs ys) ∧ Placed ys ∧ Ends s (flat (labs ys)).length) (fun pre : List (Lab s.size) => Seq s (labs pre) ∧ Placed pre) 256 w :=
  fun l J Jx W hW _ _ hY h0 => each1_in F n h6 hro hn l Bn s hs J Jx hY W ((hW.cell (p := ⟨Bn, 0, none⟩) hBw).trans hBn) h0
end Go.Proofs.YtnchoogjjnjikaaGreatDoor
/- Right: of any bytes it tells whether they are a name. -/
namespace Go.Proofs.YtnchoogjjnjikaaGreatDoor
set_option linter.unusedVariables false
open Go.RowKit Go.Shelf
attribute [local go_sem] Oper.semAt_some
variable {N : Nat}
def endOf (p : List (Lab N)) : Nat := match p.getLast? with | none => 0 | some x => x.1.1 + 1 + x.1.2.size
theorem endOf_snoc (p : List (Lab N)) (x : Lab N) : endOf (p ++ [x]) = x.1.1 + 1 + x.1.2.size := by simp [endOf]
theorem endOf_placed : ∀ {p : List (Lab N)}, Placed p → endOf p = (flat (labs p)).length := by
  intro p h
  rcases List.eq_nil_or_concat p with rfl | ⟨q, x, rfl⟩
  · rfl
  · rw [List.concat_eq_append] at h ⊢
    rw [endOf_snoc, labs_snoc, flat_snoc]
    have := h q.length (by simp)
    simp at this
    simp [this]; omega
theorem Hid.mk {p : Prop} (h : p) : Hid p := h
theorem right_fin {s : ByteArray} {ys : List (Lab N)} (hsq : Seq s (labs ys)) (hpl : Placed ys) (hen : Ends s (flat (labs ys)).length) (h3 : ∀ l ∈ labs ys, l.length ≤ 63) (h : s.size ≤ 255) :
    (((s.extract (endOf ys) s.size).toList == [0]) = true) ↔ IsName s := by
  rw [endOf_placed hpl, beq_iff_eq, ByteArray.toList_eq]
  have hx : (s.extract (flat (labs ys)).length s.size).data.toList = s.data.toList.drop (flat (labs ys)).length := by
    rw [Lib.extract_data]; exact List.take_of_length_le (by rw [List.length_drop, size_list]; exact Nat.le_refl _)
  have hs : s.data.toList = flat (labs ys) ++ s.data.toList.drop (flat (labs ys)).length := by
    have := List.prefix_iff_eq_take.1 hsq.pre
    conv => lhs; rw [← List.take_append_drop (flat (labs ys)).length s.data.toList, ← this]
  rw [hx]
  constructor
  · intro e
    rw [e] at hs
    obtain ⟨h1, h2⟩ := hsq.is_name h3 h hs (fun l hl => (hsq.lab l hl).1)
    exact ⟨_, h1, h2⟩
  · rintro ⟨ls, ho, rfl⟩
    have hp : labs ys = ls := hsq.all_name ho hen
    rw [hp, nm_list]; simp [nmL]
theorem right_stop {s : ByteArray} {pre : List (Lab N)} (hsq : Seq s (labs pre)) {l : List UInt8} (hl : l ∈ labs pre) (h63 : 63 < l.length) : (false = true ↔ IsName s) := by
  refine ⟨fun h => (by cases h), ?_⟩
  rintro ⟨ls, ho, rfl⟩
  have := ho.lab l ((hsq.of_name ho).subset hl)
  omega
theorem right_long (s : ByteArray) (w : World) (hm : s.size ≤ maxLen) (h : 255 < s.size) :
    Calls Tryz.prog 19 #[.string s] w fun e w' => e = .returned (.bool false) ∧ Below w.heap.size w w' := by
  unfold maxLen at hm
  go_enter Tryz.func19, Tryz.ntmps19
  go_wp2
  refine bodyPost_ret (v := .bool false) (by simp [results, Tryz.results19, go_sem]) rfl ⟨rfl, ?_⟩
  exact (Below.refl _ _).alloc (Nat.le_refl _) _
set_option maxRecDepth 100000 in
set_option maxHeartbeats 1000000 in
theorem right_short (s : ByteArray) (w : World) (h : s.size ≤ 255) :
    Calls Tryz.prog 19 #[.string s] w fun e w' => (∃ b, e = .returned (.bool b) ∧ (b = true ↔ IsName s)) ∧ Below w.heap.size w w' := by
  have hb255 : decide (255 < (s.size : Int)) = false := by simp; omega
  refine (callsIn_wide (n := 5)).1 ?_
  refine callsIn_of_wp_marks Tryz.func19 rfl trivial ?_ rfl
  simp only [Tryz.ntmps19, List.size_toArray, List.length_cons, List.length_nil, Nat.reduceAdd, Nat.reduceSub, Array.replicate_succ, Array.replicate_zero, List.push_toArray, List.append_toArray, List.nil_append, List.cons_append]
  gi_wp2_with (refine ⟨trivial, ?_⟩; gi_at_call 36; refine (callsIn_wide.2 (eachLabel_in _ _)).mono ?_; rintro e w' ⟨rfl, rfl⟩)
  have hs : ((((w.alloc (.cells #[.bool false] 4)).alloc (.cells #[.int .i64 0] 3))).alloc (.cells #[.string s] 9)).cell? ⟨w.heap.size + 1 + 1, 0, none⟩ = some (.string s) := by
    have := (Boxed.new (((w.alloc (.cells #[.bool false] 4)).alloc (.cells #[.int .i64 0] 3))) 9 (.string s)).cell
    rwa [World.size_alloc, World.size_alloc] at this
  refine wpIn_rangeFunc_ownF rfl (by omega) (gf := 61) (lb := #[.pointer (some ⟨w.heap.size + 1 + 1, 0, none⟩)]) rfl trivial (enters_of Tryz.func61 (by kernel_rfl) rfl)
    (eachLabel_stops Fence.wide (5 - 1) trivial rfl (by omega) (w.heap.size + 1 + 1) s h _ (by simp) hs) KeepCell.t KeepCell.b (Below.refl _ _) (fun _ => rfl)
    (fun pre W => (Boxed W w.heap.size 4 (.bool false) ∧ Boxed W (w.heap.size + 1) 3 (.int .i64 (endOf pre)) ∧ (∀ l ∈ labs pre, l.length ≤ 63)) ∧ Below w.heap.size w W)
    (fun c pre W => (c = .ret ∧ Boxed W w.heap.size 4 (.bool false) ∧ ∃ l ∈ labs pre, 63 < l.length) ∧ Below w.heap.size w W)
    ?hI ?hIx ?h0 (fun x => { tmps := #[.string s, undef, .pointer (some ⟨w.heap.size, 0, none⟩), .pointer (some ⟨w.heap.size + 1, 0, none⟩), .int .i64 (x.1.1 : Int), .string x.1.2, .string s, .int .i64 s.size, .bool false, .string s, .func (.func 61) #[] #[.pointer (some ⟨w.heap.size + 1 + 1, 0, none⟩)], .int .i64 (x.1.1 : Int), .string x.1.2, undef, undef, undef, undef, undef, undef, undef, undef, undef, undef, undef, undef], defers := [] }) ?assign ?body ?done ?stop
  case hI =>
    exact OwnFrom.and (OwnFrom.and (Own.from (boxed_own _ _ _) _) (OwnFrom.and (Own.from (boxed_own _ _ _) _) (ownFrom_pure _ _))) (ownFrom_below (Nat.le_refl _) (by simp; omega))
  case hIx =>
    intro c
    exact OwnFrom.and (OwnFrom.and (ownFrom_pure _ _) (OwnFrom.and (Own.from (boxed_own _ _ _) _) (ownFrom_pure _ _))) (ownFrom_below (Nat.le_refl _) (by simp; omega))
  case h0 =>
    refine ⟨⟨((Boxed.new _ _ _).alloc _).alloc _, ?_, by simp [labs]⟩, (((Below.refl _ _).alloc (Nat.le_refl _) _).alloc (by simp) _).alloc (by simp; omega) _⟩
    have := (Boxed.new (w.alloc (.cells #[.bool false] 4)) 3 (.int .i64 0)).alloc (.cells #[.string s] 9)
    rwa [World.size_alloc] at this
  case assign =>
    intro l x W K hK
    gi_wp2
    exact hK
  case body =>
    rintro l pre x W ⟨⟨h1, h2, h3⟩, hB⟩ _
    have hx1 := x.2.1
    have hx2 := x.2.2
    have hc1 := h1.cell
    have hf1 := h1.frozen
    have hc2 := h2.cell
    have hf2 := h2.frozen
    by_cases hlen : x.1.2.size ≤ 63
    · gi_wp2
      refine ⟨KeepsOthers.setCell _ _ _, KeepCell.setCell _ _ (by omega), ⟨h1.other (by omega) _, ?_, ?_⟩, hB.setCell (p := ⟨w.heap.size + 1, 0, none⟩) (by simp) _⟩
      · have := h2.set (.int .i64 ((endOf (pre ++ [x]) : Nat) : Int))
        rw [endOf_snoc] at this ⊢
        exact this
      · rw [labs_snoc]; intro l' hl'
        rcases List.mem_append.1 hl' with h' | h'
        · exact h3 l' h'
        · simp only [List.mem_singleton] at h'; subst h'; exact hlen
    · gi_wp2
      refine ⟨KeepsOthers.setCell _ _ _, ⟨rfl, h1.set _, ?_⟩, hB.setCell (p := ⟨w.heap.size, 0, none⟩) (by simp) _⟩
      rw [labs_snoc]; exact ⟨x.1.2.data.toList, by simp, by rw [size_list]; omega⟩
  case done =>
    rintro D ys W hD ⟨hsq, hpl, hen⟩ ⟨⟨h1, h2, h3⟩, hB⟩ hK
    have hc1 := h1.cell
    have hf1 := h1.frozen
    have hc2 := h2.cell
    have he : endOf ys ≤ s.size := by rw [endOf_placed hpl]; exact hsq.le
    have Hfin : Hid ((((s.extract (endOf ys) s.size).toList == [0]) = true) ↔ IsName s) := right_fin hsq hpl hen h3 h
    generalize hbv : ((s.extract (endOf ys) s.size).toList == [0]) = bv at Hfin
    have HBV := Hid.mk hbv
    clear hbv h3
    gi_wp2
    rw [HBV.out]
    have hK' := (KeepsOthers.setCell W ⟨w.heap.size, 0, none⟩ (.bool bv)).same D _ hK rfl
    refine ⟨by simp, .inl ⟨_, _, rfl, run_takeDeferred hK', ?_⟩⟩
    have hc5 := cell_kept (World.cell?_setCell_same' W ⟨w.heap.size, 0, none⟩ (.bool bv) (by rw [hc1]; rfl)) (grownBy_putObj' _ D (.deferred none)) (fun r e => by cases e; exact ⟨_, hK', rfl⟩)
    refine ⟨.bool bv, ?_, ⟨bv, rfl, Hfin.out⟩, (hB.setCell (p := ⟨w.heap.size, 0, none⟩) (by simp) _).trans (belowK_b (w := w) (Nat.le_refl _) _ D _ _ (by simp at hD; omega) hK' rfl rfl)⟩
    simp [results, Tryz.f19, go_sem, hc5]
  case stop =>
    rintro D c pre W hD ⟨hsq, hpl⟩ ⟨⟨rfl, h1, l, hl, h63⟩, hB⟩ hK
    gi_wp2
    refine ⟨by simp, .inl ⟨_, _, rfl, run_takeDeferred hK, ?_⟩⟩
    have hc5 := cell_kept h1.cell (grownBy_putObj' _ D (.deferred none)) (fun r e => by cases e; exact ⟨_, hK, rfl⟩)
    refine ⟨.bool false, ?_, ⟨false, rfl, right_stop hsq hl h63⟩, hB.trans (belowK_b (w := w) (Nat.le_refl _) W D _ _ (by simp at hD; omega) hK rfl rfl)⟩
    simp [results, Tryz.f19, go_sem, hc5]
theorem right_yes (ls : List (List UInt8)) (ho : OkN ls) (w : World) :
    Calls Tryz.prog 19 #[.string (nm ls)] w fun e w' => e = .returned (.bool true) ∧ Below w.heap.size w w' :=
  (right_short (nm ls) w (by rw [nm_size]; have := ho.len; omega)).mono fun e w' ⟨⟨b, he, hb⟩, h⟩ => ⟨by rw [he, hb.2 ⟨ls, ho, rfl⟩], h⟩
theorem right_no (s : ByteArray) (hn : ¬ IsName s) (hm : s.size ≤ maxLen) (w : World) :
    Calls Tryz.prog 19 #[.string s] w fun e w' => e = .returned (.bool false) ∧ Below w.heap.size w w' := by
  by_cases h : s.size ≤ 255
  · refine (right_short s w h).mono fun e w' ⟨⟨b, he, hb⟩, hB⟩ => ⟨?_, hB⟩
    cases b with
    | false => exact he
    | true => exact absurd (hb.1 rfl) hn
  · exact right_long s w hm (by omega)
end Go.Proofs.YtnchoogjjnjikaaGreatDoor
/- The reader of data: must, take, all, number, counted. -/
namespace Go.Proofs.YtnchoogjjnjikaaGreatDoor
set_option linter.unusedVariables false
open Go.RowKit
theorem bth {n : Nat} {A B C : World} (h : Below n A B) (k : Below B.heap.size B C) (hn : n ≤ B.heap.size) : Below n A C := h.trans (k.mono hn)
def mustV : List PanicEntry := [{ v := .iface 35 (.int .i64 6), recovered := false }]
theorem must_yes (w : World) : Calls Tryz.prog 92 #[.bool true] w fun e w' => e = .returned (.tuple #[]) ∧ w' = w := by
  go_enter Tryz.func92, Tryz.ntmps92
  go_wp2
  exact bodyPost_end (results_none rfl _ _ _) rfl ⟨rfl, rfl⟩
theorem must_no (w : World) : Calls Tryz.prog 92 #[.bool false] w fun e w' => e = .panicked mustV ∧ w' = w := by
  go_enter Tryz.func92, Tryz.ntmps92
  go_wp2
  exact ⟨rfl, rfl, rfl⟩
theorem isType_in (k : Int) (w : World) : Calls Tryz.prog 88 #[.int .i64 k] w fun e w' => e = .returned (.bool (decide (0 ≤ k ∧ k ≤ 65535))) ∧ w' = w := by
  go_enter Tryz.func88, Tryz.ntmps88
  go_wp2
  all_goals
    go_ret
    refine ⟨?_, rfl⟩
    simp
    omega
structure Kept (d : Nat) (W W' : World) : Prop where
  os : W'.os = W.os
  tape : W'.tape = W.tape
  output : W'.output = W.output
  size : W.heap.size ≤ W'.heap.size
  same : ∀ b, b < W.heap.size → b ≠ d → W'.heap[b]? = W.heap[b]?
theorem Kept.refl (d : Nat) (W : World) : Kept d W W := ⟨rfl, rfl, rfl, Nat.le_refl _, fun _ _ _ => rfl⟩
theorem Kept.trans {d : Nat} {A B C : World} (h : Kept d A B) (k : Kept d B C) : Kept d A C :=
  ⟨k.os.trans h.os, k.tape.trans h.tape, k.output.trans h.output, Nat.le_trans h.size k.size, fun b hb hd => (k.same b (Nat.lt_of_lt_of_le hb h.size) hd).trans (h.same b hb hd)⟩
theorem Kept.set (d i : Nat) (W : World) (v : Value) : Kept d W (W.setCell ⟨d, i, none⟩ v) :=
  ⟨rfl, rfl, rfl, by simp [World.setCell], fun b _ hd => Below.heap_setCell W ⟨d, i, none⟩ v b hd⟩
theorem Kept.of_below {d : Nat} {W W' : World} (h : Below W.heap.size W W') : Kept d W W' := ⟨h.os, h.tape, h.output, h.size, fun b hb _ => h.block b hb⟩
theorem Kept.below {d n : Nat} {W W' : World} (h : Kept d W W') (hd : n ≤ d) (hn : n ≤ W.heap.size) : Below n W W' :=
  ⟨h.os, h.tape, h.output, h.size, fun b hb => h.same b (by omega) (by omega)⟩
def Rd (W : World) (d : Nat) (s : ByteArray) : Prop := W.heap[d]? = some (.cells #[.string s] 152 (0, 0))
theorem Rd.cell {W : World} {d : Nat} {s : ByteArray} (h : Rd W d s) : W.cell? ⟨d, 0, none⟩ = some (.string s) := by simp [World.cell?, show W.heap[d]? = _ from h]
theorem Rd.frozen {W : World} {d : Nat} {s : ByteArray} (h : Rd W d s) : W.frozen? ⟨d, 0, none⟩ = false := by simp [World.frozen?, show W.heap[d]? = _ from h]
theorem Rd.lt {W : World} {d : Nat} {s : ByteArray} (h : Rd W d s) : d < W.heap.size := (Array.getElem?_eq_some_iff.1 h).1
theorem Rd.set {W : World} {d : Nat} {s : ByteArray} (h : Rd W d s) (t : ByteArray) : Rd (W.setCell ⟨d, 0, none⟩ (.string t)) d t := by
  have h' : W.heap[d]? = _ := h
  simp only [Rd, World.setCell, Array.getElem?_modify, h']
  rfl
theorem Rd.kept {W W' : World} {d b : Nat} {s : ByteArray} (h : Rd W d s) (k : Kept b W W') (hb : d ≠ b) : Rd W' d s := (k.same d h.lt hb).trans h
theorem Rd.below {W W' : World} {d : Nat} {s : ByteArray} (h : Rd W d s) (k : Below W.heap.size W W') : Rd W' d s := (k.block d h.lt).trans h
theorem take_yes (W : World) (d n : Nat) (s : ByteArray) (hs : s.size ≤ maxLen) (h : Rd W d s) (hn : n ≤ s.size) :
    Calls Tryz.prog 125 #[.pointer (some ⟨d, 0, none⟩), .int .i64 n] W fun e w' => e = .returned (.string (s.extract 0 n)) ∧ w' = W.setCell ⟨d, 0, none⟩ (.string (s.extract n s.size)) := by
  unfold maxLen at hs
  have hc := h.cell
  have hf := h.frozen
  go_enter Tryz.func125, Tryz.ntmps125
  go_wp2_with fail
  refine (must_yes _).mono ?_
  rintro e w1 ⟨rfl, rfl⟩
  go_wp2
  go_ret
  exact ⟨rfl, rfl⟩
theorem take_no (W : World) (d n : Nat) (s : ByteArray) (hs : s.size ≤ maxLen) (h : Rd W d s) (hn : s.size < n) (hm : n ≤ maxLen) :
    Calls Tryz.prog 125 #[.pointer (some ⟨d, 0, none⟩), .int .i64 n] W fun e w' => e = .panicked mustV ∧ w' = W := by
  unfold maxLen at hs hm
  have hc := h.cell
  have hb : decide (n ≤ s.size) = false := by simp; omega
  go_enter Tryz.func125, Tryz.ntmps125
  go_wp2_with fail
  refine (must_no _).mono ?_
  rintro e w1 ⟨rfl, rfl⟩
  go_wp2
  exact ⟨rfl, rfl, rfl⟩
theorem all_in (W : World) (d : Nat) (s : ByteArray) (hs : s.size ≤ maxLen) (h : Rd W d s) :
    Calls Tryz.prog 154 #[.pointer (some ⟨d, 0, none⟩)] W fun e w' => e = .returned (.string s) ∧ w' = W.setCell ⟨d, 0, none⟩ (.string ⟨#[]⟩) := by
  have hc := h.cell
  have e1 : s.extract 0 s.size = s := by simp
  have e2 : s.extract s.size s.size = ⟨#[]⟩ := by
    apply ByteArray.ext; simp
  go_enter Tryz.func154, Tryz.ntmps154
  go_wp2_with fail
  refine (take_yes W d s.size s hs h (Nat.le_refl _)).mono ?_
  rintro e w1 ⟨rfl, rfl⟩
  rw [e1, e2]
  go_wp2
  go_ret
  exact ⟨rfl, rfl⟩
def numB (l : List UInt8) : Nat := l.foldl (fun n b => n * 256 + b.toNat) 0
theorem numB_snoc (l : List UInt8) (b : UInt8) : numB (l ++ [b]) = numB l * 256 + b.toNat := by simp [numB]
theorem numB_go : ∀ (l : List UInt8) (n : Nat), l.foldl (fun n b => n * 256 + b.toNat) n < (n + 1) * 256 ^ l.length
  | [], n => by simp
  | b :: l, n => by
    have h := numB_go l (n * 256 + b.toNat)
    have hb := b.toNat_lt
    rw [List.foldl_cons, List.length_cons, Nat.pow_succ]
    refine Nat.lt_of_lt_of_le h ?_
    rw [Nat.mul_comm (256 ^ l.length) 256, ← Nat.mul_assoc]
    exact Nat.mul_le_mul_right _ (by omega)
theorem numB_lt (l : List UInt8) : numB l < 256 ^ l.length := by
  have := numB_go l 0
  simpa [numB] using this
theorem bits_or_i64_nat (a b : Nat) (ha : a < 9223372036854775808) (hb : b < 9223372036854775808) : bits BinOp.or IntKind.i64 (a : Int) (b : Int) = ((a ||| b : Nat) : Int) := by
  have hx : a ||| b < 2 ^ 63 := Nat.or_lt_two_pow (by omega) (by omega)
  have h1 : (BitVec.ofInt 64 (a : Int)).toNat = a := by
    rw [BitVec.ofInt_natCast, BitVec.toNat_ofNat]; exact Nat.mod_eq_of_lt (by omega)
  have h2 : (BitVec.ofInt 64 (b : Int)).toNat = b := by
    rw [BitVec.ofInt_natCast, BitVec.toNat_ofNat]; exact Nat.mod_eq_of_lt (by omega)
  show IntKind.i64.wrap ((BitVec.ofInt 64 (a : Int) ||| BitVec.ofInt 64 (b : Int)).toNat : Int) = _
  rw [BitVec.toNat_or, h1, h2, IntKind.wrap_i64]
  omega
theorem or_low (n b : Nat) (hn : n < 36028797018963968) (hb : b < 256) : bits BinOp.or IntKind.i64 ((n : Int) * 256) (b : Int) = ((n * 256 + b : Nat) : Int) := by
  have e : ((n : Int) * 256) = ((n * 256 : Nat) : Int) := by omega
  rw [e, bits_or_i64_nat _ _ (by omega) (by omega)]
  congr 1
  have := Nat.two_pow_add_eq_or_of_lt (i := 8) (b := b) (by omega) n
  rw [show n * 256 = 2 ^ 8 * n by omega, ← this]
set_option maxHeartbeats 1000000 in
theorem number_in (s : ByteArray) (hs : s.size ≤ 7) (w : World) :
    Calls Tryz.prog 103 #[.string s] w fun e w' => e = .returned (.int .i64 (numB s.data.toList : Nat)) ∧ w' = w := by
  go_enter Tryz.func103, Tryz.ntmps103
  go_wp2
  go_loopw [3, 7] (fun nv i wr => ∃ k : Nat, k ≤ s.size ∧ i = .int .i64 k ∧ nv = .int .i64 (numB (s.data.toList.take k) : Nat) ∧ wr = w) (fun _ i _ => s.size - (intOf i).toNat)
  case atStart => exact ⟨0, Nat.zero_le _, rfl, rfl, rfl⟩
  case round =>
    obtain ⟨k, hk, rfl, rfl, rfl⟩ := hrel
    by_cases hlt : k < s.size
    · have hlt' : k < s.data.toList.length := by rw [size_list]; exact hlt
      have hb := s[k].toNat_lt
      have hn : numB (s.data.toList.take (k + 1)) = numB (s.data.toList.take k) * 256 + s[k].toNat := by
        rw [List.take_succ_eq_append_getElem hlt', numB_snoc]; rfl
      have hlt6 : numB (s.data.toList.take k) < 36028797018963968 := by
        refine Nat.lt_of_lt_of_le (numB_lt _) ?_
        have : (s.data.toList.take k).length ≤ 6 := by rw [List.length_take]; omega
        exact Nat.le_trans (Nat.pow_le_pow_right (by omega) this) (by decide)
      have hor := or_low (numB (s.data.toList.take k)) s[k].toNat hlt6 (by omega)
      have HN := Hid.mk hn
      clear hn
      generalize numB (s.data.toList.take k) = q at hlt6 hor HN ⊢
      have hsh : IntKind.i64.wrap ((q : Int) * 256) = (q : Int) * 256 := by rw [IntKind.wrap_i64]; omega
      have hcv : IntKind.i64.wrap (s[k].toNat : Int) = (s[k].toNat : Int) := by rw [IntKind.wrap_i64]; omega
      go_wp2
      exact ⟨⟨k + 1, by omega, by go_num, by rw [HN.out]; go_num, trivial⟩, by simp [intOf]; omega⟩
    · have hall : s.data.toList.take k = s.data.toList := List.take_of_length_le (by rw [size_list]; omega)
      rw [hall]
      go_wp2
      go_ret
      exact ⟨rfl, rfl⟩
theorem counted_no0 (W : World) (d : Nat) (s : ByteArray) (h : Rd W d s) (h0 : s.size = 0) :
    Calls Tryz.prog 126 #[.pointer (some ⟨d, 0, none⟩)] W fun e w' => e = .panicked mustV ∧ w' = W := by
  go_enter Tryz.func126, Tryz.ntmps126
  go_wp2_with fail
  refine (take_no W d 1 s (by rw [h0]; decide) h (by omega) (by decide)).mono ?_
  rintro e w1 ⟨rfl, rfl⟩
  go_wp2
  exact ⟨rfl, rfl, rfl⟩
theorem first_one (s : ByteArray) (h0 : 0 < s.size) : (s.extract 0 1).data.toList = [s[0]] := by
  rw [Lib.extract_data, List.drop_zero]
  have := List.take_succ_eq_append_getElem (l := s.data.toList) (i := 0) (by rw [size_list]; exact h0)
  rw [this]; simp; rfl
theorem number_one (s : ByteArray) (h0 : 0 < s.size) (w : World) : Calls Tryz.prog 103 #[.string (s.extract 0 1)] w fun e w' => e = .returned (.int .i64 (s[0].toNat : Nat)) ∧ w' = w := by
  have hnum := number_in (s.extract 0 1) (by rw [← size_list, first_one s h0]; simp) w
  rw [first_one s h0] at hnum
  have hv : numB [s[0]] = s[0].toNat := by simp [numB]
  rw [hv] at hnum
  exact hnum
theorem set_set (w : World) (d : Nat) (v v' : Value) : (w.setCell ⟨d, 0, none⟩ v).setCell ⟨d, 0, none⟩ v' = w.setCell ⟨d, 0, none⟩ v' := by
  simp only [World.setCell]
  congr 1
  apply Array.ext
  · simp
  · intro i h1 h2
    simp only [Array.getElem_modify]
    split
    · cases w.heap[i]'(by simpa using h1) <;> simp
    · rfl
theorem counted_yes (W : World) (d : Nat) (s : ByteArray) (hs : s.size ≤ maxLen) (h : Rd W d s) (h0 : 0 < s.size) (hf : 1 + s[0].toNat ≤ s.size) :
    Calls Tryz.prog 126 #[.pointer (some ⟨d, 0, none⟩)] W fun e w' => e = .returned (.string (s.extract 1 (1 + s[0].toNat))) ∧ w' = W.setCell ⟨d, 0, none⟩ (.string (s.extract (1 + s[0].toNat) s.size)) := by
  have hz : (s.extract 1 s.size).size = s.size - 1 := by rw [ByteArray.size_extract]; omega
  have hr1 := h.set (s.extract 1 s.size)
  have T2 := Hid.mk (take_yes _ d s[0].toNat _ (by rw [hz]; unfold maxLen at hs ⊢; omega) hr1 (by rw [hz]; omega))
  rw [set_set] at T2
  have e1 : (s.extract 1 s.size).extract 0 s[0].toNat = s.extract 1 (1 + s[0].toNat) := by rw [ByteArray.extract_extract]; congr 1; omega
  have e2 : (s.extract 1 s.size).extract s[0].toNat (s.extract 1 s.size).size = s.extract (1 + s[0].toNat) s.size := by rw [hz, ByteArray.extract_extract]; congr 1; omega
  rw [e1, e2] at T2
  have HN := Hid.mk (number_one s h0)
  clear e1 e2 hr1 hz
  go_enter Tryz.func126, Tryz.ntmps126
  go_wp2_with fail
  refine (take_yes W d 1 s hs h (by omega)).mono ?_
  rintro e w1 ⟨rfl, rfl⟩
  go_wp2_with fail
  refine (HN.out _).mono ?_
  rintro e w2 ⟨rfl, rfl⟩
  go_wp2_with fail
  refine T2.out.mono ?_
  rintro e w3 ⟨rfl, rfl⟩
  go_wp2
  go_ret
  exact ⟨rfl, rfl⟩
theorem counted_no (W : World) (d : Nat) (s : ByteArray) (hs : s.size ≤ maxLen) (h : Rd W d s) (h0 : 0 < s.size) (hf : s.size < 1 + s[0].toNat) :
    Calls Tryz.prog 126 #[.pointer (some ⟨d, 0, none⟩)] W fun e w' => e = .panicked mustV ∧ Kept d W w' := by
  have hz : (s.extract 1 s.size).size = s.size - 1 := by rw [ByteArray.size_extract]; omega
  have hr1 := h.set (s.extract 1 s.size)
  have hu := s[0].toNat_lt
  have T2 := Hid.mk (take_no _ d s[0].toNat _ (by rw [hz]; unfold maxLen at hs ⊢; omega) hr1 (by rw [hz]; omega) (by unfold maxLen; omega))
  have HN := Hid.mk (number_one s h0)
  clear hr1 hz
  go_enter Tryz.func126, Tryz.ntmps126
  go_wp2_with fail
  refine (take_yes W d 1 s hs h (by omega)).mono ?_
  rintro e w1 ⟨rfl, rfl⟩
  go_wp2_with fail
  refine (HN.out _).mono ?_
  rintro e w2 ⟨rfl, rfl⟩
  go_wp2_with fail
  refine T2.out.mono ?_
  rintro e w3 ⟨rfl, rfl⟩
  go_wp2
  exact ⟨rfl, rfl, Kept.set _ _ _ _⟩
end Go.Proofs.YtnchoogjjnjikaaGreatDoor
/- The parts of a type's form. -/
namespace Go.Proofs.YtnchoogjjnjikaaGreatDoor
set_option linter.unusedVariables false
open Go.RowKit
theorem heap_new (w : World) (o : Obj) : (w.alloc o).heap[w.heap.size]? = some o := by
  show (w.heap.push o)[w.heap.size]? = some o
  simp
theorem mkf (fn : Fn) (first cap : Array Value) (w : World) : (Instr.makeFunc fn first cap).run Tryz.prog w = .ok (.func fn first cap) w := rfl
abbrev fnV (k : Nat) (cap : Array Value) : Value := .func (.func k) #[] cap
abbrev boxV (b : Nat) : Value := .pointer (some ⟨b, 0, none⟩)
abbrev numP (b : Nat) : Array Value := #[fnV 137 #[boxV b], fnV 138 #[], fnV 140 #[boxV b], .bool false]
abbrev anyP : Array Value := #[fnV 176 #[], fnV 177 #[], fnV 179 #[], .bool false]
theorem numberPart_in (n : Int) (w : World) : Calls Tryz.prog 112 #[.int .i64 n] w fun e w' =>
    e = .returned (.agg (numP w.heap.size)) ∧ w'.heap[w.heap.size]? = some (.cells #[.int .i64 n] 3 (0, 0)) ∧ Below w.heap.size w w' := by
  have hmf := mkf
  go_enter Tryz.func112, Tryz.ntmps112
  go_wp2
  refine bodyPost_ret (v := .agg (numP w.heap.size)) (by simp [results, Tryz.results112, go_sem]) rfl ⟨rfl, ?_, ((Below.refl _ _).alloc (Nat.le_refl _) _).alloc (by simp) _⟩
  exact (Below.heap_alloc _ _ _ (by simp)).trans (heap_new w _)
theorem anyPart_in (w : World) : Calls Tryz.prog 121 #[] w fun e w' => e = .returned (.agg anyP) ∧ Below w.heap.size w w' := by
  have hmf := mkf
  go_enter Tryz.func121, Tryz.ntmps121
  go_wp2
  exact bodyPost_ret (v := .agg anyP) (by simp [results, Tryz.results121, go_sem]) rfl ⟨rfl, (Below.refl _ _).alloc (Nat.le_refl _) _⟩
def tabled (k : Int) : Bool := k == 1 || k == 2 || k == 5 || k == 6 || k == 15 || k == 16 || k == 28 || k == 39 || k == 43 || k == 46 || k == 47 || k == 48 || k == 50
theorem tabled_no {k : Int} (h : tabled k = false) : (k == 1) = false ∧ (k == 2) = false ∧ (k == 5) = false ∧ (k == 6) = false ∧ (k == 15) = false ∧ (k == 16) = false ∧ (k == 28) = false ∧ (k == 39) = false ∧ (k == 43) = false ∧ (k == 46) = false ∧ (k == 47) = false ∧ (k == 48) = false ∧ (k == 50) = false := by
  simp only [tabled, Bool.or_eq_false_iff] at h
  obtain ⟨⟨⟨⟨⟨⟨⟨⟨⟨⟨⟨⟨h1, h2⟩, h3⟩, h4⟩, h5⟩, h6⟩, h7⟩, h8⟩, h9⟩, h10⟩, h11⟩, h12⟩, h13⟩ := h
  exact ⟨h1, h2, h3, h4, h5, h6, h7, h8, h9, h10, h11, h12, h13⟩
theorem partsOf_other (k : Int) (hk : tabled k = false) (w : World) : Calls Tryz.prog 91 #[.int .i64 k] w fun e w' => ∃ g, w.heap.size ≤ g ∧
    e = .returned (.slice (some ⟨g, 0, none⟩) 1 1) ∧ w'.heap[g]? = some (.cells anyP 156 (0, 0)) ∧ Below w.heap.size w w' := by
  have hmf := mkf
  obtain ⟨h1, h2, h3, h4, h5, h6, h7, h8, h9, h10, h11, h12, h13⟩ := tabled_no hk
  clear hk
  go_enter Tryz.func91, Tryz.ntmps91
  go_wp2_with fail
  refine (numberPart_in _ _).mono ?_
  rintro e w1 ⟨rfl, ho1, hb1⟩
  go_wp2_with fail
  refine (numberPart_in _ _).mono ?_
  rintro e w2 ⟨rfl, ho2, hb2⟩
  go_wp2_with fail
  refine (numberPart_in _ _).mono ?_
  rintro e w3 ⟨rfl, ho3, hb3⟩
  clear ho1 ho2 ho3
  go_wp2_with fail
  refine (anyPart_in _).mono ?_
  rintro e w4 ⟨rfl, hb4⟩
  have k3 : Below w.heap.size w w3 := bth (bth hb1 hb2 hb1.size) hb3 (Nat.le_trans hb1.size hb2.size)
  have s3 := k3.size
  have k6 : Below w.heap.size w w4 := (((k3.alloc s3 _).alloc (by simp; omega) _).alloc (by simp; omega) _).trans (hb4.mono (by simp; omega))
  clear hb1 hb2 hb3 hb4
  go_wp2
  go_ret
  exact ⟨w4.heap.size, k6.size, rfl, heap_new _ _, k6.alloc k6.size _⟩
end Go.Proofs.YtnchoogjjnjikaaGreatDoor
/- The small functions: lowByte, rightLabel, limited, plain, digit, isNaN, cmp.Compare, HasPrefix and TrimPrefix. -/
namespace Go.Proofs.YtnchoogjjnjikaaGreatDoor
set_option linter.unusedVariables false
open Go.RowKit
def lowB (c : UInt8) : UInt8 := if 65 ≤ c.toNat ∧ c.toNat ≤ 90 then UInt8.ofNat (c.toNat + 32) else c
theorem lowB_toNat (c : UInt8) : (lowB c).toNat = if 65 ≤ c.toNat ∧ c.toNat ≤ 90 then c.toNat + 32 else c.toNat := by
  unfold lowB
  split
  · rename_i h; simp; omega
  · rfl
theorem ret_int {k : IntKind} {a b : Int} (h : a = b) : Ending.returned (.int k a) = .returned (.int k b) := by rw [h]
theorem lowByte_in (c : UInt8) (w : World) :
    Calls Tryz.prog 37 #[.int .u8 (c.toNat : Int)] w fun e w' => e = .returned (.int .u8 ((lowB c).toNat : Int)) ∧ w' = w := by
  have hc := c.toNat_lt
  have hl := lowB_toNat c
  by_cases h1 : 65 ≤ c.toNat
  · by_cases h2 : c.toNat ≤ 90
    · rw [if_pos ⟨h1, h2⟩] at hl
      rw [hl]; clear hl
      go_enter Tryz.func37, Tryz.ntmps37
      go_wp2
      go_ret
      exact ⟨ret_int (by simp), rfl⟩
    · rw [if_neg (by omega)] at hl
      rw [hl]; clear hl
      go_enter Tryz.func37, Tryz.ntmps37
      go_wp2
      go_ret
      exact ⟨rfl, rfl⟩
  · rw [if_neg (by omega)] at hl
    rw [hl]; clear hl
    go_enter Tryz.func37, Tryz.ntmps37
    go_wp2
    go_ret
    exact ⟨rfl, rfl⟩
theorem rightLabel_yes (s : ByteArray) (w : World) (h1 : 1 ≤ s.size) (h2 : s.size ≤ 63) :
    Calls Tryz.prog 24 #[.string s] w fun e w' => e = .returned (.bool true) ∧ w' = w := by
  go_enter Tryz.func24, Tryz.ntmps24
  go_wp2
  go_ret
  exact ⟨by simp; omega, rfl⟩
theorem rightLabel_no (s : ByteArray) (w : World) (hm : s.size ≤ maxLen) (h : s.size < 1 ∨ 63 < s.size) :
    Calls Tryz.prog 24 #[.string s] w fun e w' => e = .returned (.bool false) ∧ w' = w := by
  unfold maxLen at hm
  rcases h with h | h
  · go_enter Tryz.func24, Tryz.ntmps24
    go_wp2
    go_ret
    exact ⟨rfl, rfl⟩
  · have h1 : 1 ≤ s.size := by omega
    go_enter Tryz.func24, Tryz.ntmps24
    go_wp2
    go_ret
    exact ⟨by simp; omega, rfl⟩
theorem limited_ok (s : ByteArray) (w : World) (h : s.size ≤ 255) :
    Calls Tryz.prog 25 #[.string s] w fun e w' => e = .returned (.tuple #[.string s, .int .i64 0]) ∧ w' = w := by
  go_enter Tryz.func25, Tryz.ntmps25
  go_wp2
  go_ret2
  exact ⟨rfl, rfl⟩
theorem limited_long (s : ByteArray) (w : World) (hm : s.size ≤ 2 * maxLen) (h : 255 < s.size) :
    Calls Tryz.prog 25 #[.string s] w fun e w' => e = .returned (.tuple #[.string ⟨#[]⟩, .int .i64 3]) ∧ w' = w := by
  unfold maxLen at hm
  go_enter Tryz.func25, Tryz.ntmps25
  go_wp2
  go_ret2
  exact ⟨rfl, rfl⟩
theorem isNaNInt_in (x : Int) (w : World) : Calls Tryz.prog 52 #[.int .i64 x] w fun e w' => e = .returned (.bool false) ∧ w' = w := by
  go_enter Tryz.func52, Tryz.ntmps52
  go_wp2
  go_ret
  exact ⟨by simp, rfl⟩
theorem isNaNStr_in (x : ByteArray) (w : World) : Calls Tryz.prog 53 #[.string x] w fun e w' => e = .returned (.bool false) ∧ w' = w := by
  go_enter Tryz.func53, Tryz.ntmps53
  go_wp2
  go_ret
  exact ⟨by simp, rfl⟩
def cmpI (a b : Int) : Int := if a < b then -1 else if b < a then 1 else 0
theorem cmpInt_in (a b : Int) (w : World) :
    Calls Tryz.prog 31 #[.int .i64 a, .int .i64 b] w fun e w' => e = .returned (.int .i64 (cmpI a b)) ∧ w' = w := by
  by_cases h1 : a < b
  · have hp : cmpI a b = -1 := by simp [cmpI, h1]
    rw [hp]; clear hp
    go_enter Tryz.func31, Tryz.ntmps31
    go_wp2_with (go_at_call 52; refine (isNaNInt_in _ _).mono ?_; rintro e w' ⟨rfl, rfl⟩)
    go_ret
    exact ⟨rfl, rfl⟩
  · by_cases h2 : b < a
    · have hp : cmpI a b = 1 := by simp [cmpI, h1, h2]
      rw [hp]; clear hp
      go_enter Tryz.func31, Tryz.ntmps31
      go_wp2_with (go_at_call 52; refine (isNaNInt_in _ _).mono ?_; rintro e w' ⟨rfl, rfl⟩)
      go_ret
      exact ⟨rfl, rfl⟩
    · have hp : cmpI a b = 0 := by simp [cmpI, h1, h2]
      rw [hp]; clear hp
      go_enter Tryz.func31, Tryz.ntmps31
      go_wp2_with (go_at_call 52; refine (isNaNInt_in _ _).mono ?_; rintro e w' ⟨rfl, rfl⟩)
      go_ret
      exact ⟨rfl, rfl⟩
end Go.Proofs.YtnchoogjjnjikaaGreatDoor