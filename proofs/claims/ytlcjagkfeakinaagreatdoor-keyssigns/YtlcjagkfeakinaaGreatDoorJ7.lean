/- Texts of this proof, joined: KOf, KFits, NBase, NAdd, NTake, NShift. -/
import Derived.Test.YtlcjagkfeakinaaGreatDoorJ6
import Derived.WalkKit
import Derived.WalkSpells
import Derived.WalkLawsBesides
import Derived.BigQuiet
import Derived.Deep.WholeRow
import Derived.Deep.Cut
import Derived.Deep.RegionHeld3
import Derived.Deep.RegionLaw
import Derived.Laws.BitsAllLaws
import Derived.Laws.CopyOwn
import Derived.Test.YtlcjagkfeakinaaGreatDoorRows
/- Of: what the zone above tells of a key. -/
namespace Go.Proofs.YtlcjagkfeakinaaGreatDoor
set_option linter.unusedVariables false
open Go.RowKit
open G (cells_at cells_put)

/-- the cells of a Ds. -/
abbrev dsV (t a k : Int) (s : ByteArray) : Array Value := #[.int .i64 t, .int .i64 a, .int .i64 k, .string s]
theorem put4 {W : World} {b : Nat} {c0 c1 c2 c3 : Value} {t : TypeId} (h : W.heap[b]? = some (.cells #[c0, c1, c2, c3] t (0, 0))) (x0 x1 x2 x3 : Value) :
    ((((W.setCell ⟨b, 0, none⟩ x0).setCell ⟨b, 1, none⟩ x1).setCell ⟨b, 2, none⟩ x2).setCell ⟨b, 3, none⟩ x3).heap[b]? = some (.cells #[x0, x1, x2, x3] t (0, 0)) :=
  cells_put (j := 3) (cells_put (j := 2) (cells_put (j := 1) (cells_put (j := 0) h x0) x1) x2) x3
theorem put4_below {n : Nat} {V W : World} {b : Nat} (h : Below n V W) (hn : n ≤ b) (x0 x1 x2 x3 : Value) :
    Below n V ((((W.setCell ⟨b, 0, none⟩ x0).setCell ⟨b, 1, none⟩ x1).setCell ⟨b, 2, none⟩ x2).setCell ⟨b, 3, none⟩ x3) :=
  (((h.setCell (p := ⟨b, 0, none⟩) hn _).setCell (p := ⟨b, 1, none⟩) hn _).setCell (p := ⟨b, 2, none⟩) hn _).setCell (p := ⟨b, 3, none⟩) hn _

set_option maxRecDepth 100000 in
set_option maxHeartbeats 2000000 in
theorem of_no (k E : Int) (ow d S : ByteArray) (hE : E ≠ 0) (W : World) (HD : Hid (∀ w, G.Rk w → Calls Tryz.prog 12 #[.int .i64 k, .string ow, .string d] w fun e w' => e = .returned (.tuple #[.string S, .int .i64 E]) ∧ Below w.heap.size w w')) (hG : Hid (G.Rk W)) :
    Calls Tryz.prog 14 #[.string ow, .string d, .int .i64 k] W fun e w' => e = .returned (.tuple #[.agg (dsV 0 0 0 ⟨#[]⟩), .int .i64 E]) ∧ Below W.heap.size W w' := by
  have hE2 : (E != 0) = true := by simpa using hE
  go_enter Tryz.func14, Tryz.ntmps14
  go_wp2_with fail
  refine (HD.out _ (hG.out.below ((Below.refl _ _).alloc (Nat.le_refl _) _))).mono ?_
  rintro e w1 ⟨rfl, hb1⟩
  have hbx := (hb1.block _ (by simp)).trans (heap_new W (.cells (dsV 0 0 0 ⟨#[]⟩) 23))
  obtain ⟨a0, f0⟩ := cells_at (v := .int .i64 0) (j := 0) hbx rfl
  obtain ⟨a1, f1⟩ := cells_at (v := .int .i64 0) (j := 1) hbx rfl
  obtain ⟨a2, f2⟩ := cells_at (v := .int .i64 0) (j := 2) hbx rfl
  obtain ⟨a3, f3⟩ := cells_at (v := .string ⟨#[]⟩) (j := 3) hbx rfl
  have HBX := Hid.mk hbx
  clear hbx
  go_wp2
  have hf := put4 HBX.out (.int .i64 0) (.int .i64 0) (.int .i64 0) (.string ⟨#[]⟩)
  refine bodyPost_ret (v := .tuple #[.agg (dsV 0 0 0 ⟨#[]⟩), .int .i64 E]) (by simp [results, Tryz.results14, go_sem, (cells_at (v := .int .i64 0) (j := 0) hf rfl).1, (cells_at (v := .int .i64 0) (j := 1) hf rfl).1, (cells_at (v := .int .i64 0) (j := 2) hf rfl).1, (cells_at (v := .string ⟨#[]⟩) (j := 3) hf rfl).1]) rfl ⟨rfl, ?_⟩
  exact put4_below (((Below.refl _ _).alloc (Nat.le_refl _) _).trans (hb1.mono (by simp))) (Nat.le_refl _) _ _ _ _

set_option maxRecDepth 100000 in
set_option maxHeartbeats 2000000 in
theorem of_ok (k : Int) (ow d S : ByteArray) (h5 : 5 ≤ d.size) (h2 : d.size ≤ 2000) (W : World) (HD : Hid (∀ w, G.Rk w → Calls Tryz.prog 12 #[.int .i64 k, .string ow, .string d] w fun e w' => e = .returned (.tuple #[.string S, .int .i64 0]) ∧ Below w.heap.size w w')) (hG : Hid (G.Rk W)) :
    Calls Tryz.prog 14 #[.string ow, .string d, .int .i64 k] W fun e w' => e = .returned (.tuple #[.agg (dsV (tagN d.data.toList : Nat) (K48.algN d : Nat) k S), .int .i64 0]) ∧ Below W.heap.size W w' := by
  have hmo : Tryz.prog.follows Departure.mixedOrders = true := by kernel_rfl
  have HK := Hid.mk (K48.key48 d h5 h2)
  have HT := Hid.mk (tagOf_in d h2)
  generalize tagN d.data.toList = tg at HT ⊢
  generalize K48.algN d = al at HK ⊢
  go_enter Tryz.func14, Tryz.ntmps14
  go_wp2_with fail
  refine (HD.out _ (hG.out.below ((Below.refl _ _).alloc (Nat.le_refl _) _))).mono ?_
  rintro e w1 ⟨rfl, hb1⟩
  have hbx := (hb1.block _ (by simp)).trans (heap_new W (.cells (dsV 0 0 0 ⟨#[]⟩) 23))
  have HBX := Hid.mk hbx
  have HB1 := Hid.mk (((Below.refl W.heap.size W).alloc (Nat.le_refl _) (.cells (dsV 0 0 0 ⟨#[]⟩) 23)).trans (hb1.mono (by simp)))
  clear hbx hb1
  go_wp2_with fail
  refine (HK.out _).mono ?_
  rintro e w2 ⟨⟨m0, m1, p3, rfl⟩, hb2⟩
  have hbx := (hb2.block _ (box_lt HBX.out)).trans HBX.out
  have hlt := box_lt hbx
  have HB2 := Hid.mk (bth HB1.out hb2 HB1.out.size)
  have HBX2 := Hid.mk hbx
  obtain ⟨a0, f0⟩ := cells_at (v := .int .i64 0) (j := 0) hbx rfl
  obtain ⟨a1, f1⟩ := cells_at (v := .int .i64 0) (j := 1) hbx rfl
  obtain ⟨a2, f2⟩ := cells_at (v := .int .i64 0) (j := 2) hbx rfl
  obtain ⟨a3, f3⟩ := cells_at (v := .string ⟨#[]⟩) (j := 3) hbx rfl
  have hne : W.heap.size ≠ w2.heap.size := by omega
  clear hbx hb2
  go_wp2
  go_region_with (go_at_call 30; refine (HT.out _).mono ?_; rintro e x1 ⟨rfl, rfl⟩)
  all_goals
    go_wp2
    have hg := put4 HBX2.out (.int .i64 ((tg : Nat) : Int)) (.int .i64 ((al : Nat) : Int)) (.int .i64 k) (.string S)
    have hf : (((((w2.setCell ⟨W.heap.size, 0, none⟩ (.int .i64 ((tg : Nat) : Int))).setCell ⟨W.heap.size, 1, none⟩ (.int .i64 ((al : Nat) : Int))).setCell ⟨W.heap.size, 2, none⟩ (.int .i64 k)).setCell ⟨W.heap.size, 3, none⟩ (.string S)).alloc (.cells #[.int .i64 ((m0 : Nat) : Int), .int .i64 ((m1 : Nat) : Int), .int .i64 ((al : Nat) : Int), .string p3] 68)).drew.heap[W.heap.size]? = some (.cells #[.int .i64 ((tg : Nat) : Int), .int .i64 ((al : Nat) : Int), .int .i64 k, .string S] 23 (0, 0)) := (alloc_old _ _ _ (box_lt hg)).trans hg
    refine bodyPost_ret (v := .tuple #[.agg (dsV (tg : Nat) (al : Nat) k S), .int .i64 0]) (by simp [results, Tryz.results14, go_sem, (cells_at (v := .int .i64 ((tg : Nat) : Int)) (j := 0) hf rfl).1, (cells_at (v := .int .i64 ((al : Nat) : Int)) (j := 1) hf rfl).1, (cells_at (v := .int .i64 k) (j := 2) hf rfl).1, (cells_at (v := .string S) (j := 3) hf rfl).1]) rfl ⟨rfl, ?_⟩
    exact ((put4_below HB2.out (Nat.le_refl _) _ _ _ _).alloc (by simp; omega) _).drew
/-- what Of answers: the Ds, the error. -/
noncomputable def dsR (k : Int) (ow d : ByteArray) : (Int × Int × Int × ByteArray) × Int :=
  if (digR k ow d).2 = 0 then (((tagN d.data.toList : Nat), (K48.algN d : Nat), k, (digR k ow d).1), 0) else ((0, 0, 0, ⟨#[]⟩), (digR k ow d).2)
theorem digR_right {k : Int} {ow d : ByteArray} (h : (digR k ow d).2 = 0) : (k = 1 ∨ k = 2) ∧ IsName ow ∧ 5 ≤ d.size ∧ d.size ≤ 2000 := by
  unfold digR at h
  split at h
  · simp at h
  · split at h
    · simp at h
    · split at h
      · simp at h
      · rename_i h1 h2 h3
        exact ⟨Classical.byContradiction h1, Classical.byContradiction h2, Classical.byContradiction h3⟩
theorem of_in (k : Int) (ow d : ByteArray) (ho : ow.size ≤ maxLen) (hd : d.size ≤ maxLen) (W : World) (hG : G.Rk W) :
    Calls Tryz.prog 14 #[.string ow, .string d, .int .i64 k] W fun e w' => e = .returned (.tuple #[.agg (dsV (dsR k ow d).1.1 (dsR k ow d).1.2.1 (dsR k ow d).1.2.2.1 (dsR k ow d).1.2.2.2), .int .i64 (dsR k ow d).2]) ∧ Below W.heap.size W w' := by
  unfold dsR
  by_cases h : (digR k ow d).2 = 0
  · rw [if_pos h]
    obtain ⟨_, _, h5, h2⟩ := digR_right h
    refine of_ok k ow d _ h5 h2 W (Hid.mk fun w hw => ?_) (Hid.mk hG)
    have := digest_in k ow d ho hd w hw
    rwa [h] at this
  · rw [if_neg h]
    exact of_no k _ ow d _ h W (Hid.mk fun w hw => digest_in k ow d ho hd w hw) (Hid.mk hG)
end Go.Proofs.YtlcjagkfeakinaaGreatDoor

/- Fits, and Tag. -/
namespace Go.Proofs.YtlcjagkfeakinaaGreatDoor
set_option linter.unusedVariables false
open Go.RowKit
open G (cells_at cells_put)

theorem toList_iff (s t : ByteArray) : s.toList = t.toList ↔ s = t := by
  constructor
  · intro h
    rw [ByteArray.toList_eq, ByteArray.toList_eq] at h
    cases s; cases t; congr; exact Array.toList_inj.1 h
  · intro h; rw [h]
theorem ret_dec {p : Prop} [Decidable p] {b : Bool} (h : p ↔ b = true) : Ending.returned (.bool b) = .returned (.bool (decide p)) := by
  cases b
  · rw [decide_eq_false (fun hp => by simpa using h.1 hp)]
  · rw [decide_eq_true (h.2 rfl)]
set_option maxRecDepth 100000 in
set_option maxHeartbeats 2000000 in
theorem fits_gen (t a k t' a' k' E : Int) (ow d s s' : ByteArray) (W : World) (HO : Hid (∀ w, G.Rk w → Calls Tryz.prog 14 #[.string ow, .string d, .int .i64 k] w fun e w' => e = .returned (.tuple #[.agg (dsV t' a' k' s'), .int .i64 E]) ∧ Below w.heap.size w w')) (hG : Hid (G.Rk W)) :
    Calls Tryz.prog 17 #[.string ow, .string d, .agg (dsV t a k s)] W fun e w' => e = .returned (.bool (decide (E = 0 ∧ t' = t ∧ a' = a ∧ k' = k ∧ s' = s))) ∧ Below W.heap.size W w' := by
  by_cases hE : E = 0
  · subst hE
    go_enter Tryz.func17, Tryz.ntmps17
    go_wp2_with fail
    refine (HO.out _ (hG.out.below ((Below.refl _ _).alloc (Nat.le_refl _) _))).mono ?_
    rintro e w1 ⟨rfl, hb1⟩
    have hbx := (hb1.block _ (by simp)).trans (heap_new W (.cells (dsV t a k s) 23))
    have hlt := box_lt hbx
    obtain ⟨a0, f0⟩ := cells_at (v := .int .i64 t) (j := 0) hbx rfl
    obtain ⟨a1, f1⟩ := cells_at (v := .int .i64 a) (j := 1) hbx rfl
    obtain ⟨a2, f2⟩ := cells_at (v := .int .i64 k) (j := 2) hbx rfl
    obtain ⟨a3, f3⟩ := cells_at (v := .string s) (j := 3) hbx rfl
    have hne : W.heap.size ≠ w1.heap.size := by omega
    clear hbx
    have HB1 := Hid.mk (((Below.refl W.heap.size W).alloc (Nat.le_refl _) (.cells (dsV t a k s) 23)).trans (hb1.mono (by simp)))
    clear hb1
    go_wp2
    all_goals
      go_ret
      refine ⟨ret_dec ?_, HB1.out.alloc HB1.out.size _⟩
      simp_all [toList_iff]
  · have hE2 : (E == 0) = false := by simpa using hE
    have hD : decide (E = 0 ∧ t' = t ∧ a' = a ∧ k' = k ∧ s' = s) = false := by simp [hE]
    rw [hD]
    clear hD hE
    go_enter Tryz.func17, Tryz.ntmps17
    go_wp2_with fail
    refine (HO.out _ (hG.out.below ((Below.refl _ _).alloc (Nat.le_refl _) _))).mono ?_
    rintro e w1 ⟨rfl, hb1⟩
    have HB1 := Hid.mk (((Below.refl W.heap.size W).alloc (Nat.le_refl _) (.cells (dsV t a k s) 23)).trans (hb1.mono (by simp)))
    clear hb1
    go_wp2
    go_ret
    exact ⟨rfl, HB1.out.alloc HB1.out.size _⟩
theorem fits_in (t a k : Int) (ow d s : ByteArray) (ho : ow.size ≤ maxLen) (hd : d.size ≤ maxLen) (W : World) (hG : G.Rk W) :
    Calls Tryz.prog 17 #[.string ow, .string d, .agg (dsV t a k s)] W fun e w' => e = .returned (.bool (decide ((dsR k ow d).2 = 0 ∧ (dsR k ow d).1.1 = t ∧ (dsR k ow d).1.2.1 = a ∧ (dsR k ow d).1.2.2.1 = k ∧ (dsR k ow d).1.2.2.2 = s))) ∧ Below W.heap.size W w' :=
  fits_gen t a k _ _ _ _ ow d s _ W (Hid.mk fun w hw => of_in k ow d ho hd w hw) (Hid.mk hG)

theorem tag_ok (d : ByteArray) (h5 : 5 ≤ d.size) (h2 : d.size ≤ 2000) (W : World) : Calls Tryz.prog 10 #[.string d] W fun e w' => e = .returned (.tuple #[.int .i64 (tagN d.data.toList : Nat), .int .i64 0]) ∧ Below W.heap.size W w' := by
  have HD := Hid.mk (K48.right48 d (by unfold maxLen; omega))
  rw [show decide (5 ≤ d.size ∧ d.size ≤ 2000) = true by simp [h5, h2]] at HD
  have HT := Hid.mk (tagOf_in d h2)
  generalize tagN d.data.toList = tg at HT ⊢
  go_enter Tryz.func10, Tryz.ntmps10
  go_wp2_with fail
  refine (HD.out _).mono ?_
  rintro e w1 ⟨rfl, hb1⟩
  go_wp2_with fail
  refine (HT.out _).mono ?_
  rintro e w2 ⟨rfl, rfl⟩
  go_wp2
  exact bodyPost_ret (v := .tuple #[.int .i64 (tg : Nat), .int .i64 0]) (by simp [results, Tryz.results10, go_sem]) rfl ⟨rfl, hb1⟩
theorem tag_no (d : ByteArray) (hm : d.size ≤ maxLen) (hd : ¬ (5 ≤ d.size ∧ d.size ≤ 2000)) (W : World) : Calls Tryz.prog 10 #[.string d] W fun e w' => e = .returned (.tuple #[.int .i64 0, .int .i64 6]) ∧ Below W.heap.size W w' := by
  have HD := Hid.mk (K48.right48 d hm)
  rw [show decide (5 ≤ d.size ∧ d.size ≤ 2000) = false by simp only [hd, decide_false]] at HD
  clear hd
  go_enter Tryz.func10, Tryz.ntmps10
  go_wp2_with fail
  refine (HD.out _).mono ?_
  rintro e w1 ⟨rfl, hb1⟩
  go_wp2
  exact bodyPost_ret (v := .tuple #[.int .i64 0, .int .i64 6]) (by simp [results, Tryz.results10, go_sem]) rfl ⟨rfl, hb1⟩
end Go.Proofs.YtlcjagkfeakinaaGreatDoor

/- Layer 5's ground: rows of digits of 32 bits as numbers, and where they lie. -/
namespace Go.Proofs.YtlcjagkfeakinaaGreatDoor.N
set_option linter.unusedVariables false
open Go.RowKit

theorem size_list (s : ByteArray) : s.data.toList.length = s.size := rfl
theorem ba_ext {s t : ByteArray} (h : s.data.toList = t.data.toList) : s = t := by
  cases s; cases t; congr; exact Array.toList_inj.1 h
theorem ba_size (l : List UInt8) : (ByteArray.mk l.toArray).size = l.length := rfl
theorem heap_new (w : World) (o : Obj) : (w.alloc o).heap[w.heap.size]? = some o := by
  show (w.heap.push o)[w.heap.size]? = some o
  simp
theorem box_lt {W : World} {b : Nat} {o : Obj} (h : W.heap[b]? = some o) : b < W.heap.size := (Array.getElem?_eq_some_iff.1 h).1
theorem bthen {w w1 w2 : World} (h : Below w.heap.size w w1) (k : Below w1.heap.size w1 w2) : Below w.heap.size w w2 := h.trans (k.mono h.size)
theorem ret_int {k : IntKind} {a b : Int} (h : a = b) : Ending.returned (.int k a) = .returned (.int k b) := by rw [h]
theorem cell_block {w : World} {a : Addr} {v : Value} (h : w.cell? a = some v) : a.block < w.heap.size := by
  apply Classical.byContradiction
  intro hn
  have : w.heap[a.block]? = none := by simp; omega
  simp [World.cell?, this] at h
theorem Hid.mk {p : Prop} (h : p) : Hid p := h
theorem Hid.out {p : Prop} (h : Hid p) : p := h
theorem bv_lt (x : BitVec 32) : x.toNat < 4294967296 := x.isLt
theorem bv_of (n : Nat) : (BitVec.ofNat 32 n).toNat = n % 4294967296 := BitVec.toNat_ofNat ..
theorem below_dn (w : World) (j : Nat) : Below w.heap.size w (w.drewN j) := ⟨rfl, rfl, rfl, Nat.le_refl _, fun _ _ => rfl⟩
theorem below_le (w : World) (B n : Nat) : Below B w (w.drewN n) := ⟨rfl, rfl, rfl, Nat.le_refl _, fun _ _ => rfl⟩
theorem drew_add (w : World) (n m : Nat) : (w.drewN n).drewN m = w.drewN (n + m) := by simp [World.drewN, Nat.add_assoc]
theorem addr_at (b o j : Nat) : (⟨b, o, none⟩ : Addr).add j = ⟨b, o + j, none⟩ := by unfold Addr.add; split <;> simp_all

/-- the number of digits, the least first. -/
def val : List (BitVec 32) → Nat
  | [] => 0
  | x :: l => x.toNat + 4294967296 * val l
theorem val_app : ∀ (a b : List (BitVec 32)), val (a ++ b) = val a + 4294967296 ^ a.length * val b
  | [], b => by simp [val]
  | x :: a, b => by
    rw [List.cons_append, val, val_app a b, val, List.length_cons, Nat.pow_succ, Nat.mul_add, Nat.mul_comm _ 4294967296, Nat.mul_assoc]
    omega
theorem val_one (x : BitVec 32) : val [x] = x.toNat := by simp [val]
theorem val_snoc (a : List (BitVec 32)) (x : BitVec 32) : val (a ++ [x]) = val a + 4294967296 ^ a.length * x.toNat := by rw [val_app, val_one]
theorem val_lt : ∀ l : List (BitVec 32), val l < 4294967296 ^ l.length
  | [] => by simp [val]
  | x :: l => by
    have := val_lt l
    have := bv_lt x
    rw [val, List.length_cons, Nat.pow_succ]
    omega
theorem val_inj : ∀ (a b : List (BitVec 32)), a.length = b.length → val a = val b → a = b
  | [], [], _, _ => rfl
  | x :: a, y :: b, hl, hv => by
    rw [val, val] at hv
    have := bv_lt x
    have := bv_lt y
    have h1 : x.toNat = y.toNat := by omega
    have h2 : val a = val b := by omega
    rw [BitVec.eq_of_toNat_eq h1, val_inj a b (by simpa using hl) h2]
theorem val_zero (n : Nat) : val (List.replicate n 0) = 0 := by
  induction n with
  | zero => rfl
  | succ n ih => rw [List.replicate_succ, val, ih]; rfl
theorem val_take_succ (l : List (BitVec 32)) (m : Nat) (h : m < l.length) : val (l.take (m + 1)) = val (l.take m) + 4294967296 ^ m * (l[m]?.getD 0).toNat := by
  rw [List.take_add_one, List.getElem?_eq_getElem h]
  show val (l.take m ++ [l[m]]) = _
  rw [val_snoc, List.length_take, Nat.min_eq_left (by omega)]
  rfl

/-- digits as cells. -/
def wl (l : List (BitVec 32)) : List Value := l.map fun x => Value.int .u32 (x.toNat : Int)
theorem wl_len (l : List (BitVec 32)) : (wl l).length = l.length := by simp [wl]
theorem wl_app (a b : List (BitVec 32)) : wl (a ++ b) = wl a ++ wl b := by simp [wl]
theorem wl_one (l : List (BitVec 32)) : ∀ v ∈ wl l, v.oneCell' = true := fun v hv => by obtain ⟨x, _, rfl⟩ := List.mem_map.1 hv; rfl
theorem wl_at (l : List (BitVec 32)) (j : Nat) (h : j < l.length) : (wl l)[j]? = some (.int .u32 ((l[j]?.getD 0).toNat : Int)) := by
  simp [wl, List.getElem?_eq_getElem h]
/-- a block that holds digits from place o on. -/
theorem mid_at (A C : List Value) (l : List (BitVec 32)) (j : Nat) (h : j < l.length) : (A ++ (wl l ++ C))[A.length + j]? = some (.int .u32 ((l[j]?.getD 0).toNat : Int)) := by
  rw [List.getElem?_append_right (by omega), Nat.add_sub_cancel_left, List.getElem?_append_left (by rw [wl_len]; exact h), wl_at l j h]
theorem mid_set (A C : List Value) (l : List (BitVec 32)) (j : Nat) (h : j < l.length) (z : BitVec 32) : (A ++ (wl l ++ C)).set (A.length + j) (.int .u32 (z.toNat : Int)) = A ++ (wl (l.set j z) ++ C) := by
  rw [List.set_append_right _ _ (by omega), Nat.add_sub_cancel_left, List.set_append_left _ _ (by rw [wl_len]; exact h)]
  simp [wl]
theorem cells_at {W : World} {b j : Nat} {L : List Value} {t : TypeId} {v : Value} (h : W.heap[b]? = some (.cells L.toArray t (0, 0))) (hj : L[j]? = some v) : W.cell? ⟨b, j, none⟩ = some v ∧ W.frozen? ⟨b, j, none⟩ = false := by
  simp [World.cell?, World.frozen?, h, hj]
theorem cells_put {W : World} {b j : Nat} {L : List Value} {t : TypeId} (h : W.heap[b]? = some (.cells L.toArray t (0, 0))) (u : Value) : (W.setCell ⟨b, j, none⟩ u).heap[b]? = some (.cells (L.set j u).toArray t (0, 0)) := by
  simp only [World.setCell, Array.getElem?_modify, h]
  simp
/-- nothing but one block has turned. -/
structure But (g : Nat) (w w' : World) : Prop where
  os : w'.os = w.os
  tape : w'.tape = w.tape
  output : w'.output = w.output
  size : w.heap.size ≤ w'.heap.size
  block : ∀ k, k ≠ g → k < w.heap.size → w'.heap[k]? = w.heap[k]?
theorem But.refl (g : Nat) (w : World) : But g w w := ⟨rfl, rfl, rfl, Nat.le_refl _, fun _ _ _ => rfl⟩
theorem But.trans {g : Nat} {a b c : World} (h : But g a b) (k : But g b c) : But g a c :=
  ⟨k.os.trans h.os, k.tape.trans h.tape, k.output.trans h.output, Nat.le_trans h.size k.size, fun i hi hl => (k.block i hi (Nat.lt_of_lt_of_le hl h.size)).trans (h.block i hi hl)⟩
theorem But.drewN (g : Nat) (w : World) (n : Nat) : But g w (w.drewN n) := ⟨rfl, rfl, rfl, Nat.le_refl _, fun _ _ _ => rfl⟩
theorem But.setCell (g j : Nat) (w : World) (v : Value) : But g w (w.setCell ⟨g, j, none⟩ v) :=
  ⟨rfl, rfl, rfl, by simp, fun k hk _ => Below.heap_setCell w ⟨g, j, none⟩ v k hk⟩
theorem But.below {B g : Nat} {w0 a b : World} (h : Below B w0 a) (k : But g a b) (hB : B ≤ g) (hs : B ≤ a.heap.size) : Below B w0 b :=
  ⟨k.os.trans h.os, k.tape.trans h.tape, k.output.trans h.output, Nat.le_trans h.size k.size, fun i hi => (k.block i (by omega) (by omega)).trans (h.block i hi)⟩
theorem But.of {g : Nat} {a b : World} (h : Below a.heap.size a b) : But g a b := ⟨h.os, h.tape, h.output, h.size, fun k _ hk => h.block k hk⟩
theorem But.cell {g : Nat} {a b : World} (h : But g a b) {p : Addr} {v : Value} (hp : p.block ≠ g) (hc : a.cell? p = some v) : b.cell? p = some v :=
  (World.cell?_of_block (w := a) (h.block p.block hp (cell_block hc))).trans hc
end Go.Proofs.YtlcjagkfeakinaaGreatDoor.N

/- addTimes, addTo. -/
namespace Go.Proofs.YtlcjagkfeakinaaGreatDoor.N
set_option linter.unusedVariables false
open Go.RowKit
/-- a digit more: what is added so far. -/
theorem add_step (B V X Y T c x y P z c' : Nat) (h : V + B * c = X + T * Y) (hP : P = T * y) (hz : z + 4294967296 * c' = P + x + c) : V + B * z + B * 4294967296 * c' = X + B * x + T * (Y + B * y) := by
  have h1 : B * (z + 4294967296 * c') = B * (P + x + c) := by rw [hz]
  rw [Nat.mul_add, Nat.mul_add, Nat.mul_add, hP] at h1
  rw [Nat.mul_add, Nat.mul_assoc B]
  have h2 : B * (T * y) = T * (B * y) := by rw [← Nat.mul_assoc, ← Nat.mul_assoc, Nat.mul_comm B T]
  rw [h2] at h1
  omega
set_option maxRecDepth 100000 in
set_option maxHeartbeats 2000000 in
theorem addTimes_in (W : World) (g h t o p c1 c2 n : Nat) (A C : List Value) (xs ys : List (BitVec 32)) (tm : BitVec 32) (hA : A.length = o) (hx : xs.length = n) (hy : ys.length = n) (hn : n ≤ 1000) (ho : o ≤ 1000) (hp : p ≤ 1000)
    (hg : W.heap[g]? = some (.cells (A ++ (wl xs ++ C)).toArray t (0, 0))) (hne : h ≠ g) (hh : ∀ j, j < n → W.cell? ⟨h, p + j, none⟩ = some (.int .u32 ((ys[j]?.getD 0).toNat : Int))) :
    Calls Tryz.prog 197 #[.slice (some ⟨g, o, none⟩) n c1, .slice (some ⟨h, p, none⟩) n c2, .int .u32 (tm.toNat : Int)] W fun e w' => ∃ (zs : List (BitVec 32)) (c : BitVec 32), zs.length = n ∧ val zs + 4294967296 ^ n * c.toNat = val xs + tm.toNat * val ys ∧ e = .returned (.int .u32 (c.toNat : Int)) ∧ w'.heap[g]? = some (.cells (A ++ (wl zs ++ C)).toArray t (0, 0)) ∧ But g W w' := by
  have HA := Hid.mk hA
  have HX := Hid.mk hx
  have HY := Hid.mk hy
  have HG := Hid.mk hg
  have HH := Hid.mk hh
  clear hA hx hy hg hh
  go_enter Tryz.func197, Tryz.ntmps197
  go_wp2_with fail
  go_loopw [7, 12] (fun cv i wr => ∃ (m cr : Nat) (zs : List (BitVec 32)), m ≤ n ∧ i = .int .i64 (m : Int) ∧ cv = .int .u64 (cr : Int) ∧ cr < 4294967296 ∧ Hid (zs.length = m) ∧ Hid (val zs + 4294967296 ^ m * cr = val (xs.take m) + tm.toNat * val (ys.take m)) ∧ wr.heap[g]? = some (.cells (A ++ (wl (zs ++ xs.drop m) ++ C)).toArray t (0, 0)) ∧ But g W wr) (fun _ i _ => n - (intOf i).toNat)
  case atStart => exact ⟨0, 0, [], by omega, rfl, rfl, by omega, rfl, by rw [Hid, List.take_zero, List.take_zero]; simp [val], HG.out, But.refl _ _⟩
  case round =>
    obtain ⟨m, cr, zs, hm, rfl, rfl, hcr, HZL, HV, h1, hbut⟩ := hrel
    have H1 := Hid.mk h1
    by_cases hlt : m < n
    · have hml : m < (zs ++ xs.drop m).length := by rw [List.length_append, List.length_drop, HZL.out, HX.out]; omega
      have hat : (zs ++ xs.drop m)[m]?.getD 0 = xs[m]?.getD 0 := by rw [List.getElem?_append_right (by rw [HZL.out]; omega), HZL.out, Nat.sub_self, List.getElem?_drop, Nat.add_zero]
      obtain ⟨hcx, hfx⟩ := cells_at h1 (mid_at A C _ m hml)
      rw [hat, HA.out] at hcx
      rw [HA.out] at hfx
      have hcy := hbut.cell (p := ⟨h, p + m, none⟩) hne (HH.out m hlt)
      have HST := Hid.mk (fun z => mid_set A C (zs ++ xs.drop m) m hml z)
      have HSL : Hid (∀ z : BitVec 32, (zs ++ xs.drop m).set m z = (zs ++ [z]) ++ xs.drop (m + 1)) := fun z => by
        rw [List.set_append_right _ _ (by rw [HZL.out]; omega), HZL.out, Nat.sub_self, List.append_assoc, List.drop_eq_getElem_cons (by rw [HX.out]; exact hlt)]
        rfl
      have HVX := Hid.mk (val_take_succ xs m (by rw [HX.out]; exact hlt))
      have HVY := Hid.mk (val_take_succ ys m (by rw [HY.out]; exact hlt))
      generalize xs[m]?.getD 0 = x at hcx HVX
      generalize ys[m]?.getD 0 = y at hcy HVY
      have hxl := bv_lt x
      have hyl := bv_lt y
      have htl := bv_lt tm
      obtain ⟨P, HP⟩ : ∃ P, Hid (P = tm.toNat * y.toNat) := ⟨_, rfl⟩
      have hPb : P ≤ 4294967295 * 4294967295 := by rw [HP.out]; exact Nat.mul_le_mul (by omega) (by omega)
      have hPi : (tm.toNat : Int) * (y.toNat : Int) = (P : Int) := by rw [HP.out, Int.natCast_mul]
      obtain ⟨T, hT⟩ : ∃ T, T = P + x.toNat + cr := ⟨_, rfl⟩
      have hTi : (P : Int) + (x.toNat : Int) + (cr : Int) = (T : Int) := by omega
      have hTb : T < 18446744073709551616 := by omega
      obtain ⟨z, HZ⟩ : ∃ z, Hid (z = BitVec.ofNat 32 T) := ⟨_, rfl⟩
      have hzn : z.toNat = T % 4294967296 := by rw [HZ.out, bv_of]
      have hz1 : (T : Int) % 4294967296 = (z.toNat : Int) := by omega
      have hz2 : IntKind.u32.wrap (T : Int) = (z.toNat : Int) := by rw [IntKind.wrap_u32]; omega
      obtain ⟨c', hc'⟩ : ∃ c', T / 4294967296 = c' := ⟨_, rfl⟩
      have hs1 : (T : Int) / 4294967296 = (c' : Int) := by omega
      have hcb : c' < 4294967296 := by omega
      have HEQ : Hid (z.toNat + 4294967296 * c' = P + x.toNat + cr) := by rw [Hid]; omega
      have HT := Hid.mk hT
      have HZN := Hid.mk hzn
      have HC := Hid.mk hc'
      have u1 : (m : Int) < (n : Int) := by omega
      have w1 : IntKind.u64.wrap ((tm.toNat : Int) * (y.toNat : Int)) = (P : Int) := by rw [hPi, IntKind.wrap_u64]; omega
      clear h1 hat hml hT hzn hc'
      go_wp2_with fail
      go_quiet (fail)
      have hcx2 : (wr.drewN nq).cell? ⟨g, o + m, none⟩ = _ := hcx
      have hfx2 : (wr.drewN nq).frozen? ⟨g, o + m, none⟩ = false := hfx
      have H2 : Hid ((wr.drewN nq).heap[g]? = _) := H1.out
      have hbut2 : But g W (wr.drewN nq) := hbut.trans (But.drewN _ _ _)
      clear hcx hfx H1 hbut hcy
      generalize wr.drewN nq = V at hcx2 hfx2 H2 hbut2 ⊢
      go_wp2
      go_roundw
      case rel =>
        refine ⟨m + 1, c', zs ++ [z], by omega, by go_num, by go_num, hcb, by rw [Hid, List.length_append, HZL.out]; rfl, ?_, ?_, hbut2.trans (But.setCell _ _ _ _)⟩
        · rw [Hid, val_snoc, HZL.out, HVX.out, HVY.out, Nat.pow_succ]
          exact add_step _ _ _ _ _ _ _ _ _ _ _ HV.out HP.out HEQ.out
        · have hh := cells_put (j := o + m) H2.out (.int .u32 (z.toNat : Int))
          rw [← HA.out, HST.out z, HSL.out z, HA.out] at hh
          exact hh
      case measure => simp [intOf]; omega
    · obtain rfl : m = n := by omega
      rw [List.drop_eq_nil_of_le (by rw [HX.out]; omega), List.append_nil] at H1
      have HV2 : Hid (val zs + 4294967296 ^ m * cr = val xs + tm.toNat * val ys) := by
        have := HV.out
        rwa [List.take_of_length_le (by rw [HX.out]; omega), List.take_of_length_le (by rw [HY.out]; omega)] at this
      have hw : IntKind.u32.wrap (cr : Int) = (cr : Int) := by rw [IntKind.wrap_u32]; omega
      clear h1
      go_wp2
      go_ret
      refine ⟨zs, BitVec.ofNat 32 cr, HZL.out, ?_, ?_, H1.out, hbut⟩
      · rw [bv_of, Nat.mod_eq_of_lt hcr]; exact HV2.out
      · rw [bv_of, Nat.mod_eq_of_lt hcr]; rfl
end Go.Proofs.YtlcjagkfeakinaaGreatDoor.N

/- takeFrom, addTo, guess. -/
namespace Go.Proofs.YtlcjagkfeakinaaGreatDoor.N
set_option linter.unusedVariables false
open Go.RowKit
/-- a digit more: what is taken so far. -/
theorem take_step (B V X Y T c x y P z c' : Nat) (h : V + T * Y = X + B * c) (hP : P = T * y) (hz : z + P + c = x + 4294967296 * c') : V + B * z + T * (Y + B * y) = X + B * x + B * 4294967296 * c' := by
  have h1 : B * (z + P + c) = B * (x + 4294967296 * c') := by rw [hz]
  rw [Nat.mul_add, Nat.mul_add, Nat.mul_add, hP] at h1
  rw [Nat.mul_add, Nat.mul_assoc B]
  have h2 : B * (T * y) = T * (B * y) := by rw [← Nat.mul_assoc, ← Nat.mul_assoc, Nat.mul_comm B T]
  rw [h2] at h1
  omega
set_option maxRecDepth 100000 in
set_option maxHeartbeats 2000000 in
theorem takeFrom_in (W : World) (g h t o p c1 c2 n : Nat) (A C : List Value) (xs ys : List (BitVec 32)) (tm : BitVec 32) (hA : A.length = o) (hx : xs.length = n) (hy : ys.length = n) (hn : n ≤ 1000) (ho : o ≤ 1000) (hp : p ≤ 1000)
    (hg : W.heap[g]? = some (.cells (A ++ (wl xs ++ C)).toArray t (0, 0))) (hne : h ≠ g) (hh : ∀ j, j < n → W.cell? ⟨h, p + j, none⟩ = some (.int .u32 ((ys[j]?.getD 0).toNat : Int))) :
    Calls Tryz.prog 220 #[.slice (some ⟨g, o, none⟩) n c1, .slice (some ⟨h, p, none⟩) n c2, .int .u32 (tm.toNat : Int)] W fun e w' => ∃ (zs : List (BitVec 32)) (c : BitVec 32), zs.length = n ∧ val zs + tm.toNat * val ys = val xs + 4294967296 ^ n * c.toNat ∧ e = .returned (.int .u32 (c.toNat : Int)) ∧ w'.heap[g]? = some (.cells (A ++ (wl zs ++ C)).toArray t (0, 0)) ∧ But g W w' := by
  have HA := Hid.mk hA
  have HX := Hid.mk hx
  have HY := Hid.mk hy
  have HG := Hid.mk hg
  have HH := Hid.mk hh
  clear hA hx hy hg hh
  go_enter Tryz.func220, Tryz.ntmps220
  go_wp2_with fail
  go_loopw [7, 13] (fun cv i wr => ∃ (m cr : Nat) (zs : List (BitVec 32)), m ≤ n ∧ i = .int .i64 (m : Int) ∧ cv = .int .u64 (cr : Int) ∧ cr < 4294967296 ∧ Hid (zs.length = m) ∧ Hid (val zs + tm.toNat * val (ys.take m) = val (xs.take m) + 4294967296 ^ m * cr) ∧ wr.heap[g]? = some (.cells (A ++ (wl (zs ++ xs.drop m) ++ C)).toArray t (0, 0)) ∧ But g W wr) (fun _ i _ => n - (intOf i).toNat)
  case atStart => exact ⟨0, 0, [], by omega, rfl, rfl, by omega, rfl, by rw [Hid, List.take_zero, List.take_zero]; simp [val], HG.out, But.refl _ _⟩
  case round =>
    obtain ⟨m, cr, zs, hm, rfl, rfl, hcr, HZL, HV, h1, hbut⟩ := hrel
    have H1 := Hid.mk h1
    by_cases hlt : m < n
    · have hml : m < (zs ++ xs.drop m).length := by rw [List.length_append, List.length_drop, HZL.out, HX.out]; omega
      have hat : (zs ++ xs.drop m)[m]?.getD 0 = xs[m]?.getD 0 := by rw [List.getElem?_append_right (by rw [HZL.out]; omega), HZL.out, Nat.sub_self, List.getElem?_drop, Nat.add_zero]
      obtain ⟨hcx, hfx⟩ := cells_at h1 (mid_at A C _ m hml)
      rw [hat, HA.out] at hcx
      rw [HA.out] at hfx
      have hcy := hbut.cell (p := ⟨h, p + m, none⟩) hne (HH.out m hlt)
      have HST := Hid.mk (fun z => mid_set A C (zs ++ xs.drop m) m hml z)
      have HSL : Hid (∀ z : BitVec 32, (zs ++ xs.drop m).set m z = (zs ++ [z]) ++ xs.drop (m + 1)) := fun z => by
        rw [List.set_append_right _ _ (by rw [HZL.out]; omega), HZL.out, Nat.sub_self, List.append_assoc, List.drop_eq_getElem_cons (by rw [HX.out]; exact hlt)]
        rfl
      have HVX := Hid.mk (val_take_succ xs m (by rw [HX.out]; exact hlt))
      have HVY := Hid.mk (val_take_succ ys m (by rw [HY.out]; exact hlt))
      generalize xs[m]?.getD 0 = x at hcx HVX
      generalize ys[m]?.getD 0 = y at hcy HVY
      have hxl := bv_lt x
      have hyl := bv_lt y
      have htl := bv_lt tm
      obtain ⟨P, HP⟩ : ∃ P, Hid (P = tm.toNat * y.toNat) := ⟨_, rfl⟩
      have hPb : P ≤ 4294967295 * 4294967295 := by rw [HP.out]; exact Nat.mul_le_mul (by omega) (by omega)
      have hPi : (tm.toNat : Int) * (y.toNat : Int) = (P : Int) := by rw [HP.out, Int.natCast_mul]
      obtain ⟨T, hT⟩ : ∃ T, T = P + cr := ⟨_, rfl⟩
      have hTi : (P : Int) + (cr : Int) = (T : Int) := by omega
      have hTb : T ≤ 18446744069414584320 := by omega
      obtain ⟨tl, htl2⟩ : ∃ tl, T % 4294967296 = tl := ⟨_, rfl⟩
      obtain ⟨th, hth⟩ : ∃ th, T / 4294967296 = th := ⟨_, rfl⟩
      have q1 : (T : Int) % 4294967296 = (tl : Int) := by omega
      have q2 : IntKind.u32.wrap (T : Int) = (tl : Int) := by rw [IntKind.wrap_u32]; omega
      have q3 : (T : Int) / 4294967296 = (th : Int) := by omega
      obtain ⟨D, hD⟩ : ∃ D, (x.toNat + 18446744073709551616 - tl) % 18446744073709551616 = D := ⟨_, rfl⟩
      have q4 : IntKind.u64.wrap ((x.toNat : Int) - (tl : Int)) = (D : Int) := by rw [IntKind.wrap_u64]; omega
      have q4' : ((x.toNat : Int) - (tl : Int)) % 18446744073709551616 = (D : Int) := by omega
      obtain ⟨bw, hbw⟩ : ∃ bw, D / 9223372036854775808 = bw := ⟨_, rfl⟩
      have q5 : (D : Int) / 9223372036854775808 = (bw : Int) := by omega
      obtain ⟨z, HZ⟩ : ∃ z, Hid (z = BitVec.ofNat 32 D) := ⟨_, rfl⟩
      have hzn : z.toNat = D % 4294967296 := by rw [HZ.out, bv_of]
      have q6 : (D : Int) % 4294967296 = (z.toNat : Int) := by omega
      have q7 : IntKind.u32.wrap (D : Int) = (z.toNat : Int) := by rw [IntKind.wrap_u32]; omega
      obtain ⟨c', hc'⟩ : ∃ c', c' = th + bw := ⟨_, rfl⟩
      have q8 : (th : Int) + (bw : Int) = (c' : Int) := by omega
      have hDc : (tl ≤ x.toNat ∧ D = x.toNat - tl) ∨ (x.toNat < tl ∧ D = x.toNat + 18446744073709551616 - tl) := by
        clear q4 q4' q5 q6 q7 q8
        omega
      have hcb : c' < 4294967296 := by
        clear q4 q4' q5 q6 q7 q8 hzn
        rcases hDc with ⟨d1, d2⟩ | ⟨d1, d2⟩ <;> omega
      have HEQ : Hid (z.toNat + P + cr = x.toNat + 4294967296 * c') := by
        rw [Hid, hzn]
        clear q4 q4' q5 q6 q7 q8 hzn
        rcases hDc with ⟨d1, d2⟩ | ⟨d1, d2⟩ <;> omega
      have hDb : D < 18446744073709551616 := by omega
      have htlb : tl < 4294967296 := by omega
      have hthb : th < 4294967296 := by omega
      have hbwb : bw < 2 := by omega
      have u1 : (m : Int) < (n : Int) := by omega
      have w1 : IntKind.u64.wrap ((tm.toNat : Int) * (y.toNat : Int)) = (P : Int) := by rw [hPi, IntKind.wrap_u64]; omega
      clear h1 hat hml hT hzn hc' hD hbw htl2 hth hDc
      go_wp2
      go_roundw
      case rel =>
        refine ⟨m + 1, c', zs ++ [z], by omega, by go_num, by go_num, hcb, by rw [Hid, List.length_append, HZL.out]; rfl, ?_, ?_, hbut.trans (But.setCell _ _ _ _)⟩
        · rw [Hid, val_snoc, HZL.out, HVX.out, HVY.out, Nat.pow_succ]
          exact take_step _ _ _ _ _ _ _ _ _ _ _ HV.out HP.out HEQ.out
        · have hh := cells_put (j := o + m) H1.out (.int .u32 (z.toNat : Int))
          rw [← HA.out, HST.out z, HSL.out z, HA.out] at hh
          exact hh
      case measure => simp [intOf]; omega
    · obtain rfl : m = n := by omega
      rw [List.drop_eq_nil_of_le (by rw [HX.out]; omega), List.append_nil] at H1
      have HV2 : Hid (val zs + tm.toNat * val ys = val xs + 4294967296 ^ m * cr) := by
        have := HV.out
        rwa [List.take_of_length_le (by rw [HY.out]; omega), List.take_of_length_le (by rw [HX.out]; omega)] at this
      have hw : IntKind.u32.wrap (cr : Int) = (cr : Int) := by rw [IntKind.wrap_u32]; omega
      clear h1
      go_wp2
      go_ret
      refine ⟨zs, BitVec.ofNat 32 cr, HZL.out, ?_, ?_, H1.out, hbut⟩
      · rw [bv_of, Nat.mod_eq_of_lt hcr]; exact HV2.out
      · rw [bv_of, Nat.mod_eq_of_lt hcr]; rfl
theorem addTo_in (W : World) (g h t o p c1 c2 n : Nat) (A C : List Value) (xs ys : List (BitVec 32)) (hA : A.length = o) (hx : xs.length = n) (hy : ys.length = n) (hn : n ≤ 1000) (ho : o ≤ 1000) (hp : p ≤ 1000)
    (hg : W.heap[g]? = some (.cells (A ++ (wl xs ++ C)).toArray t (0, 0))) (hne : h ≠ g) (hh : ∀ j, j < n → W.cell? ⟨h, p + j, none⟩ = some (.int .u32 ((ys[j]?.getD 0).toNat : Int))) :
    Calls Tryz.prog 221 #[.slice (some ⟨g, o, none⟩) n c1, .slice (some ⟨h, p, none⟩) n c2] W fun e w' => ∃ (zs : List (BitVec 32)) (c : BitVec 32), zs.length = n ∧ val zs + 4294967296 ^ n * c.toNat = val xs + val ys ∧ e = .returned (.int .u32 (c.toNat : Int)) ∧ w'.heap[g]? = some (.cells (A ++ (wl zs ++ C)).toArray t (0, 0)) ∧ But g W w' := by
  have H := Hid.mk (addTimes_in W g h t o p c1 c2 n A C xs ys 1#32 hA hx hy hn ho hp hg hne hh)
  clear hg hh hA
  go_enter Tryz.func221, Tryz.ntmps221
  go_wp2_with fail
  refine H.out.mono ?_
  rintro e w1 ⟨zs, c, h1, h2, rfl, h3, h4⟩
  go_wp2
  go_ret
  refine ⟨zs, c, h1, ?_, rfl, h3, h4⟩
  rw [h2]
  show val xs + 1 * val ys = _
  rw [Nat.one_mul]
/-- a guess of a digit. -/
def gs (a b d : Nat) : Nat := min ((4294967296 * a + b) / d) 4294967295
theorem or64 (a b : Nat) (ha : a < 4294967296) (hb : b < 4294967296) : bits .or .u64 ((a : Int) * 4294967296) (b : Int) = ((4294967296 * a + b : Nat) : Int) := by
  have e : a * 4294967296 ||| b = 4294967296 * a + b := by
    have := (Nat.two_pow_add_eq_or_of_lt (i := 32) (b := b) (by omega) a).symm
    simp only [Nat.reducePow] at this
    rw [Nat.mul_comm a]
    exact this
  rw [show ((a : Int) * 4294967296) = ((a * 4294967296 : Nat) : Int) by omega, u64_or_nat _ _ (by omega) (by omega), e]
theorem guess_in (a b d : BitVec 32) (hd : 0 < d.toNat) (W : World) :
    Calls Tryz.prog 219 #[.int .u32 (a.toNat : Int), .int .u32 (b.toNat : Int), .int .u32 (d.toNat : Int)] W fun e w' => e = .returned (.int .u32 ((gs a.toNat b.toNat d.toNat : Nat) : Int)) ∧ w' = W := by
  have ha := bv_lt a
  have hb := bv_lt b
  have hdl := bv_lt d
  have hor := or64 a.toNat b.toNat ha hb
  obtain ⟨M, hM⟩ : ∃ M, 4294967296 * a.toNat + b.toNat = M := ⟨_, rfl⟩
  rw [hM] at hor
  obtain ⟨q, hq⟩ : ∃ q, M / d.toNat = q := ⟨_, rfl⟩
  have hq1 : (M : Int) / (d.toNat : Int) = (q : Int) := by rw [← hq, Int.natCast_ediv]
  have hq2 : (M : Int).tdiv (d.toNat : Int) = (q : Int) := by rw [Int.tdiv_eq_ediv_of_nonneg (by omega)]; exact hq1
  have hqb : q ≤ M := by rw [← hq]; exact Nat.div_le_self _ _
  have hMb : M < 18446744073709551616 := by omega
  obtain ⟨r, hr⟩ : ∃ r, gs a.toNat b.toNat d.toNat = r := ⟨_, rfl⟩
  have hr2 : r = min q 4294967295 := by rw [← hr, gs, hM, hq]
  have hd0 : ((d.toNat : Int) == 0) = false := by rw [beq_eq_false_iff_ne]; omega
  have hd1 : (0 : Int) < (d.toNat : Int) := by omega
  rw [hr]
  have HR := Hid.mk hr2
  clear hr hr2 hq hM
  go_enter Tryz.func219, Tryz.ntmps219
  go_wp2
  all_goals (
    go_ret
    refine ⟨ret_int ?_, rfl⟩
    rw [HR.out]
    omega)
end Go.Proofs.YtlcjagkfeakinaaGreatDoor.N

/- shiftUp, shiftDown. -/
namespace Go.Proofs.YtlcjagkfeakinaaGreatDoor.N
set_option linter.unusedVariables false
open Go.RowKit
theorem orS (x k c : Nat) (hx : x < 4294967296) (hk : k < 32) (hc : c < 2 ^ k) : bits .or .u64 ((x : Int) * 2 ^ k) (c : Int) = ((x * 2 ^ k + c : Nat) : Int) ∧ x * 2 ^ k + c < 4294967296 * 2 ^ k ∧ (x : Int) * 2 ^ k = ((x * 2 ^ k : Nat) : Int) := by
  have h1 : 2 ^ k ≤ 2 ^ 31 := Nat.pow_le_pow_right (by omega) (by omega)
  have h0 : 0 < 2 ^ k := Nat.two_pow_pos k
  have h2 : (x + 1) * 2 ^ k ≤ 4294967296 * 2 ^ k := Nat.mul_le_mul_right _ (by omega)
  rw [Nat.add_mul, Nat.one_mul] at h2
  have h3 : 4294967296 * 2 ^ k ≤ 4294967296 * 2 ^ 31 := Nat.mul_le_mul_left _ h1
  have e : x * 2 ^ k ||| c = x * 2 ^ k + c := by
    rw [Nat.mul_comm x]
    exact (Nat.two_pow_add_eq_or_of_lt hc x).symm
  have ei : (x : Int) * 2 ^ k = ((x * 2 ^ k : Nat) : Int) := by rw [Int.natCast_mul, Int.natCast_pow]; rfl
  refine ⟨?_, by omega, ei⟩
  rw [ei, u64_or_nat _ _ (by omega) (by omega), e]
theorem up_step (B V X s c x z c' : Nat) (h : V + B * c = X * s) (hz : z + 4294967296 * c' = x * s + c) : V + B * z + B * 4294967296 * c' = (X + B * x) * s := by
  have h1 : B * (z + 4294967296 * c') = B * (x * s + c) := by rw [hz]
  rw [Nat.mul_add, Nat.mul_add] at h1
  rw [Nat.add_mul, Nat.mul_assoc B, Nat.mul_assoc B]
  omega
set_option maxRecDepth 100000 in
set_option maxHeartbeats 2000000 in
theorem shiftUp_in (W : World) (g t o c1 n k : Nat) (A C : List Value) (xs : List (BitVec 32)) (hA : A.length = o) (hx : xs.length = n) (hn : n ≤ 1000) (ho : o ≤ 1000) (hk : k < 32)
    (hg : W.heap[g]? = some (.cells (A ++ (wl xs ++ C)).toArray t (0, 0))) :
    Calls Tryz.prog 194 #[.slice (some ⟨g, o, none⟩) n c1, .int .i64 (k : Int)] W fun e w' => ∃ (zs : List (BitVec 32)) (c : Nat), zs.length = n ∧ val zs + 4294967296 ^ n * c = val xs * 2 ^ k ∧ e = .returned (.tuple #[]) ∧ w'.heap[g]? = some (.cells (A ++ (wl zs ++ C)).toArray t (0, 0)) ∧ But g W w' := by
  have HA := Hid.mk hA
  have HX := Hid.mk hx
  have HG := Hid.mk hg
  obtain ⟨s, hs⟩ : ∃ s, s = 2 ^ k := ⟨_, rfl⟩
  have HS := Hid.mk hs
  have hs0 : 0 < s := by rw [hs]; exact Nat.two_pow_pos k
  have hs1 : s ≤ 2147483648 := by rw [hs]; exact Nat.pow_le_pow_right (n := 2) (by omega) (show k ≤ 31 by omega)
  rw [← hs]
  clear hA hx hg hs
  go_enter Tryz.func194, Tryz.ntmps194
  go_wp2_with fail
  go_loopw [4, 9] (fun cv i wr => ∃ (m cr : Nat) (zs : List (BitVec 32)), m ≤ n ∧ i = .int .i64 (m : Int) ∧ cv = .int .u64 (cr : Int) ∧ cr < s ∧ Hid (zs.length = m) ∧ Hid (val zs + 4294967296 ^ m * cr = val (xs.take m) * s) ∧ wr.heap[g]? = some (.cells (A ++ (wl (zs ++ xs.drop m) ++ C)).toArray t (0, 0)) ∧ But g W wr) (fun _ i _ => n - (intOf i).toNat)
  case atStart => exact ⟨0, 0, [], by omega, rfl, rfl, hs0, rfl, by rw [Hid, List.take_zero]; simp [val], HG.out, But.refl _ _⟩
  case round =>
    obtain ⟨m, cr, zs, hm, rfl, rfl, hcr, HZL, HV, h1, hbut⟩ := hrel
    have H1 := Hid.mk h1
    by_cases hlt : m < n
    · have hml : m < (zs ++ xs.drop m).length := by rw [List.length_append, List.length_drop, HZL.out, HX.out]; omega
      have hat : (zs ++ xs.drop m)[m]?.getD 0 = xs[m]?.getD 0 := by rw [List.getElem?_append_right (by rw [HZL.out]; omega), HZL.out, Nat.sub_self, List.getElem?_drop, Nat.add_zero]
      obtain ⟨hcx, hfx⟩ := cells_at h1 (mid_at A C _ m hml)
      rw [hat, HA.out] at hcx
      rw [HA.out] at hfx
      have HST := Hid.mk (fun z => mid_set A C (zs ++ xs.drop m) m hml z)
      have HSL : Hid (∀ z : BitVec 32, (zs ++ xs.drop m).set m z = (zs ++ [z]) ++ xs.drop (m + 1)) := fun z => by
        rw [List.set_append_right _ _ (by rw [HZL.out]; omega), HZL.out, Nat.sub_self, List.append_assoc, List.drop_eq_getElem_cons (by rw [HX.out]; exact hlt)]
        rfl
      have HVX := Hid.mk (val_take_succ xs m (by rw [HX.out]; exact hlt))
      generalize xs[m]?.getD 0 = x at hcx HVX
      have hxl := bv_lt x
      obtain ⟨o1, o2, o3⟩ := orS x.toNat k cr hxl hk (by rw [← HS.out]; exact hcr)
      rw [o3] at o1
      rw [← HS.out] at o1 o2 o3
      obtain ⟨X, hX⟩ : ∃ X, x.toNat * s = X := ⟨_, rfl⟩
      rw [hX] at o1 o2 o3
      obtain ⟨T, hT⟩ : ∃ T, T = X + cr := ⟨_, rfl⟩
      rw [← hT] at o1 o2
      have o3' : (x.toNat : Int) * (s : Int) = (X : Int) := by rw [← hX, Int.natCast_mul]
      obtain ⟨z, HZ⟩ : ∃ z, Hid (z = BitVec.ofNat 32 T) := ⟨_, rfl⟩
      have hzn : z.toNat = T % 4294967296 := by rw [HZ.out, bv_of]
      have hz1 : (T : Int) % 4294967296 = (z.toNat : Int) := by omega
      have hz2 : IntKind.u32.wrap (T : Int) = (z.toNat : Int) := by rw [IntKind.wrap_u32]; omega
      obtain ⟨c', hc'⟩ : ∃ c', T / 4294967296 = c' := ⟨_, rfl⟩
      have hs1' : (T : Int) / 4294967296 = (c' : Int) := by omega
      have hcb : c' < s := by omega
      have HEQ : Hid (z.toNat + 4294967296 * c' = x.toNat * s + cr) := by rw [Hid, hX]; omega
      have hTb : T < 18446744073709551616 := by omega
      have hXb : X < 18446744073709551616 := by omega
      have hk0 : (0 : Int) ≤ (k : Int) := by omega
      have w1 : IntKind.u64.wrap (X : Int) = (X : Int) := by rw [IntKind.wrap_u64]; omega
      clear h1 hat hml hT hzn hc' hX
      go_wp2
      go_roundw
      case rel =>
        refine ⟨m + 1, c', zs ++ [z], by omega, by go_num, by go_num, hcb, by rw [Hid, List.length_append, HZL.out]; rfl, ?_, ?_, hbut.trans (But.setCell _ _ _ _)⟩
        · rw [Hid, val_snoc, HZL.out, HVX.out, Nat.pow_succ]
          exact up_step _ _ _ _ _ _ _ _ HV.out HEQ.out
        · have hh := cells_put (j := o + m) H1.out (.int .u32 (z.toNat : Int))
          rw [← HA.out, HST.out z, HSL.out z, HA.out] at hh
          exact hh
      case measure => simp [intOf]; omega
    · obtain rfl : m = n := by omega
      rw [List.drop_eq_nil_of_le (by rw [HX.out]; omega), List.append_nil] at H1
      have HV2 : Hid (val zs + 4294967296 ^ m * cr = val xs * s) := by
        have := HV.out
        rwa [List.take_of_length_le (by rw [HX.out]; omega)] at this
      clear h1
      go_wp2
      refine bodyPost_end (results_none rfl _ _ _) rfl ⟨zs, cr, HZL.out, HV2.out, rfl, H1.out, hbut⟩
theorem down_step (B s V x ab Q z : Nat) (hd : s ∣ B) (hs : 0 < s) (hab : ab = V % B) (hQ : Q = (B * ab + x) / s) (hz : z = Q % B) (hx : x < B) : z + B * (V / s) = (x + B * V) / s := by
  have hr : ab % s = V % s := by rw [hab]; exact Nat.mod_mod_of_dvd V hd
  have hlt : V % s < s := Nat.mod_lt _ hs
  have e1 : s * (ab / s) + V % s = ab := by rw [← hr]; exact Nat.div_add_mod ab s
  have e2 : s * (V / s) + V % s = V := Nat.div_add_mod V s
  have hB : 0 < B := by omega
  have hsm : (B * (V % s) + x) / s < B := by
    apply Nat.div_lt_of_lt_mul
    have h1 : B * (V % s + 1) ≤ B * s := Nat.mul_le_mul_left _ hlt
    rw [Nat.mul_add, Nat.mul_one] at h1
    rw [Nat.mul_comm s B]
    omega
  have hQ2 : Q = B * (ab / s) + (B * (V % s) + x) / s := by
    rw [hQ]
    have h1 : B * ab + x = s * (B * (ab / s)) + (B * (V % s) + x) := by
      have h2 : B * ab = B * (s * (ab / s)) + B * (V % s) := by rw [← Nat.mul_add, e1]
      rw [h2, Nat.mul_left_comm B s]
      omega
    rw [h1, Nat.mul_add_div hs]
  have hz2 : z = (B * (V % s) + x) / s := by
    rw [hz, hQ2, Nat.mul_add_mod, Nat.mod_eq_of_lt hsm]
  have h3 : x + B * V = s * (B * (V / s)) + (B * (V % s) + x) := by
    have h2 : B * V = B * (s * (V / s)) + B * (V % s) := by rw [← Nat.mul_add, e2]
    rw [h2, Nat.mul_left_comm B s]
    omega
  rw [h3, Nat.mul_add_div hs, hz2]
  omega
set_option maxRecDepth 100000 in
set_option maxHeartbeats 2000000 in
theorem shiftDown_in (W : World) (g t o c1 n k : Nat) (A C : List Value) (xs : List (BitVec 32)) (hA : A.length = o) (hx : xs.length = n) (hn : n ≤ 1000) (ho : o ≤ 1000) (hk : k < 32)
    (hg : W.heap[g]? = some (.cells (A ++ (wl xs ++ C)).toArray t (0, 0))) :
    Calls Tryz.prog 196 #[.slice (some ⟨g, o, none⟩) n c1, .int .i64 (k : Int)] W fun e w' => ∃ (zs : List (BitVec 32)), zs.length = n ∧ val zs = val xs / 2 ^ k ∧ e = .returned (.tuple #[]) ∧ w'.heap[g]? = some (.cells (A ++ (wl zs ++ C)).toArray t (0, 0)) ∧ But g W w' := by
  have HA := Hid.mk hA
  have HX := Hid.mk hx
  have HG := Hid.mk hg
  obtain ⟨s, hs⟩ : ∃ s, s = 2 ^ k := ⟨_, rfl⟩
  have HS := Hid.mk hs
  have hs0 : 0 < s := by rw [hs]; exact Nat.two_pow_pos k
  have HDV : Hid (s ∣ 4294967296) := by rw [Hid, hs]; exact Nat.pow_dvd_pow (n := 32) 2 (by omega)
  rw [← hs]
  clear hA hx hg hs
  go_enter Tryz.func196, Tryz.ntmps196
  go_wp2_with fail
  go_loopw [4, 10] (fun av i wr => ∃ (m ab : Nat) (ts : List (BitVec 32)), m ≤ n ∧ i = .int .i64 (m : Int) ∧ av = .int .u32 (ab : Int) ∧ ab < 4294967296 ∧ Hid (ts.length = m) ∧ Hid (ab = val (xs.drop (n - m)) % 4294967296) ∧ Hid (val ts = val (xs.drop (n - m)) / s) ∧ wr.heap[g]? = some (.cells (A ++ (wl (xs.take (n - m) ++ ts) ++ C)).toArray t (0, 0)) ∧ But g W wr) (fun _ i _ => n - (intOf i).toNat)
  case atStart =>
    have e0 : xs.drop (n - 0) = [] := List.drop_eq_nil_of_le (by rw [HX.out]; omega)
    refine ⟨0, 0, [], by omega, rfl, rfl, by omega, rfl, by rw [Hid, e0]; rfl, by rw [Hid, e0]; exact (Nat.zero_div s).symm, ?_, But.refl _ _⟩
    rw [List.take_of_length_le (by rw [HX.out]; omega), List.append_nil]
    exact HG.out
  case round =>
    obtain ⟨m, ab, ts, hm, rfl, rfl, hab, HTL, HAB, HV, h1, hbut⟩ := hrel
    have H1 := Hid.mk h1
    by_cases hlt : m < n
    · obtain ⟨a, ha⟩ : ∃ a, n - 1 - m = a := ⟨_, rfl⟩
      have ha1 : n - m = a + 1 := by omega
      have ha2 : n - (m + 1) = a := by omega
      have hal : a < n := by omega
      have hai : (n : Int) - 1 - (m : Int) = (a : Int) := by omega
      have hml : a < (xs.take (n - m) ++ ts).length := by rw [List.length_append, List.length_take, HTL.out, HX.out]; omega
      have hat : (xs.take (n - m) ++ ts)[a]?.getD 0 = xs[a]?.getD 0 := by rw [List.getElem?_append_left (by rw [List.length_take, HX.out]; omega), List.getElem?_take_of_lt (by omega)]
      obtain ⟨hcx, hfx⟩ := cells_at h1 (mid_at A C _ a hml)
      rw [hat, HA.out] at hcx
      rw [HA.out] at hfx
      have HST := Hid.mk (fun z => mid_set A C (xs.take (n - m) ++ ts) a hml z)
      have HSL : Hid (∀ z : BitVec 32, (xs.take (n - m) ++ ts).set a z = xs.take (n - (m + 1)) ++ (z :: ts)) := fun z => by
        rw [ha1, ha2, List.take_add_one, List.getElem?_eq_getElem (by rw [HX.out]; exact hal), List.append_assoc, List.set_append_right _ _ (by rw [List.length_take, HX.out]; omega), List.length_take, show a - min a xs.length = 0 by have := HX.out; omega]
        rfl
      have HDR : Hid (val (xs.drop (n - (m + 1))) = (xs[a]?.getD 0).toNat + 4294967296 * val (xs.drop (n - m))) := by
        rw [Hid, ha1, ha2, List.drop_eq_getElem_cons (by rw [HX.out]; exact hal), val, List.getElem?_eq_getElem (by rw [HX.out]; exact hal)]
        rfl
      generalize xs[a]?.getD 0 = x at hcx HDR
      have hxl := bv_lt x
      have hor := or64 ab x.toNat hab hxl
      obtain ⟨T, hT⟩ : ∃ T, 4294967296 * ab + x.toNat = T := ⟨_, rfl⟩
      rw [hT] at hor
      have hTb : T < 18446744073709551616 := by omega
      obtain ⟨Q, hQ⟩ : ∃ Q, T / s = Q := ⟨_, rfl⟩
      have hQi : (T : Int) / 2 ^ k = (Q : Int) := by rw [← hQ, HS.out, Int.natCast_ediv, Int.natCast_pow]; rfl
      have hQi2 : (T : Int) / (s : Int) = (Q : Int) := by rw [← hQ, Int.natCast_ediv]
      have hQb : Q < 18446744073709551616 := by rw [← hQ]; exact Nat.lt_of_le_of_lt (Nat.div_le_self _ _) hTb
      obtain ⟨z, HZ⟩ : ∃ z, Hid (z = BitVec.ofNat 32 Q) := ⟨_, rfl⟩
      have hzn : z.toNat = Q % 4294967296 := by rw [HZ.out, bv_of]
      have hz1 : (Q : Int) % 4294967296 = (z.toNat : Int) := by omega
      have hz2 : IntKind.u32.wrap (Q : Int) = (z.toNat : Int) := by rw [IntKind.wrap_u32]; omega
      have HVN : Hid (val (z :: ts) = val (xs.drop (n - (m + 1))) / s) := by
        rw [Hid, val, HV.out, HDR.out]
        exact down_step 4294967296 s _ x.toNat ab Q z.toNat HDV.out hs0 HAB.out (by rw [hT, hQ]) hzn hxl
      have HAN : Hid (x.toNat = val (xs.drop (n - (m + 1))) % 4294967296) := by rw [Hid, HDR.out]; omega
      have hk0 : (0 : Int) ≤ (k : Int) := by omega
      clear h1 hat hml hT hzn hQ ha HV HAB HDR
      go_wp2
      go_roundw
      case rel =>
        refine ⟨m + 1, x.toNat, z :: ts, by omega, by go_num, by go_num, hxl, by rw [Hid, List.length_cons, HTL.out], HAN, HVN, ?_, hbut.trans (But.setCell _ _ _ _)⟩
        have hh := cells_put (j := o + a) H1.out (.int .u32 (z.toNat : Int))
        rw [← HA.out, HST.out z, HSL.out z, HA.out] at hh
        exact hh
      case measure => simp [intOf]; omega
    · obtain rfl : m = n := by omega
      rw [Nat.sub_self, List.take_zero, List.nil_append] at H1
      have HV2 : Hid (val ts = val xs / s) := by
        have := HV.out
        rwa [Nat.sub_self, List.drop_zero] at this
      clear h1
      go_wp2
      refine bodyPost_end (results_none rfl _ _ _) rfl ⟨ts, HTL.out, HV2.out, rfl, H1.out, hbut⟩
end Go.Proofs.YtlcjagkfeakinaaGreatDoor.N
