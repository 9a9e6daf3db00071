/- Texts of this proof, joined: DJoin, DBytes, DKey, DSig. -/
import Derived.BigRegion
import Derived.Test.YtikjepodmdaknaaGreatDoorJ9
import Derived.Test.YtikjepodmdaknaaGreatDoorJ6
import Derived.Deep.RegionHeld3
import Derived.Test.YtikjepodmdaknaaGreatDoorJ10
import Derived.Test.YtikjepodmdaknaaGreatDoorJ11
set_option linter.unusedVariables false
set_option linter.unusedSimpArgs false
/- joined: data of pieces that are put down; slices.Equal. -/
namespace Go.Proofs.YtikjepodmdaknaaGreatDoor
open Go.RowKit
def TextsAt (W : World) (v : Value) (l : List ByteArray) : Prop := ∃ q c, v = .slice q l.length c ∧ ∀ j (h : j < l.length), ∃ g, q = some ⟨g, 0, none⟩ ∧ g < W.heap.size ∧ W.cell? ⟨g, j, none⟩ = some (.string l[j])
theorem texts_of_row {W : World} {n₀ : Nat} {e : TypeId} {v : Value} {l : List ByteArray} (h : W.ownsRow n₀ e 1 v l.length (baV l)) : TextsAt W v l := by
 obtain ⟨q, c, rfl⟩ := row_as h
 exact ⟨q, c, rfl, fun j hj => row_cell h j hj⟩
theorem ba_ne {x y : ByteArray} (h : x ≠ y) : (x.toList == y.toList) = false ∧ (x.toList != y.toList) = true := by
 have hn : ¬ x.toList = y.toList := fun e => h (ba_ext (by rw [← ByteArray.toList_eq, ← ByteArray.toList_eq]; exact e))
 exact ⟨by simpa using hn, by simpa using hn⟩
set_option maxRecDepth 100000 in
set_option maxHeartbeats 2000000 in
theorem equal_in (W : World) (va vb : Value) (a b : List ByteArray) (ha : TextsAt W va a) (hb : TextsAt W vb b) (hla : a.length ≤ 1000) (hlb : b.length ≤ 1000) :
  Calls Tryz.prog 82 #[va, vb] W fun e w' => e = .returned (.bool (decide (a = b))) ∧ Below W.heap.size W w' := by
 obtain ⟨qa, ca, rfl, hca⟩ := ha
 obtain ⟨qb, cb, rfl, hcb⟩ := hb
 have hmo : Tryz.prog.follows Departure.mixedOrders = true := by kernel_rfl
 obtain ⟨D, hDe⟩ : ∃ D, decide (a = b) = D := ⟨_, rfl⟩
 rw [hDe]
 have HDE := Hid.mk hDe
 clear hDe
 by_cases hn : a.length = b.length
 ·have HCA := Hid.mk hca
  have HCB := Hid.mk hcb
  have HN := Hid.mk hn
  have hnb : ((a.length : Int) != (b.length : Int)) = false := by rw [hn]; simp
  clear hca hcb hn
  go_enter Tryz.func82, Tryz.ntmps82
  go_wp2
  go_loopw [13] (fun iv wr => ∃ m : Nat, m ≤ a.length ∧ iv = .int .i64 m ∧ Hid (a.take m = b.take m) ∧ Below W.heap.size W wr) (fun iv _ => a.length - (intOf iv).toNat)
  case atStart => exact ⟨0, Nat.zero_le _, rfl, rfl, Below.refl _ _⟩
  case round =>
   obtain ⟨m, hm, rfl, HE, hbl⟩ := hrel
   by_cases hlt : m < a.length
   ·have hltb : m < b.length := by have := HN.out; omega
    obtain ⟨ga, hqa, hga, hxa⟩ := HCA.out m hlt
    obtain ⟨gb, hqb, hgb, hxb⟩ := HCB.out m hltb
    subst hqa hqb
    have cA := (hbl.cell (p := ⟨ga, m, none⟩) hga).trans hxa
    have cB := (hbl.cell (p := ⟨gb, m, none⟩) hgb).trans hxb
    have hi0 : (0 : Int) ≤ (m : Int) := by omega
    have hi1 : (m : Int) < (a.length : Int) := by omega
    have hi2 : (m : Int) < (b.length : Int) := by omega
    have HTA : Hid (a.take (m + 1) = a.take m ++ [a[m]]) := List.take_succ_eq_append_getElem hlt
    have HTB : Hid (b.take (m + 1) = b.take m ++ [b[m]]) := List.take_succ_eq_append_getElem hltb
    have HNE : Hid (a[m] ≠ b[m] → a ≠ b) := by
     intro h e
     subst e
     exact h rfl
    clear hxa hxb
    generalize a[m] = x at cA HTA HNE
    generalize b[m] = y at cB HTB HNE
    by_cases hxy : x = y
    ·subst hxy
     have hs1 : (x.toList == x.toList) = true := by simp
     have hs2 : (x.toList != x.toList) = false := by simp
     have HNX : Hid (a.take (m + 1) = b.take (m + 1)) := by rw [Hid, HTA.out, HTB.out, HE.out]
     go_wp2
     go_region
     go_wp2
     exact ⟨⟨m + 1, by omega, by go_num, HNX, hbl.drew⟩, by simp [intOf]; omega⟩
    ·obtain ⟨hs1, hs2⟩ := ba_ne hxy
     have HD : Hid (D = false) := by rw [Hid, ← HDE.out, decide_eq_false_iff_not]; exact HNE.out hxy
     clear hxy
     go_wp2
     go_region
     go_wp2
     go_ret
     exact ⟨by rw [HD.out]; rfl, hbl.drew⟩
   ·obtain rfl : m = a.length := by omega
    have hab : a = b := by
     have := HE.out
     rw [List.take_length] at this
     rw [HN.out, List.take_length] at this
     exact this
    have HD : Hid (D = true) := by rw [Hid, ← HDE.out, decide_eq_true_iff]; exact hab
    clear hab
    go_wp2
    go_ret
    exact ⟨by rw [HD.out]; rfl, hbl⟩
 ·have HD : Hid (D = false) := by rw [Hid, ← HDE.out, decide_eq_false_iff_not]; exact fun e => hn (by rw [e])
  have hnb : ((a.length : Int) != (b.length : Int)) = true := by rw [bne_iff_ne]; omega
  clear hn
  go_enter Tryz.func82, Tryz.ntmps82
  go_wp2
  go_ret
  exact ⟨by rw [HD.out]; rfl, Below.refl _ _⟩
def PutPost (R : Option (List ByteArray)) (W : World) (e : Ending) (w' : World) : Prop := (match R with
 | some ps => ∃ v, e = .returned v ∧ w'.ownsRow W.heap.size 9 1 v ps.length (baV ps)
 | none => e = .panicked mustV) ∧ Below W.heap.size W w'
set_option maxRecDepth 100000 in
theorem joined1_in (W : World) (bf bp f : Nat) (caps : Array Value) (hen : Enters f) (R : Option (List ByteArray)) (v0 : Value) (hf : W.heap[bf]? = some (.cells #[fnV f caps] 154 (0, 0))) (hp : W.heap[bp]? = some (.cells #[v0] 32 (0, 0)))
  (hput : Calls Tryz.prog f caps W fun e w' => PutPost R W e w') :
  Calls Tryz.prog 125 #[boxV bf, boxV bp] W fun e w' => WorkPost R bp W e w' := by
 have cf := box_cell hf
 have HP := Hid.mk hput
 have hent := hen
 dsimp only [Enters] at hent
 clear hput
 cases R with
 | none =>
  go_enter Tryz.func125, Tryz.ntmps125
  go_wp2_with fail
  refine HP.out.mono ?_
  rintro e w1 ⟨rfl, hb1⟩
  go_wp2
  exact ⟨rfl, ⟨rfl, hb1.block bp (box_lt hp)⟩, Kept.of_below hb1⟩
 | some ps =>
  go_enter Tryz.func125, Tryz.ntmps125
  go_wp2_with fail
  refine HP.out.mono ?_
  rintro e w1 ⟨⟨v, rfl, hrow⟩, hb1⟩
  obtain ⟨q, c, hv⟩ := row_as hrow
  subst hv
  have hp1 := (hb1.block bp (box_lt hp)).trans hp
  have cp1 := box_cell hp1
  have fp1 := box_frozen hp1
  go_wp2
  refine bodyPost_end (results_none rfl _ _ _) rfl ⟨⟨rfl, _, ?_, box_set hp1 _⟩, (Kept.of_below hb1).trans (Kept.set _ _ _ _)⟩
  exact row_kept' hrow (Kept.set _ _ _ _) (box_lt hp)
set_option maxRecDepth 100000 in
set_option maxHeartbeats 2000000 in
theorem soundJoin_in (W : World) (bf bp f : Nat) (caps : Array Value) (hen : Enters f) (R : Option (List ByteArray)) (v0 : Value) (hf : W.heap[bf]? = some (.cells #[fnV f caps] 154 (0, 0))) (hp : W.heap[bp]? = some (.cells #[v0] 32 (0, 0)))
  (hput : ∀ W', Below W.heap.size W W' → Calls Tryz.prog f caps W' fun e w' => PutPost R W' e w') :
  Calls Tryz.prog 124 #[fnV 125 #[boxV bf, boxV bp]] W fun e w' => SoundPost R bp W e w' := by
 have hmf := mkf
 have hal : ∀ o, Below W.heap.size W (W.alloc o) := fun o => (Below.refl _ _).alloc (Nat.le_refl _) o
 have HW := Hid.mk (fun (o : Obj) => joined1_in (W.alloc o) bf bp f caps hen R v0 (((hal o).block bf (box_lt hf)).trans hf) (((hal o).block bp (box_lt hp)).trans hp) (hput _ (hal o)))
 clear hput
 cases R with
 | none =>
  go_enter_defers Tryz.func124, Tryz.ntmps124
  go_wp2_with fail
  refine (HW.out _).mono ?_
  rintro e w1 ⟨⟨rfl, hb⟩, hkp⟩
  have hbox : w1.heap[W.heap.size]? = some (.cells #[.bool false] 4 (0, 0)) := (hkp.same _ (by simp) (by have := box_lt hp; omega)).trans (heap_new _ _)
  go_wp2
  refine leaves_cons (f := 164) (args := #[boxV W.heap.size]) (by simp) (by simp [go_sem]) ?_
  refine (catch_panic W.heap.size w1 false hbox []).mono ?_
  rintro e u' w2 ⟨rfl, rfl, rfl⟩
  have hbp := box_lt hp
  have hs2 := box_cell (box_set hbox (.bool false))
  simp [Leaves, settle, results, Tryz.results124, go_sem, hs2]
  refine ⟨⟨rfl, ?_⟩, kept_box hkp _⟩
  rw [Below.heap_setCell w1 ⟨W.heap.size, 0, none⟩ _ bp (show bp ≠ W.heap.size by omega), hb, alloc_old W _ bp hbp]
 | some ps =>
  go_enter_defers Tryz.func124, Tryz.ntmps124
  go_wp2_with fail
  refine (HW.out _).mono ?_
  rintro e w1 ⟨⟨rfl, v, hrow, hb⟩, hkp⟩
  have hbox : w1.heap[W.heap.size]? = some (.cells #[.bool false] 4 (0, 0)) := (hkp.same _ (by simp) (by have := box_lt hp; omega)).trans (heap_new _ _)
  have hbc := box_cell hbox
  have hbf := box_frozen hbox
  go_wp2
  refine leaves_cons (f := 164) (args := #[boxV W.heap.size]) (by simp) (by simp [go_sem]) ?_
  refine (catch_idle W.heap.size _).mono ?_
  rintro e u' w2 ⟨rfl, rfl, rfl⟩
  have hbp := box_lt hp
  have hs2 := box_cell (box_set hbox (.bool true))
  simp [Leaves, settle, results, Tryz.results124, go_sem, hs2]
  refine ⟨⟨rfl, v, ?_, ?_⟩, kept_box hkp _⟩
  ·refine row_down (n₁ := (W.alloc (.cells #[.bool false] 4)).heap.size) (row_kept' hrow (Kept.set _ _ _ _) (by simp)) (by simp)
  ·rw [Below.heap_setCell w1 ⟨W.heap.size, 0, none⟩ _ bp (show bp ≠ W.heap.size by omega)]; exact hb
noncomputable def joinR (k : Int) (R : Option (List ByteArray)) : Option ByteArray := match R with
 | none => none
 | some ps => if splitR k (cat ps) = some ps then some (cat ps) else none
def strOf (r : Option ByteArray) : ByteArray := r.getD ⟨#[]⟩
def errOf (r : Option ByteArray) : Int := if r.isSome then 0 else 6
set_option maxRecDepth 100000 in
set_option maxHeartbeats 2000000 in
theorem joined_in (W : World) (k : Int) (f : Nat) (caps : Array Value) (hen : Enters f) (R : Option (List ByteArray)) (hsz : ∀ ps, R = some ps → ps.length ≤ 20 ∧ (cat ps).size ≤ 1000000)
  (hput : ∀ W', Below W.heap.size W W' → Calls Tryz.prog f caps W' fun e w' => PutPost R W' e w') :
  Calls Tryz.prog 84 #[.int .i64 k, fnV f caps] W fun e w' => e = .returned (.tuple #[.string (strOf (joinR k R)), .int .i64 (errOf (joinR k R))]) ∧ Below W.heap.size W w' := by
 have hmf := mkf
 obtain ⟨W2, hW2⟩ : ∃ W2, W2 = (W.alloc (.cells #[fnV f caps] 154)).alloc (.cells #[.slice none 0 0] 32) := ⟨_, rfl⟩
 have hf2 : W2.heap[W.heap.size]? = some (.cells #[fnV f caps] 154 (0, 0)) := by
  rw [hW2, alloc_old _ _ _ (by simp)]; exact heap_new _ _
 have hp2 : W2.heap[W.heap.size + 1]? = some (.cells #[.slice none 0 0] 32 (0, 0)) := by
  rw [hW2]
  have := heap_new (W.alloc (.cells #[fnV f caps] 154)) (.cells #[.slice none 0 0] 32)
  rwa [World.size_alloc] at this
 have hsz2 : W2.heap.size = W.heap.size + 2 := by rw [hW2]; simp
 have hbl2 : Below W.heap.size W W2 := by
  rw [hW2]; exact ((Below.refl _ _).alloc (Nat.le_refl _) _).alloc (by simp) _
 have HS := Hid.mk (soundJoin_in W2 W.heap.size (W.heap.size + 1) f caps hen R _ hf2 hp2 (fun W' hb => hput W' (bth hbl2 hb hbl2.size)))
 have HP2 := Hid.mk hp2
 have HW2 := Hid.mk hW2
 have HSZ := Hid.mk hsz2
 clear hf2 hput hp2 hW2 hsz2
 cases R with
 | none =>
  go_enter Tryz.func84, Tryz.ntmps84
  go_wp2_with fail
  rw [← HW2.out]
  refine HS.out.mono ?_
  rintro e w2 ⟨⟨rfl, hb⟩, hkp⟩
  go_wp2
  go_ret2
  exact ⟨rfl, hbl2.trans (hkp.below (n := W.heap.size) (by omega) (by have := HSZ.out; omega))⟩
 | some ps =>
  obtain ⟨hpl, hcz⟩ := hsz ps rfl
  have HSP := Hid.mk (split_all k (cat ps) (by unfold maxLen; omega))
  have hjl : (Lib.join (ps.map (·.data.toList)) []).length ≤ 1000000 := by
   have h1 := hcz
   rw [← cat_join, ba_size] at h1
   exact h1
  have HJL := Hid.mk hjl
  obtain ⟨J, hJ⟩ : ∃ J, joinR k (some ps) = J := ⟨_, rfl⟩
  rw [hJ]
  have HJ := Hid.mk hJ
  clear hJ hjl hsz
  go_enter Tryz.func84, Tryz.ntmps84
  go_wp2_with fail
  rw [← HW2.out]
  refine HS.out.mono ?_
  rintro e w2 ⟨⟨rfl, v, hrow, hb⟩, hkp⟩
  obtain ⟨q, c, hv⟩ := row_as hrow
  subst hv
  have hc2 := box_cell hb
  have hbl3 : Below W.heap.size W w2 := hbl2.trans (hkp.below (n := W.heap.size) (by omega) (by have := HSZ.out; omega))
  have HJO := Hid.mk (join_row ⟨#[]⟩ hrow (by omega) (by
   show (Lib.join (ps.map (·.data.toList)) []).length ≤ _
   have := HJL.out; omega))
  have hcj : (⟨(Lib.join (ps.map (·.data.toList)) (⟨#[]⟩ : ByteArray).data.toList).toArray⟩ : ByteArray) = cat ps := by rw [← cat_join]
  rw [hcj] at HJO
  clear hcj
  go_wp2_with fail
  refine HJO.out.mono ?_
  rintro e w3 ⟨rfl, hb3⟩
  have hb4 := (hb3.block _ (box_lt hb)).trans hb
  have hc3 := box_cell hb4
  have hrow3 := row_bel hrow hb3
  have hbl4 : Below W.heap.size W w3 := bth hbl3 hb3 hbl3.size
  cases hsp : splitR k (cat ps) with
  | none =>
   rw [hsp] at HSP
   have HJN : Hid (J = none) := by rw [Hid, ← HJ.out, joinR, if_neg (by rw [hsp]; simp)]
   clear hsp
   go_wp2_with fail
   refine (HSP.out _).mono ?_
   rintro e w4 ⟨rfl, hb5⟩
   go_wp2
   go_ret2
   exact ⟨by rw [HJN.out]; rfl, bth hbl4 hb5 hbl4.size⟩
  | some qs =>
   rw [hsp] at HSP
   have hql : qs.length ≤ 20 := by
    have := ((split_iff k _ qs).1 hsp).2.2.2.len
    have := (form_len k).1
    omega
   have HJN : Hid (J = if qs = ps then some (cat ps) else none) := by
    rw [Hid, ← HJ.out, joinR, hsp]
    by_cases e : qs = ps
    ·rw [if_pos e, e, if_pos rfl]
    ·rw [if_neg e, if_neg (fun h => e (Option.some.inj h))]
   clear hsp
   go_wp2_with fail
   refine (HSP.out _).mono ?_
   rintro e w4 ⟨⟨v5, rfl, hrow5⟩, hb5⟩
   have hta := texts_of_row hrow5
   have htb := texts_of_row (row_bel hrow3 hb5)
   have hc5 := box_cell ((hb5.block _ (box_lt hb4)).trans hb4)
   have HEQ := Hid.mk (equal_in w4 _ _ qs ps hta htb (by omega) (by omega))
   obtain ⟨q5, c5, hv5⟩ := row_as hrow5
   subst hv5
   have hbl5 : Below W.heap.size W w4 := bth hbl4 hb5 hbl4.size
   clear hta htb
   by_cases heq : qs = ps
   ·rw [if_pos heq] at HJN
    rw [show decide (qs = ps) = true by simp [heq]] at HEQ
    clear heq
    go_wp2_with fail
    refine HEQ.out.mono ?_
    rintro e w6 ⟨rfl, hb6⟩
    go_wp2
    go_ret2
    exact ⟨by rw [HJN.out]; rfl, bth hbl5 hb6 hbl5.size⟩
   ·rw [if_neg heq] at HJN
    rw [show decide (qs = ps) = false by simp [heq]] at HEQ
    clear heq
    go_wp2_with fail
    refine HEQ.out.mono ?_
    rintro e w6 ⟨rfl, hb6⟩
    go_wp2
    go_ret2
    exact ⟨by rw [HJN.out]; rfl, bth hbl5 hb6 hbl5.size⟩
end Go.Proofs.YtikjepodmdaknaaGreatDoor
/- bytesOf: a number as one, two or four bytes. -/
namespace Go.Proofs.YtikjepodmdaknaaGreatDoor
open Go.RowKit
def bytesB (n w : Nat) : List UInt8 := (List.range w).map fun i => UInt8.ofNat (n / 256 ^ (w - 1 - i))
theorem bytesB_len (n w : Nat) : (bytesB n w).length = w := by simp [bytesB]
theorem byte_back (q : Nat) (b : UInt8) (h : q % 256 = b.toNat) : UInt8.ofNat q = b := by
 apply UInt8.toNat_inj.1
 rw [UInt8.toNat_ofNat']
 exact h
theorem bytesB1 (n : Nat) : bytesB n 1 = [UInt8.ofNat n] := by simp [bytesB, List.range_succ]
theorem bytesB2 (n : Nat) : bytesB n 2 = [UInt8.ofNat (n / 256), UInt8.ofNat n] := by simp [bytesB, List.range_succ]
theorem bytesB4 (n : Nat) : bytesB n 4 = [UInt8.ofNat (n / 16777216), UInt8.ofNat (n / 65536), UInt8.ofNat (n / 256), UInt8.ofNat n] := by simp [bytesB, List.range_succ]
theorem bytesB_num (l : List UInt8) (h : l.length = 1 ∨ l.length = 2 ∨ l.length = 4) : bytesB (numB l) l.length = l := by
 rcases h with h | h | h
 ·match l, h with
  | [a], _ =>
   have ha := a.toNat_lt
   rw [show [a].length = 1 from rfl, bytesB1, byte_back (numB [a]) a (by simp only [numB, List.foldl]; omega)]
 ·match l, h with
  | [a, b], _ =>
   have ha := a.toNat_lt
   have hb := b.toNat_lt
   rw [show [a, b].length = 2 from rfl, bytesB2, byte_back (numB [a, b] / 256) a (by simp only [numB, List.foldl]; omega), byte_back (numB [a, b]) b (by simp only [numB, List.foldl]; omega)]
 ·match l, h with
  | [a, b, c, d], _ =>
   have ha := a.toNat_lt
   have hb := b.toNat_lt
   have hc := c.toNat_lt
   have hd := d.toNat_lt
   rw [show [a, b, c, d].length = 4 from rfl, bytesB4, byte_back (numB [a, b, c, d] / 16777216) a (by simp only [numB, List.foldl]; omega), byte_back (numB [a, b, c, d] / 65536) b (by simp only [numB, List.foldl]; omega), byte_back (numB [a, b, c, d] / 256) c (by simp only [numB, List.foldl]; omega), byte_back (numB [a, b, c, d]) d (by simp only [numB, List.foldl]; omega)]
theorem cells_put {W : World} {b j : Nat} {cs : Array Value} {t : TypeId} (h : W.heap[b]? = some (.cells cs t (0, 0))) (u : Value) : (W.setCell ⟨b, j, none⟩ u).heap[b]? = some (.cells (cs.setIfInBounds j u) t (0, 0)) := by
 simp only [World.setCell, Array.getElem?_modify, h]
 rfl
theorem cells_at {W : World} {b j : Nat} {cs : Array Value} {t : TypeId} {v : Value} (h : W.heap[b]? = some (.cells cs t (0, 0))) (hj : cs[j]? = some v) : W.cell? ⟨b, j, none⟩ = some v ∧ W.frozen? ⟨b, j, none⟩ = false := by
 simp [World.cell?, World.frozen?, h, hj]
theorem wrapu8 (x : Int) (q : Nat) (h : x = (q : Int)) : IntKind.u8.wrap x = (((UInt8.ofNat q).toNat : Nat) : Int) := by
 rw [IntKind.wrap_u8, UInt8.toNat_ofNat', h]
 omega
set_option maxRecDepth 100000 in
set_option maxHeartbeats 2000000 in
theorem bytes1_yes (n : Nat) (hn : n < 256) (w : World) :
  Calls Tryz.prog 86 #[.int .i64 (n : Int), .int .i64 1] w fun e w' => e = .returned (.string ⟨(bytesB n 1).toArray⟩) ∧ Below w.heap.size w w' := by
 obtain ⟨i0, hi, hz0, hz1, hz2⟩ := info_parts info5
 have hsh : (n : Int) / 256 = 0 := by omega
 have HBB : Hid ((⟨(bytesB n 1).toArray⟩ : ByteArray) = ⟨([UInt8.ofNat (n)] : List UInt8).toArray⟩) := by
  rw [Hid]
  simp [bytesB, List.range_succ]
 go_enter Tryz.func86, Tryz.ntmps86
 go_wp2_with fail
 refine (must_yes _).mono ?_
 rintro e w1 ⟨rfl, rfl⟩
 obtain ⟨M, hM⟩ : ∃ M, M = madeCells (Value.int .u8 0).cells (((1 : Nat) : Int).toNat * i0.size) := ⟨_, rfl⟩
 have hMs : M.size = 1 := by rw [hM, size_madeCells, hz1]; simp
 have hmk : ∀ W : World, (Instr.makeSlice 151 (.int .i64 1) (.int .i64 1)).run Tryz.prog W = .ok (.slice (some ⟨W.heap.size, 0, none⟩) 1 1) (W.alloc (.cells M 5)) := fun W => by
  have h := run_make (P := Tryz.prog) W 151 5 i0 (.int .u8 0) Tryz.underlying151 hi hz0 .i64 .i64 ((1 : Nat) : Int) ((1 : Nat) : Int) (by omega) (by omega) (by rw [hz2]; omega) (by omega)
  rw [← hM] at h
  simpa using h
 obtain ⟨v0, hv0⟩ : ∃ v0, M = #[v0] := by
  match M, hMs with
  | ⟨[v0]⟩, _ => exact ⟨v0, rfl⟩
 subst hv0
 clear hM hMs
 go_wp2
 clear hmk
 go_loopw [21] (fun i wr => ∃ (j : Nat) (v0 : Value), j ≤ 1 ∧ i = .int .i64 j ∧ (1 ≤ j → v0 = .int .u8 (((UInt8.ofNat (n)).toNat : Nat) : Int)) ∧ wr.heap[w1.heap.size]? = some (.cells #[v0] 5 (0, 0)) ∧ Below w1.heap.size w1 wr) (fun i _ => 1 - (intOf i).toNat)
 case atStart => exact ⟨0, v0, by omega, rfl, fun h => absurd h (by omega), heap_new _ _, (Below.refl _ _).alloc (Nat.le_refl _) _⟩
 case round =>
  obtain ⟨j, v0, hj, rfl, hv0, hh, hbl⟩ := hrel
  rcases (show j = 0 ∨ j = 1 by omega) with rfl | rfl
  ·obtain ⟨hc, hf⟩ := cells_at (j := 0) hh rfl
   have hbs := Hid.mk (cells_put (j := 0) hh (.int .u8 (((UInt8.ofNat (n)).toNat : Nat) : Int)))
   have hwr := wrapu8 ((n : Int)) (n) (by omega)
   go_wp2
   exact ⟨⟨1, (.int .u8 (((UInt8.ofNat (n)).toNat : Nat) : Int)), by omega, rfl, fun _ => rfl, hbs.out, hbl.setCell (p := ⟨w1.heap.size, 0, none⟩) (Nat.le_refl _) _⟩, by simp [intOf]⟩
  ·obtain rfl := hv0 (by omega)
   have hcv := run_convert_bytes_back (P := Tryz.prog) wr 151 9 5 ⟨w1.heap.size, 0, none⟩ 1 [UInt8.ofNat (n)] Tryz.underlying151 Tryz.underlying5 Tryz.underlying9 (fun j hj => by
    simp only [List.length_cons, List.length_nil] at hj
    rw [add_at]
    rcases (show j = 0 by omega) with rfl
    all_goals exact (cells_at hh rfl).1)
   simp only [List.length_cons, List.length_nil, Nat.zero_add, Nat.reduceAdd] at hcv
   clear hv0
   go_wp2
   go_ret
   exact ⟨by rw [HBB.out]; rfl, hbl⟩
set_option maxRecDepth 100000 in
set_option maxHeartbeats 2000000 in
theorem bytes2_yes (n : Nat) (hn : n < 65536) (w : World) :
  Calls Tryz.prog 86 #[.int .i64 (n : Int), .int .i64 2] w fun e w' => e = .returned (.string ⟨(bytesB n 2).toArray⟩) ∧ Below w.heap.size w w' := by
 obtain ⟨i0, hi, hz0, hz1, hz2⟩ := info_parts info5
 have hsh : (n : Int) / 65536 = 0 := by omega
 have HBB : Hid ((⟨(bytesB n 2).toArray⟩ : ByteArray) = ⟨([UInt8.ofNat (n / 256), UInt8.ofNat (n)] : List UInt8).toArray⟩) := by
  rw [Hid]
  simp [bytesB, List.range_succ]
 go_enter Tryz.func86, Tryz.ntmps86
 go_wp2_with fail
 refine (must_yes _).mono ?_
 rintro e w1 ⟨rfl, rfl⟩
 obtain ⟨M, hM⟩ : ∃ M, M = madeCells (Value.int .u8 0).cells (((2 : Nat) : Int).toNat * i0.size) := ⟨_, rfl⟩
 have hMs : M.size = 2 := by rw [hM, size_madeCells, hz1]; simp
 have hmk : ∀ W : World, (Instr.makeSlice 151 (.int .i64 2) (.int .i64 2)).run Tryz.prog W = .ok (.slice (some ⟨W.heap.size, 0, none⟩) 2 2) (W.alloc (.cells M 5)) := fun W => by
  have h := run_make (P := Tryz.prog) W 151 5 i0 (.int .u8 0) Tryz.underlying151 hi hz0 .i64 .i64 ((2 : Nat) : Int) ((2 : Nat) : Int) (by omega) (by omega) (by rw [hz2]; omega) (by omega)
  rw [← hM] at h
  simpa using h
 obtain ⟨v0, v1, hv0⟩ : ∃ v0 v1, M = #[v0, v1] := by
  match M, hMs with
  | ⟨[v0, v1]⟩, _ => exact ⟨v0, v1, rfl⟩
 subst hv0
 clear hM hMs
 go_wp2
 clear hmk
 go_loopw [21] (fun i wr => ∃ (j : Nat) (v0 v1 : Value), j ≤ 2 ∧ i = .int .i64 j ∧ (1 ≤ j → v0 = .int .u8 (((UInt8.ofNat (n / 256)).toNat : Nat) : Int)) ∧ (2 ≤ j → v1 = .int .u8 (((UInt8.ofNat (n)).toNat : Nat) : Int)) ∧ wr.heap[w1.heap.size]? = some (.cells #[v0, v1] 5 (0, 0)) ∧ Below w1.heap.size w1 wr) (fun i _ => 2 - (intOf i).toNat)
 case atStart => exact ⟨0, v0, v1, by omega, rfl, fun h => absurd h (by omega), fun h => absurd h (by omega), heap_new _ _, (Below.refl _ _).alloc (Nat.le_refl _) _⟩
 case round =>
  obtain ⟨j, v0, v1, hj, rfl, hv0, hv1, hh, hbl⟩ := hrel
  rcases (show j = 0 ∨ j = 1 ∨ j = 2 by omega) with rfl | rfl | rfl
  ·obtain ⟨hc, hf⟩ := cells_at (j := 0) hh rfl
   have hbs := Hid.mk (cells_put (j := 0) hh (.int .u8 (((UInt8.ofNat (n / 256)).toNat : Nat) : Int)))
   have hwr := wrapu8 ((n : Int) / 256) (n / 256) (by omega)
   go_wp2
   exact ⟨⟨1, (.int .u8 (((UInt8.ofNat (n / 256)).toNat : Nat) : Int)), v1, by omega, rfl, fun _ => rfl, fun h => absurd h (by omega), hbs.out, hbl.setCell (p := ⟨w1.heap.size, 0, none⟩) (Nat.le_refl _) _⟩, by simp [intOf]⟩
  ·obtain ⟨hc, hf⟩ := cells_at (j := 1) hh rfl
   have hbs := Hid.mk (cells_put (j := 1) hh (.int .u8 (((UInt8.ofNat (n)).toNat : Nat) : Int)))
   have hwr := wrapu8 ((n : Int)) (n) (by omega)
   go_wp2
   exact ⟨⟨2, v0, (.int .u8 (((UInt8.ofNat (n)).toNat : Nat) : Int)), by omega, rfl, fun _ => hv0 (by omega), fun _ => rfl, hbs.out, hbl.setCell (p := ⟨w1.heap.size, 1, none⟩) (Nat.le_refl _) _⟩, by simp [intOf]⟩
  ·obtain rfl := hv0 (by omega)
   obtain rfl := hv1 (by omega)
   have hcv := run_convert_bytes_back (P := Tryz.prog) wr 151 9 5 ⟨w1.heap.size, 0, none⟩ 2 [UInt8.ofNat (n / 256), UInt8.ofNat (n)] Tryz.underlying151 Tryz.underlying5 Tryz.underlying9 (fun j hj => by
    simp only [List.length_cons, List.length_nil] at hj
    rw [add_at]
    rcases (show j = 0 ∨ j = 1 by omega) with rfl | rfl
    all_goals exact (cells_at hh rfl).1)
   simp only [List.length_cons, List.length_nil, Nat.zero_add, Nat.reduceAdd] at hcv
   clear hv0 hv1
   go_wp2
   go_ret
   exact ⟨by rw [HBB.out]; rfl, hbl⟩
set_option maxRecDepth 100000 in
set_option maxHeartbeats 2000000 in
theorem bytes4_yes (n : Nat) (hn : n < 4294967296) (w : World) :
  Calls Tryz.prog 86 #[.int .i64 (n : Int), .int .i64 4] w fun e w' => e = .returned (.string ⟨(bytesB n 4).toArray⟩) ∧ Below w.heap.size w w' := by
 obtain ⟨i0, hi, hz0, hz1, hz2⟩ := info_parts info5
 have hsh : (n : Int) / 4294967296 = 0 := by omega
 have HBB : Hid ((⟨(bytesB n 4).toArray⟩ : ByteArray) = ⟨([UInt8.ofNat (n / 16777216), UInt8.ofNat (n / 65536), UInt8.ofNat (n / 256), UInt8.ofNat (n)] : List UInt8).toArray⟩) := by
  rw [Hid]
  simp [bytesB, List.range_succ]
 go_enter Tryz.func86, Tryz.ntmps86
 go_wp2_with fail
 refine (must_yes _).mono ?_
 rintro e w1 ⟨rfl, rfl⟩
 obtain ⟨M, hM⟩ : ∃ M, M = madeCells (Value.int .u8 0).cells (((4 : Nat) : Int).toNat * i0.size) := ⟨_, rfl⟩
 have hMs : M.size = 4 := by rw [hM, size_madeCells, hz1]; simp
 have hmk : ∀ W : World, (Instr.makeSlice 151 (.int .i64 4) (.int .i64 4)).run Tryz.prog W = .ok (.slice (some ⟨W.heap.size, 0, none⟩) 4 4) (W.alloc (.cells M 5)) := fun W => by
  have h := run_make (P := Tryz.prog) W 151 5 i0 (.int .u8 0) Tryz.underlying151 hi hz0 .i64 .i64 ((4 : Nat) : Int) ((4 : Nat) : Int) (by omega) (by omega) (by rw [hz2]; omega) (by omega)
  rw [← hM] at h
  simpa using h
 obtain ⟨v0, v1, v2, v3, hv0⟩ : ∃ v0 v1 v2 v3, M = #[v0, v1, v2, v3] := by
  match M, hMs with
  | ⟨[v0, v1, v2, v3]⟩, _ => exact ⟨v0, v1, v2, v3, rfl⟩
 subst hv0
 clear hM hMs
 go_wp2
 clear hmk
 go_loopw [21] (fun i wr => ∃ (j : Nat) (v0 v1 v2 v3 : Value), j ≤ 4 ∧ i = .int .i64 j ∧ (1 ≤ j → v0 = .int .u8 (((UInt8.ofNat (n / 16777216)).toNat : Nat) : Int)) ∧ (2 ≤ j → v1 = .int .u8 (((UInt8.ofNat (n / 65536)).toNat : Nat) : Int)) ∧ (3 ≤ j → v2 = .int .u8 (((UInt8.ofNat (n / 256)).toNat : Nat) : Int)) ∧ (4 ≤ j → v3 = .int .u8 (((UInt8.ofNat (n)).toNat : Nat) : Int)) ∧ wr.heap[w1.heap.size]? = some (.cells #[v0, v1, v2, v3] 5 (0, 0)) ∧ Below w1.heap.size w1 wr) (fun i _ => 4 - (intOf i).toNat)
 case atStart => exact ⟨0, v0, v1, v2, v3, by omega, rfl, fun h => absurd h (by omega), fun h => absurd h (by omega), fun h => absurd h (by omega), fun h => absurd h (by omega), heap_new _ _, (Below.refl _ _).alloc (Nat.le_refl _) _⟩
 case round =>
  obtain ⟨j, v0, v1, v2, v3, hj, rfl, hv0, hv1, hv2, hv3, hh, hbl⟩ := hrel
  rcases (show j = 0 ∨ j = 1 ∨ j = 2 ∨ j = 3 ∨ j = 4 by omega) with rfl | rfl | rfl | rfl | rfl
  ·obtain ⟨hc, hf⟩ := cells_at (j := 0) hh rfl
   have hbs := Hid.mk (cells_put (j := 0) hh (.int .u8 (((UInt8.ofNat (n / 16777216)).toNat : Nat) : Int)))
   have hwr := wrapu8 ((n : Int) / 16777216) (n / 16777216) (by omega)
   go_wp2
   exact ⟨⟨1, (.int .u8 (((UInt8.ofNat (n / 16777216)).toNat : Nat) : Int)), v1, v2, v3, by omega, rfl, fun _ => rfl, fun h => absurd h (by omega), fun h => absurd h (by omega), fun h => absurd h (by omega), hbs.out, hbl.setCell (p := ⟨w1.heap.size, 0, none⟩) (Nat.le_refl _) _⟩, by simp [intOf]⟩
  ·obtain ⟨hc, hf⟩ := cells_at (j := 1) hh rfl
   have hbs := Hid.mk (cells_put (j := 1) hh (.int .u8 (((UInt8.ofNat (n / 65536)).toNat : Nat) : Int)))
   have hwr := wrapu8 ((n : Int) / 65536) (n / 65536) (by omega)
   go_wp2
   exact ⟨⟨2, v0, (.int .u8 (((UInt8.ofNat (n / 65536)).toNat : Nat) : Int)), v2, v3, by omega, rfl, fun _ => hv0 (by omega), fun _ => rfl, fun h => absurd h (by omega), fun h => absurd h (by omega), hbs.out, hbl.setCell (p := ⟨w1.heap.size, 1, none⟩) (Nat.le_refl _) _⟩, by simp [intOf]⟩
  ·obtain ⟨hc, hf⟩ := cells_at (j := 2) hh rfl
   have hbs := Hid.mk (cells_put (j := 2) hh (.int .u8 (((UInt8.ofNat (n / 256)).toNat : Nat) : Int)))
   have hwr := wrapu8 ((n : Int) / 256) (n / 256) (by omega)
   go_wp2
   exact ⟨⟨3, v0, v1, (.int .u8 (((UInt8.ofNat (n / 256)).toNat : Nat) : Int)), v3, by omega, rfl, fun _ => hv0 (by omega), fun _ => hv1 (by omega), fun _ => rfl, fun h => absurd h (by omega), hbs.out, hbl.setCell (p := ⟨w1.heap.size, 2, none⟩) (Nat.le_refl _) _⟩, by simp [intOf]⟩
  ·obtain ⟨hc, hf⟩ := cells_at (j := 3) hh rfl
   have hbs := Hid.mk (cells_put (j := 3) hh (.int .u8 (((UInt8.ofNat (n)).toNat : Nat) : Int)))
   have hwr := wrapu8 ((n : Int)) (n) (by omega)
   go_wp2
   exact ⟨⟨4, v0, v1, v2, (.int .u8 (((UInt8.ofNat (n)).toNat : Nat) : Int)), by omega, rfl, fun _ => hv0 (by omega), fun _ => hv1 (by omega), fun _ => hv2 (by omega), fun _ => rfl, hbs.out, hbl.setCell (p := ⟨w1.heap.size, 3, none⟩) (Nat.le_refl _) _⟩, by simp [intOf]⟩
  ·obtain rfl := hv0 (by omega)
   obtain rfl := hv1 (by omega)
   obtain rfl := hv2 (by omega)
   obtain rfl := hv3 (by omega)
   have hcv := run_convert_bytes_back (P := Tryz.prog) wr 151 9 5 ⟨w1.heap.size, 0, none⟩ 4 [UInt8.ofNat (n / 16777216), UInt8.ofNat (n / 65536), UInt8.ofNat (n / 256), UInt8.ofNat (n)] Tryz.underlying151 Tryz.underlying5 Tryz.underlying9 (fun j hj => by
    simp only [List.length_cons, List.length_nil] at hj
    rw [add_at]
    rcases (show j = 0 ∨ j = 1 ∨ j = 2 ∨ j = 3 by omega) with rfl | rfl | rfl | rfl
    all_goals exact (cells_at hh rfl).1)
   simp only [List.length_cons, List.length_nil, Nat.zero_add, Nat.reduceAdd] at hcv
   clear hv0 hv1 hv2 hv3
   go_wp2
   go_ret
   exact ⟨by rw [HBB.out]; rfl, hbl⟩
end Go.Proofs.YtikjepodmdaknaaGreatDoor
/- DNSKEY: taken apart, and put together. -/
namespace Go.Proofs.YtikjepodmdaknaaGreatDoor
open Go.RowKit
theorem row_lit (W : World) (ps : List ByteArray) (h : ps.length ≤ maxLen) (h0 : 0 < ps.length) : (W.alloc (.cells (baV ps).toArray 9)).ownsRow W.heap.size 9 1 (.slice (some ⟨W.heap.size, 0, none⟩) ps.length ps.length) ps.length (baV ps) := by
 refine ⟨by simp [baV], .inr ⟨W.heap.size, ps.length, (baV ps).toArray, rfl, Nat.le_refl _, heap_new _ _, Nat.le_refl _, h, by simp [baV], ?_⟩⟩
 rw [Nat.mul_one, List.toList_toArray, List.take_of_length_le (by simp [baV])]
end Go.Proofs.YtikjepodmdaknaaGreatDoor
/- RRSIG: taken apart, and put together. -/
namespace Go.Proofs.YtikjepodmdaknaaGreatDoor
open Go.RowKit
theorem heap_drewS (X : World) : X.drew.heap = X.heap := rfl
def TakeSig (d : ByteArray) (v : Value) (er : Int) : Prop := ∃ (n0 n1 n2 n3 n4 n5 n6 : Nat) (s7 s8 : ByteArray), v = .agg #[.int .i64 ((n0 : Nat) : Int), .int .i64 ((n1 : Nat) : Int), .int .i64 ((n2 : Nat) : Int), .int .i64 ((n3 : Nat) : Int), .int .i64 ((n4 : Nat) : Int), .int .i64 ((n5 : Nat) : Int), .int .i64 ((n6 : Nat) : Int), .string s7, .string s8] ∧ (n0 < 65536 ∧ n1 < 256 ∧ n2 < 256 ∧ n3 < 4294967296 ∧ n4 < 4294967296 ∧ n5 < 4294967296 ∧ n6 < 65536 ∧ s7.size ≤ 2000 ∧ s8.size ≤ 2000) ∧ (er = 0 → joinR 46 (some [⟨(bytesB n0 2).toArray⟩, ⟨(bytesB n1 1).toArray⟩, ⟨(bytesB n2 1).toArray⟩, ⟨(bytesB n3 4).toArray⟩, ⟨(bytesB n4 4).toArray⟩, ⟨(bytesB n5 4).toArray⟩, ⟨(bytesB n6 2).toArray⟩, s7, s8]) = some d) ∧ (er = 0 ∨ (er = 6 ∧ splitR 46 d = none ∧ v = .agg #[.int .i64 0, .int .i64 0, .int .i64 0, .int .i64 0, .int .i64 0, .int .i64 0, .int .i64 0, .string ⟨#[]⟩, .string ⟨#[]⟩]))
theorem takeSig_ok (d p0 p1 p2 p3 p4 p5 p6 p7 p8 : ByteArray) (h : splitR 46 d = some [p0, p1, p2, p3, p4, p5, p6, p7, p8]) : TakeSig d (.agg #[.int .i64 ((numB p0.data.toList : Nat) : Int), .int .i64 ((numB p1.data.toList : Nat) : Int), .int .i64 ((numB p2.data.toList : Nat) : Int), .int .i64 ((numB p3.data.toList : Nat) : Int), .int .i64 ((numB p4.data.toList : Nat) : Int), .int .i64 ((numB p5.data.toList : Nat) : Int), .int .i64 ((numB p6.data.toList : Nat) : Int), .string p7, .string p8]) 0 ∧ (p0.size ≤ 7 ∧ p1.size ≤ 7 ∧ p2.size ≤ 7 ∧ p3.size ≤ 7 ∧ p4.size ≤ 7 ∧ p5.size ≤ 7 ∧ p6.size ≤ 7 ∧ p7.size ≤ 2000 ∧ p8.size ≤ 2000) := by
 obtain ⟨hk, hs, hd, hg⟩ := (split_iff 46 d _).1 h
 have hg' : p0.size = 2 ∧ p1.size = 1 ∧ p2.size = 1 ∧ p3.size = 4 ∧ p4.size = 4 ∧ p5.size = 4 ∧ p6.size = 2 ∧ IsName p7 ∧ 0 < p8.size ∧ True := hg
 have hcs : p0.size + p1.size + p2.size + p3.size + p4.size + p5.size + p6.size + p7.size + p8.size ≤ 2000 := by
  rw [hd] at hs
  simp only [cat, app_size] at hs
  have : (⟨#[]⟩ : ByteArray).size = 0 := rfl
  omega
 have e0 : (⟨(bytesB (numB p0.data.toList) 2).toArray⟩ : ByteArray) = p0 := by
  apply ba_ext
  have := bytesB_num p0.data.toList (by rw [size_list]; omega)
  rw [size_list, show p0.size = 2 by omega] at this
  exact this
 have e1 : (⟨(bytesB (numB p1.data.toList) 1).toArray⟩ : ByteArray) = p1 := by
  apply ba_ext
  have := bytesB_num p1.data.toList (by rw [size_list]; omega)
  rw [size_list, show p1.size = 1 by omega] at this
  exact this
 have e2 : (⟨(bytesB (numB p2.data.toList) 1).toArray⟩ : ByteArray) = p2 := by
  apply ba_ext
  have := bytesB_num p2.data.toList (by rw [size_list]; omega)
  rw [size_list, show p2.size = 1 by omega] at this
  exact this
 have e3 : (⟨(bytesB (numB p3.data.toList) 4).toArray⟩ : ByteArray) = p3 := by
  apply ba_ext
  have := bytesB_num p3.data.toList (by rw [size_list]; omega)
  rw [size_list, show p3.size = 4 by omega] at this
  exact this
 have e4 : (⟨(bytesB (numB p4.data.toList) 4).toArray⟩ : ByteArray) = p4 := by
  apply ba_ext
  have := bytesB_num p4.data.toList (by rw [size_list]; omega)
  rw [size_list, show p4.size = 4 by omega] at this
  exact this
 have e5 : (⟨(bytesB (numB p5.data.toList) 4).toArray⟩ : ByteArray) = p5 := by
  apply ba_ext
  have := bytesB_num p5.data.toList (by rw [size_list]; omega)
  rw [size_list, show p5.size = 4 by omega] at this
  exact this
 have e6 : (⟨(bytesB (numB p6.data.toList) 2).toArray⟩ : ByteArray) = p6 := by
  apply ba_ext
  have := bytesB_num p6.data.toList (by rw [size_list]; omega)
  rw [size_list, show p6.size = 2 by omega] at this
  exact this
 have l0 : numB p0.data.toList < 65536 := by
  have := numB_lt p0.data.toList
  rw [size_list, show p0.size = 2 by omega] at this
  simpa using this
 have l1 : numB p1.data.toList < 256 := by
  have := numB_lt p1.data.toList
  rw [size_list, show p1.size = 1 by omega] at this
  simpa using this
 have l2 : numB p2.data.toList < 256 := by
  have := numB_lt p2.data.toList
  rw [size_list, show p2.size = 1 by omega] at this
  simpa using this
 have l3 : numB p3.data.toList < 4294967296 := by
  have := numB_lt p3.data.toList
  rw [size_list, show p3.size = 4 by omega] at this
  simpa using this
 have l4 : numB p4.data.toList < 4294967296 := by
  have := numB_lt p4.data.toList
  rw [size_list, show p4.size = 4 by omega] at this
  simpa using this
 have l5 : numB p5.data.toList < 4294967296 := by
  have := numB_lt p5.data.toList
  rw [size_list, show p5.size = 4 by omega] at this
  simpa using this
 have l6 : numB p6.data.toList < 65536 := by
  have := numB_lt p6.data.toList
  rw [size_list, show p6.size = 2 by omega] at this
  simpa using this
 refine ⟨⟨numB p0.data.toList, numB p1.data.toList, numB p2.data.toList, numB p3.data.toList, numB p4.data.toList, numB p5.data.toList, numB p6.data.toList, p7, p8, rfl, ⟨l0, l1, l2, l3, l4, l5, l6, by omega, by omega⟩, fun _ => ?_, .inl rfl⟩, by omega, by omega, by omega, by omega, by omega, by omega, by omega, by omega, by omega⟩
 rw [e0, e1, e2, e3, e4, e5, e6, joinR, ← hd, h]
 exact if_pos rfl
set_option maxRecDepth 100000 in
set_option maxHeartbeats 4000000 in
theorem takeSig_in (d : ByteArray) (hm : d.size ≤ maxLen) (W : World) :
  Calls Tryz.prog 158 #[.string d] W fun e w' => (∃ v er, e = .returned (.tuple #[v, .int .i64 er]) ∧ TakeSig d v er) ∧ Below W.heap.size W w' := by
 have HS := Hid.mk (split_all 46 d hm)
 have hmo : Tryz.prog.follows Departure.mixedOrders = true := by kernel_rfl
 have HN := Hid.mk number_in
 cases hsp : splitR 46 d with
 | none =>
  rw [hsp] at HS
  have HSP := Hid.mk hsp
  clear hsp
  go_enter Tryz.func158, Tryz.ntmps158
  go_wp2_with fail
  refine (HS.out _).mono ?_
  rintro e w1 ⟨rfl, hb1⟩
  have hbx := (hb1.block _ (by simp)).trans (heap_new W (.cells #[.int .i64 0, .int .i64 0, .int .i64 0, .int .i64 0, .int .i64 0, .int .i64 0, .int .i64 0, .string ⟨#[]⟩, .string ⟨#[]⟩] 175))
  obtain ⟨a0, f0⟩ := cells_at (v := .int .i64 0) (j := 0) hbx rfl
  obtain ⟨a1, f1⟩ := cells_at (v := .int .i64 0) (j := 1) hbx rfl
  obtain ⟨a2, f2⟩ := cells_at (v := .int .i64 0) (j := 2) hbx rfl
  obtain ⟨a3, f3⟩ := cells_at (v := .int .i64 0) (j := 3) hbx rfl
  obtain ⟨a4, f4⟩ := cells_at (v := .int .i64 0) (j := 4) hbx rfl
  obtain ⟨a5, f5⟩ := cells_at (v := .int .i64 0) (j := 5) hbx rfl
  obtain ⟨a6, f6⟩ := cells_at (v := .int .i64 0) (j := 6) hbx rfl
  obtain ⟨a7, f7⟩ := cells_at (v := .string ⟨#[]⟩) (j := 7) hbx rfl
  obtain ⟨a8, f8⟩ := cells_at (v := .string ⟨#[]⟩) (j := 8) hbx rfl
  have HBX := Hid.mk hbx
  clear hbx
  go_wp2
  have st0 : (w1.setCell ⟨W.heap.size, 0, none⟩ (.int .i64 0)).heap[W.heap.size]? = some (.cells #[.int .i64 0, .int .i64 0, .int .i64 0, .int .i64 0, .int .i64 0, .int .i64 0, .int .i64 0, .string ⟨#[]⟩, .string ⟨#[]⟩] 175 (0, 0)) := cells_put (j := 0) HBX.out (.int .i64 0)
  have st1 : ((w1.setCell ⟨W.heap.size, 0, none⟩ (.int .i64 0)).setCell ⟨W.heap.size, 1, none⟩ (.int .i64 0)).heap[W.heap.size]? = some (.cells #[.int .i64 0, .int .i64 0, .int .i64 0, .int .i64 0, .int .i64 0, .int .i64 0, .int .i64 0, .string ⟨#[]⟩, .string ⟨#[]⟩] 175 (0, 0)) := cells_put (j := 1) st0 (.int .i64 0)
  have st2 : (((w1.setCell ⟨W.heap.size, 0, none⟩ (.int .i64 0)).setCell ⟨W.heap.size, 1, none⟩ (.int .i64 0)).setCell ⟨W.heap.size, 2, none⟩ (.int .i64 0)).heap[W.heap.size]? = some (.cells #[.int .i64 0, .int .i64 0, .int .i64 0, .int .i64 0, .int .i64 0, .int .i64 0, .int .i64 0, .string ⟨#[]⟩, .string ⟨#[]⟩] 175 (0, 0)) := cells_put (j := 2) st1 (.int .i64 0)
  have st3 : ((((w1.setCell ⟨W.heap.size, 0, none⟩ (.int .i64 0)).setCell ⟨W.heap.size, 1, none⟩ (.int .i64 0)).setCell ⟨W.heap.size, 2, none⟩ (.int .i64 0)).setCell ⟨W.heap.size, 3, none⟩ (.int .i64 0)).heap[W.heap.size]? = some (.cells #[.int .i64 0, .int .i64 0, .int .i64 0, .int .i64 0, .int .i64 0, .int .i64 0, .int .i64 0, .string ⟨#[]⟩, .string ⟨#[]⟩] 175 (0, 0)) := cells_put (j := 3) st2 (.int .i64 0)
  have st4 : (((((w1.setCell ⟨W.heap.size, 0, none⟩ (.int .i64 0)).setCell ⟨W.heap.size, 1, none⟩ (.int .i64 0)).setCell ⟨W.heap.size, 2, none⟩ (.int .i64 0)).setCell ⟨W.heap.size, 3, none⟩ (.int .i64 0)).setCell ⟨W.heap.size, 4, none⟩ (.int .i64 0)).heap[W.heap.size]? = some (.cells #[.int .i64 0, .int .i64 0, .int .i64 0, .int .i64 0, .int .i64 0, .int .i64 0, .int .i64 0, .string ⟨#[]⟩, .string ⟨#[]⟩] 175 (0, 0)) := cells_put (j := 4) st3 (.int .i64 0)
  have st5 : ((((((w1.setCell ⟨W.heap.size, 0, none⟩ (.int .i64 0)).setCell ⟨W.heap.size, 1, none⟩ (.int .i64 0)).setCell ⟨W.heap.size, 2, none⟩ (.int .i64 0)).setCell ⟨W.heap.size, 3, none⟩ (.int .i64 0)).setCell ⟨W.heap.size, 4, none⟩ (.int .i64 0)).setCell ⟨W.heap.size, 5, none⟩ (.int .i64 0)).heap[W.heap.size]? = some (.cells #[.int .i64 0, .int .i64 0, .int .i64 0, .int .i64 0, .int .i64 0, .int .i64 0, .int .i64 0, .string ⟨#[]⟩, .string ⟨#[]⟩] 175 (0, 0)) := cells_put (j := 5) st4 (.int .i64 0)
  have st6 : (((((((w1.setCell ⟨W.heap.size, 0, none⟩ (.int .i64 0)).setCell ⟨W.heap.size, 1, none⟩ (.int .i64 0)).setCell ⟨W.heap.size, 2, none⟩ (.int .i64 0)).setCell ⟨W.heap.size, 3, none⟩ (.int .i64 0)).setCell ⟨W.heap.size, 4, none⟩ (.int .i64 0)).setCell ⟨W.heap.size, 5, none⟩ (.int .i64 0)).setCell ⟨W.heap.size, 6, none⟩ (.int .i64 0)).heap[W.heap.size]? = some (.cells #[.int .i64 0, .int .i64 0, .int .i64 0, .int .i64 0, .int .i64 0, .int .i64 0, .int .i64 0, .string ⟨#[]⟩, .string ⟨#[]⟩] 175 (0, 0)) := cells_put (j := 6) st5 (.int .i64 0)
  have st7 : ((((((((w1.setCell ⟨W.heap.size, 0, none⟩ (.int .i64 0)).setCell ⟨W.heap.size, 1, none⟩ (.int .i64 0)).setCell ⟨W.heap.size, 2, none⟩ (.int .i64 0)).setCell ⟨W.heap.size, 3, none⟩ (.int .i64 0)).setCell ⟨W.heap.size, 4, none⟩ (.int .i64 0)).setCell ⟨W.heap.size, 5, none⟩ (.int .i64 0)).setCell ⟨W.heap.size, 6, none⟩ (.int .i64 0)).setCell ⟨W.heap.size, 7, none⟩ (.string ⟨#[]⟩)).heap[W.heap.size]? = some (.cells #[.int .i64 0, .int .i64 0, .int .i64 0, .int .i64 0, .int .i64 0, .int .i64 0, .int .i64 0, .string ⟨#[]⟩, .string ⟨#[]⟩] 175 (0, 0)) := cells_put (j := 7) st6 (.string ⟨#[]⟩)
  have st8 : (((((((((w1.setCell ⟨W.heap.size, 0, none⟩ (.int .i64 0)).setCell ⟨W.heap.size, 1, none⟩ (.int .i64 0)).setCell ⟨W.heap.size, 2, none⟩ (.int .i64 0)).setCell ⟨W.heap.size, 3, none⟩ (.int .i64 0)).setCell ⟨W.heap.size, 4, none⟩ (.int .i64 0)).setCell ⟨W.heap.size, 5, none⟩ (.int .i64 0)).setCell ⟨W.heap.size, 6, none⟩ (.int .i64 0)).setCell ⟨W.heap.size, 7, none⟩ (.string ⟨#[]⟩)).setCell ⟨W.heap.size, 8, none⟩ (.string ⟨#[]⟩)).heap[W.heap.size]? = some (.cells #[.int .i64 0, .int .i64 0, .int .i64 0, .int .i64 0, .int .i64 0, .int .i64 0, .int .i64 0, .string ⟨#[]⟩, .string ⟨#[]⟩] 175 (0, 0)) := cells_put (j := 8) st7 (.string ⟨#[]⟩)
  have hfin : ((((((((((w1.setCell ⟨W.heap.size, 0, none⟩ (.int .i64 0)).setCell ⟨W.heap.size, 1, none⟩ (.int .i64 0)).setCell ⟨W.heap.size, 2, none⟩ (.int .i64 0)).setCell ⟨W.heap.size, 3, none⟩ (.int .i64 0)).setCell ⟨W.heap.size, 4, none⟩ (.int .i64 0)).setCell ⟨W.heap.size, 5, none⟩ (.int .i64 0)).setCell ⟨W.heap.size, 6, none⟩ (.int .i64 0)).setCell ⟨W.heap.size, 7, none⟩ (.string ⟨#[]⟩)).setCell ⟨W.heap.size, 8, none⟩ (.string ⟨#[]⟩))).heap[W.heap.size]? = some (.cells #[.int .i64 0, .int .i64 0, .int .i64 0, .int .i64 0, .int .i64 0, .int .i64 0, .int .i64 0, .string ⟨#[]⟩, .string ⟨#[]⟩] 175 (0, 0)) := st8
  refine bodyPost_ret (v := .tuple #[.agg #[.int .i64 0, .int .i64 0, .int .i64 0, .int .i64 0, .int .i64 0, .int .i64 0, .int .i64 0, .string ⟨#[]⟩, .string ⟨#[]⟩], .int .i64 6]) (by simp [results, Tryz.results158, go_sem, (cells_at (v := .int .i64 0) (j := 0) hfin rfl).1, (cells_at (v := .int .i64 0) (j := 1) hfin rfl).1, (cells_at (v := .int .i64 0) (j := 2) hfin rfl).1, (cells_at (v := .int .i64 0) (j := 3) hfin rfl).1, (cells_at (v := .int .i64 0) (j := 4) hfin rfl).1, (cells_at (v := .int .i64 0) (j := 5) hfin rfl).1, (cells_at (v := .int .i64 0) (j := 6) hfin rfl).1, (cells_at (v := .string ⟨#[]⟩) (j := 7) hfin rfl).1, (cells_at (v := .string ⟨#[]⟩) (j := 8) hfin rfl).1]) rfl ⟨⟨_, _, rfl, 0, 0, 0, 0, 0, 0, 0, ⟨#[]⟩, ⟨#[]⟩, rfl, ⟨by decide, by decide, by decide, by decide, by decide, by decide, by decide, by decide, by decide⟩, (fun h => by cases h), .inr ⟨rfl, HSP.out, rfl⟩⟩, ?_⟩
  exact ((((((((((((Below.refl _ _).alloc (Nat.le_refl _) _).trans (hb1.mono (by simp)))).setCell (p := ⟨W.heap.size, 0, none⟩) (Nat.le_refl _) _).setCell (p := ⟨W.heap.size, 1, none⟩) (Nat.le_refl _) _).setCell (p := ⟨W.heap.size, 2, none⟩) (Nat.le_refl _) _).setCell (p := ⟨W.heap.size, 3, none⟩) (Nat.le_refl _) _).setCell (p := ⟨W.heap.size, 4, none⟩) (Nat.le_refl _) _).setCell (p := ⟨W.heap.size, 5, none⟩) (Nat.le_refl _) _).setCell (p := ⟨W.heap.size, 6, none⟩) (Nat.le_refl _) _).setCell (p := ⟨W.heap.size, 7, none⟩) (Nat.le_refl _) _).setCell (p := ⟨W.heap.size, 8, none⟩) (Nat.le_refl _) _
 | some ps =>
  obtain ⟨p0, p1, p2, p3, p4, p5, p6, p7, p8, hps⟩ : ∃ p0 p1 p2 p3 p4 p5 p6 p7 p8, ps = [p0, p1, p2, p3, p4, p5, p6, p7, p8] := by
   have hl := ((split_iff 46 d ps).1 hsp).2.2.2.len
   match ps, hl with
   | [p0, p1, p2, p3, p4, p5, p6, p7, p8], _ => exact ⟨_, _, _, _, _, _, _, _, _, rfl⟩
  subst hps
  obtain ⟨hT, z0, z1, z2, z3, z4, z5, z6, z7, z8⟩ := takeSig_ok d p0 p1 p2 p3 p4 p5 p6 p7 p8 hsp
  rw [hsp] at HS
  clear hsp
  have HN0 := Hid.mk (number_in p0 z0)
  generalize numB p0.data.toList = m0 at HN0 hT
  have HN1 := Hid.mk (number_in p1 z1)
  generalize numB p1.data.toList = m1 at HN1 hT
  have HN2 := Hid.mk (number_in p2 z2)
  generalize numB p2.data.toList = m2 at HN2 hT
  have HN3 := Hid.mk (number_in p3 z3)
  generalize numB p3.data.toList = m3 at HN3 hT
  have HN4 := Hid.mk (number_in p4 z4)
  generalize numB p4.data.toList = m4 at HN4 hT
  have HN5 := Hid.mk (number_in p5 z5)
  generalize numB p5.data.toList = m5 at HN5 hT
  have HN6 := Hid.mk (number_in p6 z6)
  generalize numB p6.data.toList = m6 at HN6 hT
  have HT := Hid.mk hT
  clear hT
  go_enter Tryz.func158, Tryz.ntmps158
  go_wp2_with fail
  refine (HS.out _).mono ?_
  rintro e w1 ⟨⟨v, rfl, hrow⟩, hb1⟩
  obtain ⟨q, c, hv⟩ := row_as hrow
  subst hv
  obtain ⟨g, hq, _, _⟩ := row_cell hrow 0 (by simp)
  subst hq
  obtain ⟨_, _, hgb⟩ := row_frozen (j := 0) hrow (by simp)
  simp only [World.size_alloc] at hgb
  have hgne : g ≠ W.heap.size := by omega
  have hoff : ∀ (X : World) (j i : Nat) (v : Value), (X.setCell ⟨W.heap.size, j, none⟩ v).cell? ⟨g, i, none⟩ = X.cell? ⟨g, i, none⟩ := fun X j i v => by simp only [World.cell?, Below.heap_setCell X ⟨W.heap.size, j, none⟩ v g hgne]
  have hdr : ∀ (X : World) (i : Nat), X.drew.cell? ⟨g, i, none⟩ = X.cell? ⟨g, i, none⟩ := fun _ _ => rfl
  have r0 : w1.cell? ⟨g, 0, none⟩ = some (.string p0) := row_at hrow 0 p0 rfl
  have r1 : w1.cell? ⟨g, 1, none⟩ = some (.string p1) := row_at hrow 1 p1 rfl
  have r2 : w1.cell? ⟨g, 2, none⟩ = some (.string p2) := row_at hrow 2 p2 rfl
  have r3 : w1.cell? ⟨g, 3, none⟩ = some (.string p3) := row_at hrow 3 p3 rfl
  have r4 : w1.cell? ⟨g, 4, none⟩ = some (.string p4) := row_at hrow 4 p4 rfl
  have r5 : w1.cell? ⟨g, 5, none⟩ = some (.string p5) := row_at hrow 5 p5 rfl
  have r6 : w1.cell? ⟨g, 6, none⟩ = some (.string p6) := row_at hrow 6 p6 rfl
  have r7 : w1.cell? ⟨g, 7, none⟩ = some (.string p7) := row_at hrow 7 p7 rfl
  have r8 : w1.cell? ⟨g, 8, none⟩ = some (.string p8) := row_at hrow 8 p8 rfl
  have hbx := (hb1.block _ (by simp)).trans (heap_new W (.cells #[.int .i64 0, .int .i64 0, .int .i64 0, .int .i64 0, .int .i64 0, .int .i64 0, .int .i64 0, .string ⟨#[]⟩, .string ⟨#[]⟩] 175))
  obtain ⟨a0, f0⟩ := cells_at (v := .int .i64 0) (j := 0) hbx rfl
  obtain ⟨a1, f1⟩ := cells_at (v := .int .i64 0) (j := 1) hbx rfl
  obtain ⟨a2, f2⟩ := cells_at (v := .int .i64 0) (j := 2) hbx rfl
  obtain ⟨a3, f3⟩ := cells_at (v := .int .i64 0) (j := 3) hbx rfl
  obtain ⟨a4, f4⟩ := cells_at (v := .int .i64 0) (j := 4) hbx rfl
  obtain ⟨a5, f5⟩ := cells_at (v := .int .i64 0) (j := 5) hbx rfl
  obtain ⟨a6, f6⟩ := cells_at (v := .int .i64 0) (j := 6) hbx rfl
  obtain ⟨a7, f7⟩ := cells_at (v := .string ⟨#[]⟩) (j := 7) hbx rfl
  obtain ⟨a8, f8⟩ := cells_at (v := .string ⟨#[]⟩) (j := 8) hbx rfl
  have HBX := Hid.mk hbx
  have mk0 : True := trivial
  clear hbx hrow
  go_wp2
  go_region_held3 (fun w' => w'.cell? ⟨g, 0, none⟩ = some (.string p0) ∧ w'.cell? ⟨g, 1, none⟩ = some (.string p1) ∧ w'.cell? ⟨g, 2, none⟩ = some (.string p2) ∧ w'.cell? ⟨g, 3, none⟩ = some (.string p3) ∧ w'.cell? ⟨g, 4, none⟩ = some (.string p4) ∧ w'.cell? ⟨g, 5, none⟩ = some (.string p5) ∧ w'.cell? ⟨g, 6, none⟩ = some (.string p6) ∧ w'.cell? ⟨g, 7, none⟩ = some (.string p7) ∧ w'.cell? ⟨g, 8, none⟩ = some (.string p8)) (first | ((repeat' apply And.intro) <;> (first | (simp only [hoff, hdr]; with_reducible assumption) | with_reducible assumption)) | go_keep)
   (first | (have hck := mk6; clear hck; go_at_call 179; refine (HN6.out _).mono ?_; rintro e x7 ⟨rfl, rfl⟩; have mk7 : True := trivial) | (have hck := mk5; clear hck; go_at_call 179; refine (HN5.out _).mono ?_; rintro e x6 ⟨rfl, rfl⟩; have mk6 : True := trivial) | (have hck := mk4; clear hck; go_at_call 179; refine (HN4.out _).mono ?_; rintro e x5 ⟨rfl, rfl⟩; have mk5 : True := trivial) | (have hck := mk3; clear hck; go_at_call 179; refine (HN3.out _).mono ?_; rintro e x4 ⟨rfl, rfl⟩; have mk4 : True := trivial) | (have hck := mk2; clear hck; go_at_call 179; refine (HN2.out _).mono ?_; rintro e x3 ⟨rfl, rfl⟩; have mk3 : True := trivial) | (have hck := mk1; clear hck; go_at_call 179; refine (HN1.out _).mono ?_; rintro e x2 ⟨rfl, rfl⟩; have mk2 : True := trivial) | (have hck := mk0; clear hck; go_at_call 179; refine (HN0.out _).mono ?_; rintro e x1 ⟨rfl, rfl⟩; have mk1 : True := trivial))
  go_wp2
  have st0 : (w1.setCell ⟨W.heap.size, 0, none⟩ (.int .i64 ((m0 : Nat) : Int))).heap[W.heap.size]? = some (.cells #[.int .i64 ((m0 : Nat) : Int), .int .i64 0, .int .i64 0, .int .i64 0, .int .i64 0, .int .i64 0, .int .i64 0, .string ⟨#[]⟩, .string ⟨#[]⟩] 175 (0, 0)) := cells_put (j := 0) HBX.out (.int .i64 ((m0 : Nat) : Int))
  have st1 : ((w1.setCell ⟨W.heap.size, 0, none⟩ (.int .i64 ((m0 : Nat) : Int))).setCell ⟨W.heap.size, 1, none⟩ (.int .i64 ((m1 : Nat) : Int))).heap[W.heap.size]? = some (.cells #[.int .i64 ((m0 : Nat) : Int), .int .i64 ((m1 : Nat) : Int), .int .i64 0, .int .i64 0, .int .i64 0, .int .i64 0, .int .i64 0, .string ⟨#[]⟩, .string ⟨#[]⟩] 175 (0, 0)) := cells_put (j := 1) st0 (.int .i64 ((m1 : Nat) : Int))
  have st2 : (((w1.setCell ⟨W.heap.size, 0, none⟩ (.int .i64 ((m0 : Nat) : Int))).setCell ⟨W.heap.size, 1, none⟩ (.int .i64 ((m1 : Nat) : Int))).setCell ⟨W.heap.size, 2, none⟩ (.int .i64 ((m2 : Nat) : Int))).heap[W.heap.size]? = some (.cells #[.int .i64 ((m0 : Nat) : Int), .int .i64 ((m1 : Nat) : Int), .int .i64 ((m2 : Nat) : Int), .int .i64 0, .int .i64 0, .int .i64 0, .int .i64 0, .string ⟨#[]⟩, .string ⟨#[]⟩] 175 (0, 0)) := cells_put (j := 2) st1 (.int .i64 ((m2 : Nat) : Int))
  have st3 : ((((w1.setCell ⟨W.heap.size, 0, none⟩ (.int .i64 ((m0 : Nat) : Int))).setCell ⟨W.heap.size, 1, none⟩ (.int .i64 ((m1 : Nat) : Int))).setCell ⟨W.heap.size, 2, none⟩ (.int .i64 ((m2 : Nat) : Int))).setCell ⟨W.heap.size, 3, none⟩ (.int .i64 ((m3 : Nat) : Int))).heap[W.heap.size]? = some (.cells #[.int .i64 ((m0 : Nat) : Int), .int .i64 ((m1 : Nat) : Int), .int .i64 ((m2 : Nat) : Int), .int .i64 ((m3 : Nat) : Int), .int .i64 0, .int .i64 0, .int .i64 0, .string ⟨#[]⟩, .string ⟨#[]⟩] 175 (0, 0)) := cells_put (j := 3) st2 (.int .i64 ((m3 : Nat) : Int))
  have st4 : (((((w1.setCell ⟨W.heap.size, 0, none⟩ (.int .i64 ((m0 : Nat) : Int))).setCell ⟨W.heap.size, 1, none⟩ (.int .i64 ((m1 : Nat) : Int))).setCell ⟨W.heap.size, 2, none⟩ (.int .i64 ((m2 : Nat) : Int))).setCell ⟨W.heap.size, 3, none⟩ (.int .i64 ((m3 : Nat) : Int))).setCell ⟨W.heap.size, 4, none⟩ (.int .i64 ((m4 : Nat) : Int))).heap[W.heap.size]? = some (.cells #[.int .i64 ((m0 : Nat) : Int), .int .i64 ((m1 : Nat) : Int), .int .i64 ((m2 : Nat) : Int), .int .i64 ((m3 : Nat) : Int), .int .i64 ((m4 : Nat) : Int), .int .i64 0, .int .i64 0, .string ⟨#[]⟩, .string ⟨#[]⟩] 175 (0, 0)) := cells_put (j := 4) st3 (.int .i64 ((m4 : Nat) : Int))
  have st5 : ((((((w1.setCell ⟨W.heap.size, 0, none⟩ (.int .i64 ((m0 : Nat) : Int))).setCell ⟨W.heap.size, 1, none⟩ (.int .i64 ((m1 : Nat) : Int))).setCell ⟨W.heap.size, 2, none⟩ (.int .i64 ((m2 : Nat) : Int))).setCell ⟨W.heap.size, 3, none⟩ (.int .i64 ((m3 : Nat) : Int))).setCell ⟨W.heap.size, 4, none⟩ (.int .i64 ((m4 : Nat) : Int))).setCell ⟨W.heap.size, 5, none⟩ (.int .i64 ((m5 : Nat) : Int))).heap[W.heap.size]? = some (.cells #[.int .i64 ((m0 : Nat) : Int), .int .i64 ((m1 : Nat) : Int), .int .i64 ((m2 : Nat) : Int), .int .i64 ((m3 : Nat) : Int), .int .i64 ((m4 : Nat) : Int), .int .i64 ((m5 : Nat) : Int), .int .i64 0, .string ⟨#[]⟩, .string ⟨#[]⟩] 175 (0, 0)) := cells_put (j := 5) st4 (.int .i64 ((m5 : Nat) : Int))
  have st6 : (((((((w1.setCell ⟨W.heap.size, 0, none⟩ (.int .i64 ((m0 : Nat) : Int))).setCell ⟨W.heap.size, 1, none⟩ (.int .i64 ((m1 : Nat) : Int))).setCell ⟨W.heap.size, 2, none⟩ (.int .i64 ((m2 : Nat) : Int))).setCell ⟨W.heap.size, 3, none⟩ (.int .i64 ((m3 : Nat) : Int))).setCell ⟨W.heap.size, 4, none⟩ (.int .i64 ((m4 : Nat) : Int))).setCell ⟨W.heap.size, 5, none⟩ (.int .i64 ((m5 : Nat) : Int))).setCell ⟨W.heap.size, 6, none⟩ (.int .i64 ((m6 : Nat) : Int))).heap[W.heap.size]? = some (.cells #[.int .i64 ((m0 : Nat) : Int), .int .i64 ((m1 : Nat) : Int), .int .i64 ((m2 : Nat) : Int), .int .i64 ((m3 : Nat) : Int), .int .i64 ((m4 : Nat) : Int), .int .i64 ((m5 : Nat) : Int), .int .i64 ((m6 : Nat) : Int), .string ⟨#[]⟩, .string ⟨#[]⟩] 175 (0, 0)) := cells_put (j := 6) st5 (.int .i64 ((m6 : Nat) : Int))
  have st7 : ((((((((w1.setCell ⟨W.heap.size, 0, none⟩ (.int .i64 ((m0 : Nat) : Int))).setCell ⟨W.heap.size, 1, none⟩ (.int .i64 ((m1 : Nat) : Int))).setCell ⟨W.heap.size, 2, none⟩ (.int .i64 ((m2 : Nat) : Int))).setCell ⟨W.heap.size, 3, none⟩ (.int .i64 ((m3 : Nat) : Int))).setCell ⟨W.heap.size, 4, none⟩ (.int .i64 ((m4 : Nat) : Int))).setCell ⟨W.heap.size, 5, none⟩ (.int .i64 ((m5 : Nat) : Int))).setCell ⟨W.heap.size, 6, none⟩ (.int .i64 ((m6 : Nat) : Int))).setCell ⟨W.heap.size, 7, none⟩ (.string p7)).heap[W.heap.size]? = some (.cells #[.int .i64 ((m0 : Nat) : Int), .int .i64 ((m1 : Nat) : Int), .int .i64 ((m2 : Nat) : Int), .int .i64 ((m3 : Nat) : Int), .int .i64 ((m4 : Nat) : Int), .int .i64 ((m5 : Nat) : Int), .int .i64 ((m6 : Nat) : Int), .string p7, .string ⟨#[]⟩] 175 (0, 0)) := cells_put (j := 7) st6 (.string p7)
  have st8 : (((((((((w1.setCell ⟨W.heap.size, 0, none⟩ (.int .i64 ((m0 : Nat) : Int))).setCell ⟨W.heap.size, 1, none⟩ (.int .i64 ((m1 : Nat) : Int))).setCell ⟨W.heap.size, 2, none⟩ (.int .i64 ((m2 : Nat) : Int))).setCell ⟨W.heap.size, 3, none⟩ (.int .i64 ((m3 : Nat) : Int))).setCell ⟨W.heap.size, 4, none⟩ (.int .i64 ((m4 : Nat) : Int))).setCell ⟨W.heap.size, 5, none⟩ (.int .i64 ((m5 : Nat) : Int))).setCell ⟨W.heap.size, 6, none⟩ (.int .i64 ((m6 : Nat) : Int))).setCell ⟨W.heap.size, 7, none⟩ (.string p7)).setCell ⟨W.heap.size, 8, none⟩ (.string p8)).heap[W.heap.size]? = some (.cells #[.int .i64 ((m0 : Nat) : Int), .int .i64 ((m1 : Nat) : Int), .int .i64 ((m2 : Nat) : Int), .int .i64 ((m3 : Nat) : Int), .int .i64 ((m4 : Nat) : Int), .int .i64 ((m5 : Nat) : Int), .int .i64 ((m6 : Nat) : Int), .string p7, .string p8] 175 (0, 0)) := cells_put (j := 8) st7 (.string p8)
  have hfin : ((((((((((w1.setCell ⟨W.heap.size, 0, none⟩ (.int .i64 ((m0 : Nat) : Int))).setCell ⟨W.heap.size, 1, none⟩ (.int .i64 ((m1 : Nat) : Int))).setCell ⟨W.heap.size, 2, none⟩ (.int .i64 ((m2 : Nat) : Int))).setCell ⟨W.heap.size, 3, none⟩ (.int .i64 ((m3 : Nat) : Int))).setCell ⟨W.heap.size, 4, none⟩ (.int .i64 ((m4 : Nat) : Int))).setCell ⟨W.heap.size, 5, none⟩ (.int .i64 ((m5 : Nat) : Int))).setCell ⟨W.heap.size, 6, none⟩ (.int .i64 ((m6 : Nat) : Int))).setCell ⟨W.heap.size, 7, none⟩ (.string p7)).setCell ⟨W.heap.size, 8, none⟩ (.string p8))).drew.heap[W.heap.size]? = some (.cells #[.int .i64 ((m0 : Nat) : Int), .int .i64 ((m1 : Nat) : Int), .int .i64 ((m2 : Nat) : Int), .int .i64 ((m3 : Nat) : Int), .int .i64 ((m4 : Nat) : Int), .int .i64 ((m5 : Nat) : Int), .int .i64 ((m6 : Nat) : Int), .string p7, .string p8] 175 (0, 0)) := by rw [heap_drewS]; exact st8
  refine bodyPost_ret (v := .tuple #[.agg #[.int .i64 ((m0 : Nat) : Int), .int .i64 ((m1 : Nat) : Int), .int .i64 ((m2 : Nat) : Int), .int .i64 ((m3 : Nat) : Int), .int .i64 ((m4 : Nat) : Int), .int .i64 ((m5 : Nat) : Int), .int .i64 ((m6 : Nat) : Int), .string p7, .string p8], .int .i64 0]) (by simp [results, Tryz.results158, go_sem, (cells_at (v := .int .i64 ((m0 : Nat) : Int)) (j := 0) hfin rfl).1, (cells_at (v := .int .i64 ((m1 : Nat) : Int)) (j := 1) hfin rfl).1, (cells_at (v := .int .i64 ((m2 : Nat) : Int)) (j := 2) hfin rfl).1, (cells_at (v := .int .i64 ((m3 : Nat) : Int)) (j := 3) hfin rfl).1, (cells_at (v := .int .i64 ((m4 : Nat) : Int)) (j := 4) hfin rfl).1, (cells_at (v := .int .i64 ((m5 : Nat) : Int)) (j := 5) hfin rfl).1, (cells_at (v := .int .i64 ((m6 : Nat) : Int)) (j := 6) hfin rfl).1, (cells_at (v := .string p7) (j := 7) hfin rfl).1, (cells_at (v := .string p8) (j := 8) hfin rfl).1]) rfl ⟨⟨_, _, rfl, HT.out⟩, ?_⟩
  exact (((((((((((((Below.refl _ _).alloc (Nat.le_refl _) _).trans (hb1.mono (by simp)))).setCell (p := ⟨W.heap.size, 0, none⟩) (Nat.le_refl _) _).setCell (p := ⟨W.heap.size, 1, none⟩) (Nat.le_refl _) _).setCell (p := ⟨W.heap.size, 2, none⟩) (Nat.le_refl _) _).setCell (p := ⟨W.heap.size, 3, none⟩) (Nat.le_refl _) _).setCell (p := ⟨W.heap.size, 4, none⟩) (Nat.le_refl _) _).setCell (p := ⟨W.heap.size, 5, none⟩) (Nat.le_refl _) _).setCell (p := ⟨W.heap.size, 6, none⟩) (Nat.le_refl _) _).setCell (p := ⟨W.heap.size, 7, none⟩) (Nat.le_refl _) _).setCell (p := ⟨W.heap.size, 8, none⟩) (Nat.le_refl _) _).drew
end Go.Proofs.YtikjepodmdaknaaGreatDoor
