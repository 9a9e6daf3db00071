/- Texts of this proof, joined: DJoin, DSmallF, DLower, DLower2. -/
import Derived.BigRegion
import Derived.Test.YtkohkkakbcjgcabGreatDoorJ8
import Derived.Test.YtkohkkakbcjgcabGreatDoorJ2
import Derived.Test.YtkohkkakbcjgcabGreatDoorJ9
/- joined: data of pieces that are put down; slices.Equal. -/
namespace Go.Proofs.YtkohkkakbcjgcabGreatDoor
set_option linter.unusedVariables false
open Go.RowKit

/-- texts that lie in a row. -/
def TextsAt (W : World) (v : Value) (l : List ByteArray) : Prop := ∃ q c, v = .slice q l.length c ∧ ∀ j (h : j < l.length), ∃ g, q = some ⟨g, 0, none⟩ ∧ g < W.heap.size ∧ W.cell? ⟨g, j, none⟩ = some (.string l[j])
theorem texts_of_row {W : World} {n₀ : Nat} {e : TypeId} {v : Value} {l : List ByteArray} (h : W.ownsRow n₀ e 1 v l.length (baV l)) : TextsAt W v l := by
  obtain ⟨q, c, rfl⟩ := row_as h
  exact ⟨q, c, rfl, fun j hj => row_cell h j hj⟩
theorem ba_ne {x y : ByteArray} (h : x ≠ y) : (x.toList == y.toList) = false ∧ (x.toList != y.toList) = true := by
  have hn : ¬ x.toList = y.toList := fun e => h (ba_ext (by rw [← ByteArray.toList_eq, ← ByteArray.toList_eq]; exact e))
  exact ⟨by simpa using hn, by simpa using hn⟩

set_option maxRecDepth 100000 in
set_option maxHeartbeats 2000000 in
theorem equal_in (W : World) (va vb : Value) (a b : List ByteArray) (ha : TextsAt W va a) (hb : TextsAt W vb b) (hla : a.length ≤ 1000) (hlb : b.length ≤ 1000) :
    Calls Tryz.prog 60 #[va, vb] W fun e w' => e = .returned (.bool (decide (a = b))) ∧ Below W.heap.size W w' := by
  obtain ⟨qa, ca, rfl, hca⟩ := ha
  obtain ⟨qb, cb, rfl, hcb⟩ := hb
  have hmo : Tryz.prog.follows Departure.mixedOrders = true := by kernel_rfl
  obtain ⟨D, hDe⟩ : ∃ D, decide (a = b) = D := ⟨_, rfl⟩
  rw [hDe]
  have HDE := Hid.mk hDe
  clear hDe
  by_cases hn : a.length = b.length
  · have HCA := Hid.mk hca
    have HCB := Hid.mk hcb
    have HN := Hid.mk hn
    have hnb : ((a.length : Int) != (b.length : Int)) = false := by rw [hn]; simp
    clear hca hcb hn
    go_enter Tryz.func60, Tryz.ntmps60
    go_wp2
    go_loopw [13] (fun iv wr => ∃ m : Nat, m ≤ a.length ∧ iv = .int .i64 m ∧ Hid (a.take m = b.take m) ∧ Below W.heap.size W wr) (fun iv _ => a.length - (intOf iv).toNat)
    case atStart => exact ⟨0, Nat.zero_le _, rfl, rfl, Below.refl _ _⟩
    case round =>
      obtain ⟨m, hm, rfl, HE, hbl⟩ := hrel
      by_cases hlt : m < a.length
      · have hltb : m < b.length := by have := HN.out; omega
        obtain ⟨ga, hqa, hga, hxa⟩ := HCA.out m hlt
        obtain ⟨gb, hqb, hgb, hxb⟩ := HCB.out m hltb
        subst hqa hqb
        have cA := (hbl.cell (p := ⟨ga, m, none⟩) hga).trans hxa
        have cB := (hbl.cell (p := ⟨gb, m, none⟩) hgb).trans hxb
        have hi0 : (0 : Int) ≤ (m : Int) := by omega
        have hi1 : (m : Int) < (a.length : Int) := by omega
        have hi2 : (m : Int) < (b.length : Int) := by omega
        have HTA : Hid (a.take (m + 1) = a.take m ++ [a[m]]) := List.take_succ_eq_append_getElem hlt
        have HTB : Hid (b.take (m + 1) = b.take m ++ [b[m]]) := List.take_succ_eq_append_getElem hltb
        have HNE : Hid (a[m] ≠ b[m] → a ≠ b) := by
          intro h e
          subst e
          exact h rfl
        clear hxa hxb
        generalize a[m] = x at cA HTA HNE
        generalize b[m] = y at cB HTB HNE
        by_cases hxy : x = y
        · subst hxy
          have hs1 : (x.toList == x.toList) = true := by simp
          have hs2 : (x.toList != x.toList) = false := by simp
          have HNX : Hid (a.take (m + 1) = b.take (m + 1)) := by rw [Hid, HTA.out, HTB.out, HE.out]
          go_wp2
          go_region
          go_wp2
          exact ⟨⟨m + 1, by omega, by go_num, HNX, hbl.drew⟩, by simp [intOf]; omega⟩
        · obtain ⟨hs1, hs2⟩ := ba_ne hxy
          have HD : Hid (D = false) := by rw [Hid, ← HDE.out, decide_eq_false_iff_not]; exact HNE.out hxy
          clear hxy
          go_wp2
          go_region
          go_wp2
          go_ret
          exact ⟨by rw [HD.out]; rfl, hbl.drew⟩
      · obtain rfl : m = a.length := by omega
        have hab : a = b := by
          have := HE.out
          rw [List.take_length] at this
          rw [HN.out, List.take_length] at this
          exact this
        have HD : Hid (D = true) := by rw [Hid, ← HDE.out, decide_eq_true_iff]; exact hab
        clear hab
        go_wp2
        go_ret
        exact ⟨by rw [HD.out]; rfl, hbl⟩
  · have HD : Hid (D = false) := by rw [Hid, ← HDE.out, decide_eq_false_iff_not]; exact fun e => hn (by rw [e])
    have hnb : ((a.length : Int) != (b.length : Int)) = true := by rw [bne_iff_ne]; omega
    clear hn
    go_enter Tryz.func60, Tryz.ntmps60
    go_wp2
    go_ret
    exact ⟨by rw [HD.out]; rfl, Below.refl _ _⟩

/-- what a function that puts pieces down hands back. -/
def PutPost (R : Option (List ByteArray)) (W : World) (e : Ending) (w' : World) : Prop := (match R with
  | some ps => ∃ v, e = .returned v ∧ w'.ownsRow W.heap.size 9 1 v ps.length (baV ps)
  | none => e = .panicked mustV) ∧ Below W.heap.size W w'

set_option maxRecDepth 100000 in
theorem joined1_in (W : World) (bf bp f : Nat) (caps : Array Value) (hen : Enters f) (R : Option (List ByteArray)) (v0 : Value) (hf : W.heap[bf]? = some (.cells #[fnV f caps] 78 (0, 0))) (hp : W.heap[bp]? = some (.cells #[v0] 61 (0, 0)))
    (hput : Calls Tryz.prog f caps W fun e w' => PutPost R W e w') :
    Calls Tryz.prog 59 #[boxV bf, boxV bp] W fun e w' => WorkPost R bp W e w' := by
  have cf := box_cell hf
  have HP := Hid.mk hput
  have hent := hen
  dsimp only [Enters] at hent
  clear hput
  cases R with
  | none =>
    go_enter Tryz.func59, Tryz.ntmps59
    go_wp2_with fail
    refine HP.out.mono ?_
    rintro e w1 ⟨rfl, hb1⟩
    go_wp2
    exact ⟨rfl, ⟨rfl, hb1.block bp (box_lt hp)⟩, Kept.of_below hb1⟩
  | some ps =>
    go_enter Tryz.func59, Tryz.ntmps59
    go_wp2_with fail
    refine HP.out.mono ?_
    rintro e w1 ⟨⟨v, rfl, hrow⟩, hb1⟩
    obtain ⟨q, c, hv⟩ := row_as hrow
    subst hv
    have hp1 := (hb1.block bp (box_lt hp)).trans hp
    have cp1 := box_cell hp1
    have fp1 := box_frozen hp1
    go_wp2
    refine bodyPost_end (results_none rfl _ _ _) rfl ⟨⟨rfl, _, ?_, box_set hp1 _⟩, (Kept.of_below hb1).trans (Kept.set _ _ _ _)⟩
    exact row_kept' hrow (Kept.set _ _ _ _) (box_lt hp)

set_option maxRecDepth 100000 in
set_option maxHeartbeats 2000000 in
theorem soundJoin_in (W : World) (bf bp f : Nat) (caps : Array Value) (hen : Enters f) (R : Option (List ByteArray)) (v0 : Value) (hf : W.heap[bf]? = some (.cells #[fnV f caps] 78 (0, 0))) (hp : W.heap[bp]? = some (.cells #[v0] 61 (0, 0)))
    (hput : ∀ W', Below W.heap.size W W' → Calls Tryz.prog f caps W' fun e w' => PutPost R W' e w') :
    Calls Tryz.prog 52 #[fnV 59 #[boxV bf, boxV bp]] W fun e w' => SoundPost R bp W e w' := by
  have hmf := mkf
  have hal : ∀ o, Below W.heap.size W (W.alloc o) := fun o => (Below.refl _ _).alloc (Nat.le_refl _) o
  have HW := Hid.mk (fun (o : Obj) => joined1_in (W.alloc o) bf bp f caps hen R v0 (((hal o).block bf (box_lt hf)).trans hf) (((hal o).block bp (box_lt hp)).trans hp) (hput _ (hal o)))
  clear hput
  cases R with
  | none =>
    go_enter_defers Tryz.func52, Tryz.ntmps52
    go_wp2_with fail
    refine (HW.out _).mono ?_
    rintro e w1 ⟨⟨rfl, hb⟩, hkp⟩
    have hbox : w1.heap[W.heap.size]? = some (.cells #[.bool false] 4 (0, 0)) := (hkp.same _ (by simp) (by have := box_lt hp; omega)).trans (heap_new _ _)
    go_wp2
    refine leaves_cons (f := 81) (args := #[boxV W.heap.size]) (by simp) (by simp [go_sem]) ?_
    refine (catch_panic W.heap.size w1 false hbox []).mono ?_
    rintro e u' w2 ⟨rfl, rfl, rfl⟩
    have hbp := box_lt hp
    have hs2 := box_cell (box_set hbox (.bool false))
    simp [Leaves, settle, results, Tryz.results52, go_sem, hs2]
    refine ⟨⟨rfl, ?_⟩, kept_box hkp _⟩
    rw [Below.heap_setCell w1 ⟨W.heap.size, 0, none⟩ _ bp (show bp ≠ W.heap.size by omega), hb, alloc_old W _ bp hbp]
  | some ps =>
    go_enter_defers Tryz.func52, Tryz.ntmps52
    go_wp2_with fail
    refine (HW.out _).mono ?_
    rintro e w1 ⟨⟨rfl, v, hrow, hb⟩, hkp⟩
    have hbox : w1.heap[W.heap.size]? = some (.cells #[.bool false] 4 (0, 0)) := (hkp.same _ (by simp) (by have := box_lt hp; omega)).trans (heap_new _ _)
    have hbc := box_cell hbox
    have hbf := box_frozen hbox
    go_wp2
    refine leaves_cons (f := 81) (args := #[boxV W.heap.size]) (by simp) (by simp [go_sem]) ?_
    refine (catch_idle W.heap.size _).mono ?_
    rintro e u' w2 ⟨rfl, rfl, rfl⟩
    have hbp := box_lt hp
    have hs2 := box_cell (box_set hbox (.bool true))
    simp [Leaves, settle, results, Tryz.results52, go_sem, hs2]
    refine ⟨⟨rfl, v, ?_, ?_⟩, kept_box hkp _⟩
    · refine row_down (n₁ := (W.alloc (.cells #[.bool false] 4)).heap.size) (row_kept' hrow (Kept.set _ _ _ _) (by simp)) (by simp)
    · rw [Below.heap_setCell w1 ⟨W.heap.size, 0, none⟩ _ bp (show bp ≠ W.heap.size by omega)]; exact hb

/-- what joined makes of pieces: data, or an error's number. -/
noncomputable def joinR (k : Int) (R : Option (List ByteArray)) : Option ByteArray := match R with
  | none => none
  | some ps => if splitR k (cat ps) = some ps then some (cat ps) else none
def strOf (r : Option ByteArray) : ByteArray := r.getD ⟨#[]⟩
def errOf (r : Option ByteArray) : Int := if r.isSome then 0 else 6

set_option maxRecDepth 100000 in
set_option maxHeartbeats 2000000 in
theorem joined_in (W : World) (k : Int) (f : Nat) (caps : Array Value) (hen : Enters f) (R : Option (List ByteArray)) (hsz : ∀ ps, R = some ps → ps.length ≤ 20 ∧ (cat ps).size ≤ 1000000)
    (hput : ∀ W', Below W.heap.size W W' → Calls Tryz.prog f caps W' fun e w' => PutPost R W' e w') :
    Calls Tryz.prog 36 #[.int .i64 k, fnV f caps] W fun e w' => e = .returned (.tuple #[.string (strOf (joinR k R)), .int .i64 (errOf (joinR k R))]) ∧ Below W.heap.size W w' := by
  have hmf := mkf
  obtain ⟨W2, hW2⟩ : ∃ W2, W2 = (W.alloc (.cells #[fnV f caps] 78)).alloc (.cells #[.slice none 0 0] 61) := ⟨_, rfl⟩
  have hf2 : W2.heap[W.heap.size]? = some (.cells #[fnV f caps] 78 (0, 0)) := by
    rw [hW2, alloc_old _ _ _ (by simp)]; exact heap_new _ _
  have hp2 : W2.heap[W.heap.size + 1]? = some (.cells #[.slice none 0 0] 61 (0, 0)) := by
    rw [hW2]
    have := heap_new (W.alloc (.cells #[fnV f caps] 78)) (.cells #[.slice none 0 0] 61)
    rwa [World.size_alloc] at this
  have hsz2 : W2.heap.size = W.heap.size + 2 := by rw [hW2]; simp
  have hbl2 : Below W.heap.size W W2 := by
    rw [hW2]; exact ((Below.refl _ _).alloc (Nat.le_refl _) _).alloc (by simp) _
  have HS := Hid.mk (soundJoin_in W2 W.heap.size (W.heap.size + 1) f caps hen R _ hf2 hp2 (fun W' hb => hput W' (bth hbl2 hb hbl2.size)))
  have HP2 := Hid.mk hp2
  have HW2 := Hid.mk hW2
  have HSZ := Hid.mk hsz2
  clear hf2 hput hp2 hW2 hsz2
  cases R with
  | none =>
    go_enter Tryz.func36, Tryz.ntmps36
    go_wp2_with fail
    rw [← HW2.out]
    refine HS.out.mono ?_
    rintro e w2 ⟨⟨rfl, hb⟩, hkp⟩
    go_wp2
    go_ret2
    exact ⟨rfl, hbl2.trans (hkp.below (n := W.heap.size) (by omega) (by have := HSZ.out; omega))⟩
  | some ps =>
    obtain ⟨hpl, hcz⟩ := hsz ps rfl
    have HSP := Hid.mk (split_all k (cat ps) (by unfold maxLen; omega))
    have hjl : (Lib.join (ps.map (·.data.toList)) []).length ≤ 1000000 := by
      have h1 := hcz
      rw [← cat_join, ba_size] at h1
      exact h1
    have HJL := Hid.mk hjl
    obtain ⟨J, hJ⟩ : ∃ J, joinR k (some ps) = J := ⟨_, rfl⟩
    rw [hJ]
    have HJ := Hid.mk hJ
    clear hJ hjl hsz
    go_enter Tryz.func36, Tryz.ntmps36
    go_wp2_with fail
    rw [← HW2.out]
    refine HS.out.mono ?_
    rintro e w2 ⟨⟨rfl, v, hrow, hb⟩, hkp⟩
    obtain ⟨q, c, hv⟩ := row_as hrow
    subst hv
    have hc2 := box_cell hb
    have hbl3 : Below W.heap.size W w2 := hbl2.trans (hkp.below (n := W.heap.size) (by omega) (by have := HSZ.out; omega))
    have HJO := Hid.mk (join_row ⟨#[]⟩ hrow (by omega) (by
      show (Lib.join (ps.map (·.data.toList)) []).length ≤ _
      have := HJL.out; omega))
    have hcj : (⟨(Lib.join (ps.map (·.data.toList)) (⟨#[]⟩ : ByteArray).data.toList).toArray⟩ : ByteArray) = cat ps := by rw [← cat_join]
    rw [hcj] at HJO
    clear hcj
    go_wp2_with fail
    refine HJO.out.mono ?_
    rintro e w3 ⟨rfl, hb3⟩
    have hb4 := (hb3.block _ (box_lt hb)).trans hb
    have hc3 := box_cell hb4
    have hrow3 := row_bel hrow hb3
    have hbl4 : Below W.heap.size W w3 := bth hbl3 hb3 hbl3.size
    cases hsp : splitR k (cat ps) with
    | none =>
      rw [hsp] at HSP
      have HJN : Hid (J = none) := by rw [Hid, ← HJ.out, joinR, if_neg (by rw [hsp]; simp)]
      clear hsp
      go_wp2_with fail
      refine (HSP.out _).mono ?_
      rintro e w4 ⟨rfl, hb5⟩
      go_wp2
      go_ret2
      exact ⟨by rw [HJN.out]; rfl, bth hbl4 hb5 hbl4.size⟩
    | some qs =>
      rw [hsp] at HSP
      have hql : qs.length ≤ 20 := by
        have := ((split_iff k _ qs).1 hsp).2.2.2.len
        have := (form_len k).1
        omega
      have HJN : Hid (J = if qs = ps then some (cat ps) else none) := by
        rw [Hid, ← HJ.out, joinR, hsp]
        by_cases e : qs = ps
        · rw [if_pos e, e, if_pos rfl]
        · rw [if_neg e, if_neg (fun h => e (Option.some.inj h))]
      clear hsp
      go_wp2_with fail
      refine (HSP.out _).mono ?_
      rintro e w4 ⟨⟨v5, rfl, hrow5⟩, hb5⟩
      have hta := texts_of_row hrow5
      have htb := texts_of_row (row_bel hrow3 hb5)
      have hc5 := box_cell ((hb5.block _ (box_lt hb4)).trans hb4)
      have HEQ := Hid.mk (equal_in w4 _ _ qs ps hta htb (by omega) (by omega))
      obtain ⟨q5, c5, hv5⟩ := row_as hrow5
      subst hv5
      have hbl5 : Below W.heap.size W w4 := bth hbl4 hb5 hbl4.size
      clear hta htb
      by_cases heq : qs = ps
      · rw [if_pos heq] at HJN
        rw [show decide (qs = ps) = true by simp [heq]] at HEQ
        clear heq
        go_wp2_with fail
        refine HEQ.out.mono ?_
        rintro e w6 ⟨rfl, hb6⟩
        go_wp2
        go_ret2
        exact ⟨by rw [HJN.out]; rfl, bth hbl5 hb6 hbl5.size⟩
      · rw [if_neg heq] at HJN
        rw [show decide (qs = ps) = false by simp [heq]] at HEQ
        clear heq
        go_wp2_with fail
        refine HEQ.out.mono ?_
        rintro e w6 ⟨rfl, hb6⟩
        go_wp2
        go_ret2
        exact ⟨by rw [HJN.out]; rfl, bth hbl5 hb6 hbl5.size⟩
end Go.Proofs.YtkohkkakbcjgcabGreatDoor

/- Small letters in the names of data, on bytes alone. -/
namespace Go.Proofs.YtkohkkakbcjgcabGreatDoor
set_option linter.unusedVariables false
open Go.RowKit

theorem lowB_lowB (c : UInt8) : lowB (lowB c) = lowB c := by
  have h := lowB_toNat c
  apply UInt8.toNat_inj.1
  rw [lowB_toNat, h]
  split
  · rw [if_neg (by omega)]
  · rfl
def lowA (x : ByteArray) : ByteArray := ⟨(x.data.toList.map lowB).toArray⟩
theorem lowA_size (x : ByteArray) : (lowA x).size = x.size := by rw [lowA, ba_size, List.length_map, size_list]
theorem lowA_lowA (x : ByteArray) : lowA (lowA x) = lowA x := by
  apply ba_ext
  simp [lowA, lowB_lowB]
theorem lowA_nm {ls : List (List UInt8)} (h : OkN ls) : lowA (nm ls) = nm (lowN ls) := nm_low h
theorem lowA_name {x : ByteArray} (h : IsName x) : IsName (lowA x) := by
  obtain ⟨ls, ho, rfl⟩ := h
  exact ⟨lowN ls, ho.low, lowA_nm ho⟩

def isNm : PK → Bool
  | .name => true
  | _ => false
def lowX (p : PK) (x : ByteArray) : ByteArray := if isNm p then lowA x else x
theorem lowX_size (p : PK) (x : ByteArray) : (lowX p x).size = x.size := by
  unfold lowX
  split
  · exact lowA_size x
  · rfl
theorem lowX_lowX (p : PK) (x : ByteArray) : lowX p (lowX p x) = lowX p x := by
  unfold lowX
  split
  · exact lowA_lowA x
  · rfl
theorem lowX_good (p : PK) (x : ByteArray) (h : Good p x) : Good p (lowX p x) := by
  cases p <;> first | exact h | exact lowA_name h

def lowXs : List PK → List ByteArray → List ByteArray
  | p :: F, x :: xs => lowX p x :: lowXs F xs
  | _, xs => xs
theorem lowXs_good : ∀ (F : List PK) (xs : List ByteArray), AllGood F xs → AllGood F (lowXs F xs)
  | [], [], _ => trivial
  | p :: F, x :: xs, h => ⟨lowX_good p x h.1, lowXs_good F xs h.2⟩
  | [], _ :: _, h => h.elim
  | _ :: _, [], h => h.elim
theorem lowXs_size : ∀ (F : List PK) (xs : List ByteArray), (cat (lowXs F xs)).size = (cat xs).size
  | [], _ => rfl
  | _ :: _, [] => rfl
  | p :: F, x :: xs => by rw [lowXs, cat, cat, app_size, app_size, lowX_size, lowXs_size F xs]
theorem lowXs_twice : ∀ (F : List PK) (xs : List ByteArray), lowXs F (lowXs F xs) = lowXs F xs
  | [], _ => rfl
  | _ :: _, [] => rfl
  | p :: F, x :: xs => by rw [lowXs, lowXs, lowX_lowX, lowXs_twice F xs]

/-- types whose names are of other owners of records. -/
def nameds (k : Int) : Bool := k == 2 || k == 5 || k == 39 || k == 6 || k == 15
def lowers (k : Int) : Bool := nameds k || k == 46
noncomputable def lowR (k : Int) (s : ByteArray) : ByteArray := if lowers k then (match splitR k s with
  | none => s
  | some xs => cat (lowXs (formOf k) xs)) else s
def nmsOf : List PK → List ByteArray → List ByteArray
  | p :: F, x :: xs => if isNm p then x :: nmsOf F xs else nmsOf F xs
  | _, _ => []
noncomputable def namesR (k : Int) (s : ByteArray) : List ByteArray := if nameds k then (match splitR k s with
  | none => []
  | some xs => nmsOf (formOf k) xs) else []
theorem nmsOf_low : ∀ (F : List PK) (xs : List ByteArray), (nmsOf F (lowXs F xs)).length = (nmsOf F xs).length
  | [], xs => by cases xs <;> rfl
  | _ :: _, [] => rfl
  | p :: F, x :: xs => by
    rw [lowXs, nmsOf, nmsOf]
    split
    · simp [nmsOf_low F xs]
    · exact nmsOf_low F xs

theorem lowR_split (k : Int) (s : ByteArray) (xs : List ByteArray) (hl : lowers k = true) (h : splitR k s = some xs) : lowR k s = cat (lowXs (formOf k) xs) ∧ splitR k (lowR k s) = some (lowXs (formOf k) xs) := by
  have e : lowR k s = cat (lowXs (formOf k) xs) := by
    rw [lowR, if_pos hl, h]
  refine ⟨e, ?_⟩
  obtain ⟨hk, hs, rfl, hg⟩ := (split_iff k s xs).1 h
  rw [e]
  exact (split_iff k _ _).2 ⟨hk, by rw [lowXs_size]; exact hs, rfl, lowXs_good _ _ hg⟩
theorem lowR_none (k : Int) (s : ByteArray) (h : splitR k s = none) : lowR k s = s := by
  rw [lowR, h]
  split <;> rfl
theorem lowR_size (k : Int) (s : ByteArray) : (lowR k s).size = s.size := by
  cases hl : lowers k with
  | false => rw [lowR, hl]; rfl
  | true =>
    cases h : splitR k s with
    | none => rw [lowR_none k s h]
    | some xs =>
      rw [(lowR_split k s xs hl h).1, lowXs_size]
      obtain ⟨_, _, rfl, _⟩ := (split_iff k s xs).1 h
      rfl
theorem lowR_twice (k : Int) (s : ByteArray) : lowR k (lowR k s) = lowR k s := by
  cases hl : lowers k with
  | false => rw [lowR, hl]; rfl
  | true =>
    cases h : splitR k s with
    | none => rw [lowR_none k s h, lowR_none k s h]
    | some xs =>
      obtain ⟨h1, h2⟩ := lowR_split k s xs hl h
      rw [(lowR_split k _ _ hl h2).1, lowXs_twice, h1]
theorem lowR_right (k : Int) (s : ByteArray) : (splitR k (lowR k s)).isSome = (splitR k s).isSome := by
  cases hl : lowers k with
  | false => rw [lowR, hl]; rfl
  | true =>
    cases h : splitR k s with
    | none => rw [lowR_none k s h, h]
    | some xs => rw [(lowR_split k s xs hl h).2]; rfl
theorem lowR_names (k : Int) (s : ByteArray) : (namesR k (lowR k s)).length = (namesR k s).length := by
  unfold namesR
  cases hn : nameds k with
  | false => rfl
  | true =>
    have hl : lowers k = true := by rw [lowers, hn]; rfl
    cases h : splitR k s with
    | none => rw [lowR_none k s h, h]
    | some xs =>
      rw [(lowR_split k s xs hl h).2]
      exact nmsOf_low _ _
end Go.Proofs.YtkohkkakbcjgcabGreatDoor

/- Names and Lower, of every type. -/
namespace Go.Proofs.YtkohkkakbcjgcabGreatDoor
set_option linter.unusedVariables false
open Go.RowKit

theorem row_store {W : World} {base n cap g j : Nat} {e : TypeId} {xs : List Value} (h : W.ownsRow base e 1 (.slice (some ⟨g, 0, none⟩) n cap) n xs) (hn : 0 < n) (u : Value) : (W.setCell ⟨g, j, none⟩ u).ownsRow base e 1 (.slice (some ⟨g, 0, none⟩) n cap) n (xs.set j u) := by
  obtain ⟨h1, h2⟩ := h
  refine ⟨by rw [List.length_set]; exact h1, ?_⟩
  rcases h2 with ⟨_, h0⟩ | ⟨g', cap', cur, hv, hb, hg, hc, hm, hz, ht⟩
  · omega
  · cases hv
    have hs : (W.setCell ⟨g, j, none⟩ u).heap[g]? = some (.cells (cur.setIfInBounds j u) e (0, 0)) := by
      simp only [World.setCell, Array.getElem?_modify, hg]
      rfl
    refine .inr ⟨g, cap, _, rfl, hb, hs, hc, hm, by simpa using hz, ?_⟩
    rw [← ht, Array.toList_setIfInBounds, List.take_set]
theorem row_frozen {W : World} {base n cap g j : Nat} {e : TypeId} {xs : List Value} (h : W.ownsRow base e 1 (.slice (some ⟨g, 0, none⟩) n cap) n xs) (hn : 0 < n) : W.frozen? ⟨g, j, none⟩ = false ∧ g < W.heap.size ∧ base ≤ g := by
  rcases h.2 with ⟨_, h0⟩ | ⟨g', cap', cur, hv, hb, hg, _⟩
  · omega
  · cases hv
    exact ⟨by simp [World.frozen?, hg], box_lt hg, hb⟩

theorem namesOthers_in (k : Int) (w : World) : Calls Tryz.prog 46 #[.int .i64 k] w fun e w' => e = .returned (.bool (nameds k)) ∧ w' = w := by
  by_cases h1 : k = 2
  · subst h1
    go_enter Tryz.func46, Tryz.ntmps46
    go_wp2
    go_ret
    exact ⟨rfl, rfl⟩
  · by_cases h2 : k = 5
    · subst h2
      go_enter Tryz.func46, Tryz.ntmps46
      go_wp2
      go_ret
      exact ⟨rfl, rfl⟩
    · by_cases h3 : k = 39
      · subst h3
        go_enter Tryz.func46, Tryz.ntmps46
        go_wp2
        go_ret
        exact ⟨rfl, rfl⟩
      · by_cases h4 : k = 6
        · subst h4
          go_enter Tryz.func46, Tryz.ntmps46
          go_wp2
          go_ret
          exact ⟨rfl, rfl⟩
        · by_cases h5 : k = 15
          · subst h5
            go_enter Tryz.func46, Tryz.ntmps46
            go_wp2
            go_ret
            exact ⟨rfl, rfl⟩
          · have e1 : (k == 2) = false := by simpa using h1
            have e2 : (k == 5) = false := by simpa using h2
            have e3 : (k == 39) = false := by simpa using h3
            have e4 : (k == 6) = false := by simpa using h4
            have e5 : (k == 15) = false := by simpa using h5
            have he : nameds k = false := by simp [nameds, e1, e2, e3, e4, e5]
            rw [he]
            go_enter Tryz.func46, Tryz.ntmps46
            go_wp2
            go_ret
            exact ⟨rfl, rfl⟩

theorem part_name {n₀ : Nat} {W : World} {p : Part} {k : PK} (h : PartIs n₀ W p k) : p.name = isNm k := by
  cases k with
  | num n => obtain ⟨b, _, rfl, _⟩ := h; rfl
  | grp c w b s => obtain ⟨x, _, rfl, _⟩ := h; rfl
  | name => obtain rfl := h; rfl
  | type => obtain rfl := h; rfl
  | hex => obtain rfl := h; rfl
  | salt => obtain rfl := h; rfl
  | hash => obtain rfl := h; rfl
  | types => obtain rfl := h; rfl
  | any => obtain rfl := h; rfl
  | strs => obtain rfl := h; rfl

/-- what partsOf hands back, for who looks which parts are names. -/
theorem named_all (k : Int) (w : World) : Calls Tryz.prog 47 #[.int .i64 k] w fun e w' => ∃ g P, e = .returned (.slice (some ⟨g, 0, none⟩) (formOf k).length (formOf k).length) ∧ w.heap.size ≤ g ∧ PartsIn w' g (formOf k).length P ∧
    (∀ j (h : j < (formOf k).length), (P j).name = isNm (formOf k)[j]) ∧ Below w.heap.size w w' := by
  refine (raw_all k w).mono ?_
  rintro e w' ⟨g, ps, rfl, hg, hc, hp, hb⟩
  have hl := hp.len
  exact ⟨g, fun j => ps.getD j default, rfl, hg, by rw [← hl]; exact parts_in hc, fun j hj => part_name (hp.at j _ (List.getElem?_eq_getElem hj)), hb⟩

theorem nms_snoc : ∀ (F : List PK) (ps : List ByteArray) (m : Nat) (h : m < F.length) (h' : m < ps.length), nmsOf (F.take (m + 1)) (ps.take (m + 1)) = nmsOf (F.take m) (ps.take m) ++ (if isNm F[m] then [ps[m]] else [])
  | [], ps, m, h, _ => by simp at h
  | p :: F, [], m, _, h' => by simp at h'
  | p :: F, x :: xs, 0, _, _ => by
    simp only [List.take_succ_cons, List.take_zero, nmsOf, List.getElem_cons_zero, List.nil_append]
  | p :: F, x :: xs, m + 1, h, h' => by
    have := nms_snoc F xs m (by simpa using h) (by simpa using h')
    simp only [List.take_succ_cons, nmsOf, List.getElem_cons_succ] at this ⊢
    rw [this]
    split
    · simp
    · rfl
theorem nms_len : ∀ (F : List PK) (ps : List ByteArray), (nmsOf F ps).length ≤ ps.length
  | [], ps => by cases ps <;> simp [nmsOf]
  | _ :: _, [] => by simp [nmsOf]
  | p :: F, x :: xs => by
    have := nms_len F xs
    rw [nmsOf]
    split
    · simp; omega
    · simp; omega

/-- what Names hands back. -/
def NmsPost (l : List ByteArray) (W : World) (e : Ending) (w' : World) : Prop := (∃ v, e = .returned v ∧ w'.ownsRow W.heap.size 9 1 v l.length (baV l)) ∧ Below W.heap.size W w'

set_option maxRecDepth 100000 in
set_option maxHeartbeats 2000000 in
theorem names_in (k : Int) (s : ByteArray) (hm : s.size ≤ maxLen) (W : World) : Calls Tryz.prog 25 #[.int .i64 k, .string s] W fun e w' => NmsPost (namesR k s) W e w' := by
  have HO := Hid.mk (namesOthers_in k)
  have HS := Hid.mk (split_all k s hm)
  have HP := Hid.mk (named_all k)
  obtain ⟨i0, hi, hz0, hz1, hz2⟩ := info_parts info9
  obtain ⟨RN, hRN⟩ : ∃ R, namesR k s = R := ⟨_, rfl⟩
  rw [hRN]
  have HRN := Hid.mk hRN
  clear hRN
  cases hn : nameds k with
  | false =>
    rw [hn] at HO
    have hR0 : RN = [] := by rw [← HRN.out, namesR, hn]; rfl
    subst hR0
    clear hn
    go_enter Tryz.func25, Tryz.ntmps25
    go_wp2_with fail
    refine (HO.out _).mono ?_
    rintro e w1 ⟨rfl, rfl⟩
    go_wp2
    go_ret
    exact ⟨⟨_, rfl, World.ownsRow_nil ..⟩, Below.refl _ _⟩
  | true =>
    rw [hn] at HO
    cases hsp : splitR k s with
    | none =>
      rw [hsp] at HS
      have hR0 : RN = [] := by rw [← HRN.out, namesR, hn, hsp]; rfl
      subst hR0
      clear hn hsp
      go_enter Tryz.func25, Tryz.ntmps25
      go_wp2_with fail
      refine (HO.out _).mono ?_
      rintro e w1 ⟨rfl, rfl⟩
      go_wp2_with fail
      refine (HS.out _).mono ?_
      rintro e w2 ⟨rfl, hb2⟩
      go_wp2
      go_ret
      exact ⟨⟨_, rfl, World.ownsRow_nil ..⟩, hb2⟩
    | some ps =>
      rw [hsp] at HS
      have hR0 : nmsOf (formOf k) ps = RN := by rw [← HRN.out, namesR, hn, hsp]; rfl
      have hpl : ps.length = (formOf k).length := ((split_iff k s ps).1 hsp).2.2.2.len
      have hfl := (form_len k).1
      have HR0 := Hid.mk hR0
      have HPL := Hid.mk hpl
      clear hn hsp hR0 hpl
      generalize formOf k = F at HP HR0 HPL hfl
      go_enter Tryz.func25, Tryz.ntmps25
      go_wp2_with fail
      refine (HO.out _).mono ?_
      rintro e w1 ⟨rfl, rfl⟩
      go_wp2_with fail
      refine (HS.out _).mono ?_
      rintro e w2 ⟨⟨v, rfl, hrow⟩, hb2⟩
      obtain ⟨qv, cv, hqv⟩ := row_as hrow
      subst hqv
      go_wp2_with fail
      refine (HP.out _).mono ?_
      rintro e w3 ⟨g, P, rfl, hg, hP, hnm, hb3⟩
      have hrow3 := row_bel hrow hb3
      have HNM := Hid.mk hnm
      have k3 := bth hb2 hb3 hb2.size
      clear hrow hnm HO HS HP
      go_wp2
      go_loopw [7, 24] (fun lv iv wr => ∃ m : Nat, m ≤ F.length ∧ iv = .int .i64 m ∧ wr.ownsRow w3.heap.size 9 1 lv (nmsOf (F.take m) (ps.take m)).length (baV (nmsOf (F.take m) (ps.take m))) ∧ Below w3.heap.size w3 wr) (fun _ iv _ => F.length - (intOf iv).toNat)
      case atStart =>
        refine ⟨0, Nat.zero_le _, rfl, ?_, Below.refl _ _⟩
        have : nmsOf (F.take 0) (ps.take 0) = [] := by simp [nmsOf]
        rw [this]
        exact World.ownsRow_nil ..
      case round =>
        obtain ⟨m, hmF, rfl, hrw, hbl⟩ := hrel
        have hsz := hbl.size
        by_cases hlt : m < F.length
        · have hmp : m < ps.length := by have := HPL.out; omega
          have hgl := hP.lt (by omega)
          obtain ⟨gp, hgp, hgpl, hgc⟩ := row_cell hrow3 m hmp
          subst hgp
          have c0 := (hbl.cell (p := ⟨g, m * 4, none⟩) hgl).trans (hP.c0 m hlt)
          have c1 := (hbl.cell (p := ⟨g, m * 4 + 1, none⟩) hgl).trans (hP.c1 m hlt)
          have c2 := (hbl.cell (p := ⟨g, m * 4 + 2, none⟩) hgl).trans (hP.c2 m hlt)
          have c3 := (hbl.cell (p := ⟨g, m * 4 + 3, none⟩) hgl).trans (hP.c3 m hlt)
          have hpc : ∀ o, (wr.alloc o).cell? ⟨gp, m, none⟩ = some (.string ps[m]) := fun o => ((hbl.alloc hsz o).cell (p := ⟨gp, m, none⟩) hgpl).trans hgc
          have hnmm := HNM.out m hlt
          have HSN := Hid.mk (nms_snoc F ps m hlt hmp)
          have hwl := nms_len (F.take m) (ps.take m)
          rw [List.length_take] at hwl
          rw [hnmm] at c3
          have hplm : (m : Int) < (ps.length : Int) := by omega
          clear hnmm
          generalize P m = pk at c0 c1 c2
          obtain ⟨fp, cp, ft, ct, fr, cr, nmb⟩ := pk
          dsimp only at c0 c1 c2
          generalize nmsOf (F.take m) (ps.take m) = ws at hrw HSN hwl
          generalize ps[m] = pm at hpc HSN hgc
          cases hnx : isNm F[m] with
          | false =>
            rw [hnx] at c3 HSN
            have HSN2 : Hid (nmsOf (F.take (m + 1)) (ps.take (m + 1)) = ws) := by rw [Hid, HSN.out]; simp
            clear hnx HSN
            go_wp2
            exact ⟨⟨m + 1, by omega, by go_num, by rw [HSN2.out]; exact hrw.alloc _, hbl.alloc hsz _⟩, by simp [intOf]; omega⟩
          | true =>
            rw [hnx] at c3 HSN
            have HSN2 : Hid (nmsOf (F.take (m + 1)) (ps.take (m + 1)) = ws ++ [pm]) := by rw [Hid, HSN.out]; rfl
            have hrw2 : ∀ o, (wr.alloc o).ownsRow w3.heap.size 9 1 u7 ws.length (baV ws) := fun o => hrw.alloc o
            clear hnx HSN
            go_wp2_with (at_builtin; refine wpList_append_own _ rfl _ _ 61 rfl w3.heap.size 9 i0 (.string ⟨#[]⟩) 1 16 Tryz.underlying61 hi hz0 hz1 hz2 rfl (by decide) _ _ _ rfl ((hrw2 _).alloc _) ⟨wr.heap.size + 1, 0, none⟩ 1 1 [.string pm] rfl rfl (by rw [← World.size_alloc]; exact cell_one_new _ _ _) (by simp [Value.oneCell']) (by unfold maxLen; omega) (by omega) (by simp; omega) ?_; intro v1 w5 hown5 hgrow5 _)
            have hb5 : Below w3.heap.size w3 w5 := ((hbl.alloc hsz _).alloc (by simp; omega) _).grown hgrow5 (by simp; omega) (rowBaseB hrw)
            go_roundw
            case rel =>
              refine ⟨m + 1, by omega, by go_num, ?_, hb5⟩
              rw [HSN2.out, List.length_append, baV, List.map_append]; exact hown5
            case measure => simp [intOf]; omega
        · obtain rfl : m = F.length := by omega
          have h1 : F.take F.length = F := List.take_length
          have h2 : ps.take F.length = ps := by rw [← HPL.out]; exact List.take_length
          rw [h1, h2, HR0.out] at hrw
          obtain ⟨qw, cw, hqw⟩ := row_as hrw
          subst hqw
          clear h1 h2
          go_wp2
          go_ret
          exact ⟨⟨_, rfl, row_down hrw k3.size⟩, k3.trans (hbl.mono k3.size)⟩
end Go.Proofs.YtkohkkakbcjgcabGreatDoor

/- Lower, of every type. -/
namespace Go.Proofs.YtkohkkakbcjgcabGreatDoor
set_option linter.unusedVariables false
open Go.RowKit

theorem lowName_in (x : ByteArray) (h : IsName x) (w : World) :
    Calls Tryz.prog 48 #[.string x] w fun e w' => e = .returned (.string (lowA x)) ∧ Below w.heap.size w w' := by
  obtain ⟨ls, ho, rfl⟩ := h
  rw [lowA_nm ho]
  go_enter Tryz.func48, Tryz.ntmps48
  go_wp2_with fail
  refine (right_yes ls ho _).mono ?_
  rintro e w1 ⟨rfl, hb1⟩
  go_wp2_with fail
  refine (lowered_nm ls ho _).mono ?_
  rintro e w2 ⟨rfl, hb2⟩
  go_wp2
  go_ret
  exact ⟨rfl, bth hb1 hb2 hb1.size⟩

theorem low_len : ∀ (F : List PK) (xs : List ByteArray), (lowXs F xs).length = xs.length
  | [], _ => rfl
  | _ :: _, [] => rfl
  | p :: F, x :: xs => by simp [lowXs, low_len F xs]
theorem low_step : ∀ (F : List PK) (ps : List ByteArray) (m : Nat) (h : m < F.length) (h' : m < ps.length), lowXs (F.take (m + 1)) ps = (lowXs (F.take m) ps).set m (lowX F[m] ps[m])
  | [], ps, m, h, _ => by simp at h
  | p :: F, [], m, _, h' => by simp at h'
  | p :: F, x :: xs, 0, _, _ => by simp [lowXs]
  | p :: F, x :: xs, m + 1, h, h' => by
    have := low_step F xs m (by simpa using h) (by simpa using h')
    simp only [List.take_succ_cons, lowXs, List.getElem_cons_succ, List.set_cons_succ] at this ⊢
    rw [this]
theorem low_at : ∀ (F : List PK) (ps : List ByteArray) (m : Nat) (h' : m < ps.length), (lowXs (F.take m) ps)[m]? = some ps[m]
  | F, x :: xs, 0, _ => by simp [lowXs]
  | [], x :: xs, m + 1, h' => by
    rw [show lowXs (([] : List PK).take (m + 1)) (x :: xs) = x :: xs from rfl]
    exact List.getElem?_eq_getElem h'
  | p :: F, x :: xs, m + 1, h' => by
    have := low_at F xs m (by simpa using h')
    simpa [lowXs] using this
  | F, [], m, h' => by simp at h'
theorem good_at : ∀ (F : List PK) (ps : List ByteArray), AllGood F ps → ∀ (m : Nat) (h : m < F.length) (h' : m < ps.length), Good F[m] ps[m]
  | [], ps, _, m, h, _ => by simp at h
  | p :: F, [], _, m, _, h' => by simp at h'
  | p :: F, x :: xs, hg, 0, _, _ => hg.1
  | p :: F, x :: xs, hg, m + 1, h, h' => good_at F xs hg.2 m (by simpa using h) (by simpa using h')
theorem set_same {l : List ByteArray} {m : Nat} {x : ByteArray} (h : l[m]? = some x) : l.set m x = l := by
  obtain ⟨h1, h2⟩ := List.getElem?_eq_some_iff.1 h
  rw [← h2, List.set_getElem_self]

theorem row_at {W : World} {n₀ n c g : Nat} {e : TypeId} {ps : List ByteArray} (h : W.ownsRow n₀ e 1 (.slice (some ⟨g, 0, none⟩) n c) n (baV ps)) (j : Nat) (x : ByteArray) (hj : ps[j]? = some x) : W.cell? ⟨g, j, none⟩ = some (.string x) := by
  obtain ⟨hl, hx⟩ := List.getElem?_eq_some_iff.1 hj
  obtain ⟨g', hg', _, hc⟩ := row_cell h j hl
  cases hg'
  rw [hc, hx]

set_option maxRecDepth 100000 in
set_option maxHeartbeats 2000000 in
theorem lower_in (k : Int) (s : ByteArray) (hm : s.size ≤ maxLen) (W : World) : Calls Tryz.prog 24 #[.int .i64 k, .string s] W fun e w' => e = .returned (.string (lowR k s)) ∧ Below W.heap.size W w' := by
  have HO := Hid.mk (namesOthers_in k)
  have HS := Hid.mk (split_all k s hm)
  have HP := Hid.mk (named_all k)
  obtain ⟨RN, hRN⟩ : ∃ R, lowR k s = R := ⟨_, rfl⟩
  rw [hRN]
  have HRN := Hid.mk hRN
  clear hRN
  cases hlw : lowers k with
  | false =>
    have hR0 : RN = s := by rw [← HRN.out, lowR, hlw]; rfl
    rw [lowers, Bool.or_eq_false_iff] at hlw
    rw [hlw.1] at HO
    have h46 : (k == 46) = false := hlw.2
    have h46' : (k != 46) = true := by simpa using h46
    subst hR0
    clear hlw HRN
    go_enter Tryz.func24, Tryz.ntmps24
    go_wp2_with fail
    refine (HO.out _).mono ?_
    rintro e w1 ⟨rfl, rfl⟩
    go_wp2
    go_ret
    exact ⟨rfl, Below.refl _ _⟩
  | true =>
    have HB : Hid (nameds k = true ∨ (nameds k = false ∧ (k != 46) = false)) := by
      rw [Hid]
      rw [lowers, Bool.or_eq_true] at hlw
      cases hn : nameds k with
      | true => exact .inl rfl
      | false =>
        rw [hn] at hlw
        rcases hlw with h | h
        · cases h
        · exact .inr ⟨rfl, by simpa using h⟩
    cases hsp : splitR k s with
    | none =>
      rw [hsp] at HS
      have hR0 : RN = s := by rw [← HRN.out]; exact lowR_none k s hsp
      subst hR0
      clear hlw hsp HRN
      rcases HB.out with hn | ⟨hn, h46⟩
      all_goals
        rw [hn] at HO
        clear hn HB
        go_enter Tryz.func24, Tryz.ntmps24
        go_wp2_with fail
        refine (HO.out _).mono ?_
        rintro e w1 ⟨rfl, rfl⟩
        go_wp2_with fail
        refine (HS.out _).mono ?_
        rintro e w2 ⟨rfl, hb2⟩
        go_wp2
        go_ret
        exact ⟨rfl, hb2⟩
    | some ps =>
      rw [hsp] at HS
      have hgood := ((split_iff k s ps).1 hsp).2.2.2
      have hcz : (cat ps).size ≤ 2000 := by
        obtain ⟨_, h1, h2, _⟩ := (split_iff k s ps).1 hsp
        rw [← h2]; exact h1
      have hR0 : cat (lowXs (formOf k) ps) = RN := by rw [← HRN.out]; exact (lowR_split k s ps hlw hsp).1.symm
      have hpl : ps.length = (formOf k).length := hgood.len
      have hfl := form_len k
      have HR0 := Hid.mk hR0
      have HPL := Hid.mk hpl
      have HGD := Hid.mk hgood
      have HCZ : Hid ((cat (lowXs (formOf k) ps)).size ≤ 2000) := by rw [Hid, lowXs_size]; exact hcz
      clear hlw hsp hR0 hpl HRN hgood hcz
      generalize formOf k = F at HP HR0 HPL hfl HGD HCZ
      rcases HB.out with hn | ⟨hn, h46⟩
      all_goals
        rw [hn] at HO
        clear hn HB
        go_enter Tryz.func24, Tryz.ntmps24
        go_wp2_with fail
        refine (HO.out _).mono ?_
        rintro e w1 ⟨rfl, rfl⟩
        go_wp2_with fail
        refine (HS.out _).mono ?_
        rintro e w2 ⟨⟨v, rfl, hrow⟩, hb2⟩
        obtain ⟨qv, cv, hqv⟩ := row_as hrow
        subst hqv
        go_wp2_with fail
        refine (HP.out _).mono ?_
        rintro e w3 ⟨g, P, rfl, hg, hP, hnm, hb3⟩
        have hrow3 := row_bel hrow hb3
        have HNM := Hid.mk hnm
        have k3 := bth hb2 hb3 hb2.size
        have hp0 : 0 < ps.length := by have := HPL.out; omega
        obtain ⟨gp, hgp, _, _⟩ := row_cell hrow 0 hp0
        subst hgp
        obtain ⟨_, hgpl, hgpb⟩ := row_frozen (j := 0) hrow hp0
        have hgne : g ≠ gp := by omega
        have hgp3 : gp < w3.heap.size := Nat.lt_of_lt_of_le hgpl hb3.size
        clear hrow hnm HO HS HP
        go_wp2
        go_loopw [29] (fun iv wr => ∃ m : Nat, m ≤ F.length ∧ iv = .int .i64 m ∧ wr.ownsRow w1.heap.size 9 1 (.slice (some ⟨gp, 0, none⟩) ps.length cv) ps.length (baV (lowXs (F.take m) ps)) ∧ Kept gp w3 wr) (fun iv _ => F.length - (intOf iv).toNat)
        case atStart =>
          refine ⟨0, Nat.zero_le _, rfl, ?_, Kept.refl _ _⟩
          rw [List.take_zero, show lowXs [] ps = ps from rfl]
          exact hrow3
        case round =>
          obtain ⟨m, hmF, rfl, hrw, hkp⟩ := hrel
          have hsz := hkp.size
          by_cases hlt : m < F.length
          · have hmp : m < ps.length := by have := HPL.out; omega
            have hgl := hP.lt (by omega)
            have hPk := hP.kept hkp hgne
            have c0 := hPk.c0 m hlt
            have c1 := hPk.c1 m hlt
            have c2 := hPk.c2 m hlt
            have c3 := hPk.c3 m hlt
            have hrwA : ∀ o, (wr.alloc o).ownsRow w1.heap.size 9 1 (.slice (some ⟨gp, 0, none⟩) ps.length cv) ps.length (baV (lowXs (F.take m) ps)) := fun o => hrw.alloc o
            have hpc : ∀ o, (wr.alloc o).cell? ⟨gp, m, none⟩ = some (.string ps[m]) := fun o => row_at (hrwA o) m _ (low_at F ps m hmp)
            have hnmm := HNM.out m hlt
            have HSN := Hid.mk (low_step F ps m hlt hmp)
            have HGM := Hid.mk (good_at F ps HGD.out m hlt hmp)
            have HAT := Hid.mk (low_at F ps m hmp)
            rw [hnmm] at c3
            have hplm : (m : Int) < (ps.length : Int) := by omega
            clear hnmm hPk
            generalize P m = pk at c0 c1 c2
            obtain ⟨fp, cp, ft, ct, fr, cr, nmb⟩ := pk
            dsimp only at c0 c1 c2
            generalize hws : lowXs (F.take m) ps = ws at hrw HSN hrwA HAT
            generalize ps[m] = pm at hpc HSN HGM HAT
            clear hws
            generalize F[m] = pq at c3 HSN HGM
            cases hnx : isNm pq with
            | false =>
              rw [hnx] at c3
              have HSN2 : Hid (lowXs (F.take (m + 1)) ps = ws) := by
                rw [Hid, HSN.out, lowX, hnx]
                exact set_same HAT.out
              clear hnx HSN
              go_wp2
              exact ⟨⟨m + 1, by omega, by go_num, by rw [HSN2.out]; exact hrw.alloc _, hkp.trans (Kept.of_below ((Below.refl _ _).alloc (Nat.le_refl _) _))⟩, by simp [intOf]; omega⟩
            | true =>
              rw [hnx] at c3
              have hname : IsName pm := by
                cases pq <;> first | exact HGM.out | cases hnx
              have HLO := Hid.mk (lowName_in pm hname)
              have HSN2 : Hid (lowXs (F.take (m + 1)) ps = ws.set m (lowA pm)) := by rw [Hid, HSN.out, lowX, hnx]; rfl
              clear hnx HSN hname HGM
              go_wp2_with fail
              refine (HLO.out _).mono ?_
              rintro e w5 ⟨rfl, hb5⟩
              have hrw5 := row_bel (hrwA _) hb5
              obtain ⟨hfz, _, _⟩ := row_frozen (j := m) hrw5 hp0
              have hcl5 := row_at hrw5 m _ HAT.out
              have hst := row_store (j := m) hrw5 hp0 (.string (lowA pm))
              have hk5 : Kept gp w3 (w5.setCell ⟨gp, m, none⟩ (.string (lowA pm))) := ((hkp.trans (Kept.of_below ((Below.refl _ _).alloc (Nat.le_refl _) _))).trans (Kept.of_below hb5)).trans (Kept.set _ _ _ _)
              clear hrwA hpc
              go_wp2
              refine ⟨⟨m + 1, by omega, by go_num, ?_, hk5⟩, by simp [intOf]; omega⟩
              rw [HSN2.out, baV, List.map_set]; exact hst
          · obtain rfl : m = F.length := by omega
            have h1 : F.take F.length = F := List.take_length
            rw [h1] at hrw
            clear h1
            have hll : ps.length = (lowXs F ps).length := (low_len F ps).symm
            have hjc : (Lib.join ((lowXs F ps).map (·.data.toList)) []).length ≤ 2000 := by
              have h1 := HCZ.out
              rw [← cat_join, ba_size] at h1
              exact h1
            have hrwj : wr.ownsRow w1.heap.size 9 1 (.slice (some ⟨gp, 0, none⟩) ps.length cv) (lowXs F ps).length (baV (lowXs F ps)) := by rw [← hll]; exact hrw
            have HJ := Hid.mk (join_row ⟨#[]⟩ hrwj (by rw [← hll, HPL.out]; omega) (by
              show (Lib.join ((lowXs F ps).map (·.data.toList)) []).length ≤ _
              omega))
            have hcj : (⟨(Lib.join ((lowXs F ps).map (·.data.toList)) (⟨#[]⟩ : ByteArray).data.toList).toArray⟩ : ByteArray) = RN := by
              rw [← HR0.out, ← cat_join]
            rw [hcj] at HJ
            clear hcj hrwj hjc hll
            have hblw := hkp.below (n := w1.heap.size) hgpb (Nat.le_trans hb2.size hb3.size)
            go_wp2_with fail
            refine HJ.out.mono ?_
            rintro e w6 ⟨rfl, hb6⟩
            go_wp2
            go_ret
            exact ⟨rfl, (k3.trans hblw).trans (hb6.mono (Nat.le_trans k3.size hkp.size))⟩
end Go.Proofs.YtkohkkakbcjgcabGreatDoor
