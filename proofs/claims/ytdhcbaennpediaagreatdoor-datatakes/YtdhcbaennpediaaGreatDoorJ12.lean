/- Texts of this proof, joined: DSplitA, DSmallF, DLower, DTyAdd, DTyAdd2. -/
import Derived.Test.YtdhcbaennpediaaGreatDoorJ11
import Derived.Test.YtdhcbaennpediaaGreatDoorJ7
import Derived.Test.YtdhcbaennpediaaGreatDoorJ2
import Derived.BigRegion
import Derived.Deep.RegionHeld3
import Derived.Test.YtdhcbaennpediaaGreatDoorJ10
import Derived.Test.YtdhcbaennpediaaGreatDoorJ5
/- split and Right, of every type. -/
namespace Go.Proofs.YtdhcbaennpediaaGreatDoor
set_option linter.unusedVariables false
open Go.RowKit

theorem raw_all (k : Int) (w : World) : Calls Tryz.prog 65 #[.int .i64 k] w fun e w' => RawPost (formOf k) w e w' := by
  unfold formOf
  split
  · rename_i h; subst h; exact raw_A w
  · split
    · rename_i h; subst h; exact raw_AAAA w
    · split
      · rename_i h; exact raw_name k h w
      · split
        · rename_i h; subst h; exact raw_SOA w
        · split
          · rename_i h; subst h; exact raw_MX w
          · split
            · rename_i h; subst h; exact raw_TXT w
            · split
              · rename_i h
                rcases h with rfl | rfl
                · exact raw_DS w
                · exact raw_KEY w
              · split
                · rename_i h; subst h; exact raw_SIG w
                · split
                  · rename_i h; subst h; exact raw_NSEC w
                  · split
                    · rename_i h; subst h; exact raw_NSEC3 w
                    · refine raw_any k ?_ w
                      simp only [tabled, Bool.or_eq_false_iff, beq_eq_false_iff_ne]
                      omega

theorem typesPass_in (W : World) (d : Nat) (s : ByteArray) (hs : s.size ≤ 2000) (h : Rd W d s) :
    Calls Tryz.prog 125 #[boxV d] W fun e w' => PassPost (if (typesR s).isSome then some s.size else none) s d W w' e := by
  have T := Hid.mk (all_in W d s (by unfold maxLen; omega) h)
  have hr1 := Hid.mk (h.set ⟨#[]⟩)
  have hk1 := Hid.mk (Kept.set d 0 W (.string ⟨#[]⟩))
  have HT := Hid.mk (fun w => typesOf_in w s hs)
  have hec := Hid.mk (end_cut s)
  cases hr : typesR s with
  | some l =>
    rw [hr] at HT
    go_enter Tryz.func125, Tryz.ntmps125
    go_wp2_with fail
    refine T.out.mono ?_
    rintro e w1 ⟨rfl, rfl⟩
    go_wp2_with fail
    refine (HT.out _).mono ?_
    rintro e w2 ⟨⟨v, rfl, _⟩, hb2⟩
    go_wp2
    refine bodyPost_end (results_none rfl _ _ _) rfl ⟨Nat.le_refl _, rfl, ?_, hk1.out.trans (Kept.of_below hb2)⟩
    rw [hec.out]; exact hr1.out.below hb2
  | none =>
    rw [hr] at HT
    go_enter Tryz.func125, Tryz.ntmps125
    go_wp2_with fail
    refine T.out.mono ?_
    rintro e w1 ⟨rfl, rfl⟩
    go_wp2_with fail
    refine (HT.out _).mono ?_
    rintro e w2 ⟨rfl, hb2⟩
    go_wp2
    exact ⟨rfl, rfl, hk1.out.trans (Kept.of_below hb2)⟩

theorem grpPassG_in (W : World) (b d c wd bs : Nat) (sp : UInt8) (hb : GrpB W b c wd bs sp) (hn : c * wd ≤ 100) (hc : c ≤ 100) (hw : wd ≤ 100) (s : ByteArray) (hs : s.size ≤ 2000) (h : Rd W d s) :
    Calls Tryz.prog 105 #[boxV d, boxV b, boxV (b + 1)] W fun e w' => PassPost (takeK (c * wd) s) s d W w' e := by
  have c0 := box_cell hb.cnt
  have c1 := box_cell hb.wid
  have hm : IntKind.i64.wrap ((c : Int) * (wd : Int)) = ((c * wd : Nat) : Int) := by rw [IntKind.wrap_i64, Int.natCast_mul]; omega
  have T := Hid.mk (take_post W d (c * wd) s hs hn h)
  have hmul : (c : Int) * (wd : Int) = ((c * wd : Nat) : Int) := by rw [Int.natCast_mul]
  cases hr : takeK (c * wd) s with
  | some m =>
    rw [hr] at T
    clear hr
    generalize c * wd = q at hm T hmul hn
    go_enter Tryz.func105, Tryz.ntmps105
    go_wp2_with fail
    refine T.out.mono ?_
    rintro e w1 ⟨hm, rfl, hr1, hk1⟩
    go_wp2
    exact bodyPost_end (results_none rfl _ _ _) rfl ⟨hm, rfl, hr1, hk1⟩
  | none =>
    rw [hr] at T
    clear hr
    generalize c * wd = q at hm T hmul hn
    go_enter Tryz.func105, Tryz.ntmps105
    go_wp2_with fail
    refine T.out.mono ?_
    rintro e w1 ⟨rfl, hk1⟩
    go_wp2
    exact ⟨rfl, rfl, hk1⟩

theorem GrpB.below {W W' : World} {b c wd bs : Nat} {sp : UInt8} (h : GrpB W b c wd bs sp) (k : Below W.heap.size W W') : GrpB W' b c wd bs sp :=
  ⟨(k.block _ (box_lt h.cnt)).trans h.cnt, (k.block _ (box_lt h.wid)).trans h.wid, (k.block _ (box_lt h.bas)).trans h.bas, (k.block _ (box_lt h.btw)).trans h.btw⟩

/-- a part's pass. -/
theorem pass_in (n₀ : Nat) (w' W' : World) (p : Part) (k : PK) (hp : PartIs n₀ w' p k) (hg : ∀ c w b s, k = .grp c w b s → c ≤ 100 ∧ w ≤ 100) (hb : Below w'.heap.size w' W') (d : Nat) (s : ByteArray) (hr : Rd W' d s) (hs : s.size ≤ 2000) :
    Calls Tryz.prog p.pass (#[boxV d] ++ p.passC) W' fun e w'' => PassPost (passK k s) s d W' w'' e := by
  cases k with
  | num n =>
    obtain ⟨b, _, rfl, hn, ho⟩ := hp
    exact numPass_in W' b d n hn ((hb.block _ (box_lt ho)).trans ho) s hs hr
  | grp c w b sp =>
    obtain ⟨x, _, rfl, hn, ho⟩ := hp
    obtain ⟨hc, hw⟩ := hg c w b sp rfl
    exact grpPassG_in W' x d c w b sp (ho.below hb) hn hc hw s hs hr
  | name => obtain rfl := hp; exact passName_in W' d s hs hr
  | type => obtain rfl := hp; exact typePass_in W' d s hs hr
  | hex => obtain rfl := hp; exact hexPass_in W' d s hs hr
  | salt => obtain rfl := hp; exact saltPass_in W' d s hs hr
  | hash => obtain rfl := hp; exact hashPass_in W' d s hs hr
  | types => obtain rfl := hp; exact typesPass_in W' d s hs hr
  | any => obtain rfl := hp; exact anyPass_in W' d s hs hr
  | strs => obtain rfl := hp; exact passStrings_in W' d s hs hr
theorem pass_enters (n₀ : Nat) (w' : World) (p : Part) (k : PK) (hp : PartIs n₀ w' p k) : Enters p.pass := by
  cases k with
  | num n => obtain ⟨b, _, rfl, _⟩ := hp; exact enters_by Tryz.func99 (by kernel_rfl) rfl
  | grp c w b sp => obtain ⟨x, _, rfl, _⟩ := hp; exact enters_by Tryz.func105 (by kernel_rfl) rfl
  | name => obtain rfl := hp; exact enters_by Tryz.func109 (by kernel_rfl) rfl
  | type => obtain rfl := hp; exact enters_by Tryz.func120 (by kernel_rfl) rfl
  | hex => obtain rfl := hp; exact enters_by Tryz.func115 (by kernel_rfl) rfl
  | salt => obtain rfl := hp; exact enters_by Tryz.func128 (by kernel_rfl) rfl
  | hash => obtain rfl := hp; exact enters_by Tryz.func131 (by kernel_rfl) rfl
  | types => obtain rfl := hp; exact enters_by Tryz.func125 (by kernel_rfl) rfl
  | any => obtain rfl := hp; exact enters_by Tryz.func136 (by kernel_rfl) rfl
  | strs => obtain rfl := hp; exact enters_by Tryz.func112 (by kernel_rfl) rfl

theorem form_grp (k : Int) : ∀ p ∈ formOf k, ∀ c w b s, p = PK.grp c w b s → c ≤ 100 ∧ w ≤ 100 := by
  unfold formOf
  repeat' split
  all_goals
    intro p hp c w b s e
    subst e
    simp at hp
    try omega

theorem parts_all (k : Int) (w : World) : Calls Tryz.prog 65 #[.int .i64 k] w fun e w' => PartsPost (formOf k).length (pfK (formOf k)) w e w' := by
  refine (raw_all k w).mono ?_
  rintro e w' ⟨g, ps, rfl, hg, hc, hp, hb⟩
  have hl := hp.len
  refine ⟨g, fun j => ps.getD j default, rfl, by rw [← hl]; exact parts_in hc, ?_, ?_, hb⟩
  · intro j hj
    exact pass_enters _ _ _ _ (hp.at j _ (List.getElem?_eq_getElem hj))
  · intro j hj W' d s' hb' _ hr hs
    have hpf : pfK (formOf k) j s' = passK (formOf k)[j] s' := by
      unfold pfK
      rw [List.getElem?_eq_getElem hj]
    rw [hpf]
    exact pass_in _ _ _ _ _ (hp.at j _ (List.getElem?_eq_getElem hj)) (form_grp k _ (List.getElem_mem hj)) hb' d s' hr hs

/-- split, of every type and all data. -/
theorem split_all (k : Int) (s : ByteArray) (hm : s.size ≤ maxLen) (W : World) : Calls Tryz.prog 36 #[.int .i64 k, .string s] W fun e w' => SplitPost (splitR k s) W e w' := by
  by_cases h : (0 ≤ k ∧ k ≤ 65535) ∧ s.size ≤ 2000
  · rw [splitR, if_pos h]
    exact split_in W (formOf k).length (form_len k).1 k h.1 s h.2 _ (parts_all k)
  · rw [split_none k s h]
    refine split_long W k s hm ?_
    by_cases hk : 0 ≤ k ∧ k ≤ 65535
    · exact .inr (by apply Decidable.byContradiction; intro hl; exact h ⟨hk, by omega⟩)
    · exact .inl (by simp; omega)
theorem right_all (k : Int) (s : ByteArray) (hm : s.size ≤ maxLen) (W : World) : Calls Tryz.prog 35 #[.int .i64 k, .string s] W fun e w' => e = .returned (.bool (splitR k s).isSome) ∧ Below W.heap.size W w' :=
  right_of (split_all k s hm) W
end Go.Proofs.YtdhcbaennpediaaGreatDoor

/- Small letters in the names of data, on bytes alone. -/
namespace Go.Proofs.YtdhcbaennpediaaGreatDoor
set_option linter.unusedVariables false
open Go.RowKit

theorem lowB_lowB (c : UInt8) : lowB (lowB c) = lowB c := by
  have h := lowB_toNat c
  apply UInt8.toNat_inj.1
  rw [lowB_toNat, h]
  split
  · rw [if_neg (by omega)]
  · rfl
def lowA (x : ByteArray) : ByteArray := ⟨(x.data.toList.map lowB).toArray⟩
theorem lowA_size (x : ByteArray) : (lowA x).size = x.size := by rw [lowA, ba_size, List.length_map, size_list]
theorem lowA_lowA (x : ByteArray) : lowA (lowA x) = lowA x := by
  apply ba_ext
  simp [lowA, lowB_lowB]
theorem lowA_nm {ls : List (List UInt8)} (h : OkN ls) : lowA (nm ls) = nm (lowN ls) := nm_low h
theorem lowA_name {x : ByteArray} (h : IsName x) : IsName (lowA x) := by
  obtain ⟨ls, ho, rfl⟩ := h
  exact ⟨lowN ls, ho.low, lowA_nm ho⟩

def isNm : PK → Bool
  | .name => true
  | _ => false
def lowX (p : PK) (x : ByteArray) : ByteArray := if isNm p then lowA x else x
theorem lowX_size (p : PK) (x : ByteArray) : (lowX p x).size = x.size := by
  unfold lowX
  split
  · exact lowA_size x
  · rfl
theorem lowX_lowX (p : PK) (x : ByteArray) : lowX p (lowX p x) = lowX p x := by
  unfold lowX
  split
  · exact lowA_lowA x
  · rfl
theorem lowX_good (p : PK) (x : ByteArray) (h : Good p x) : Good p (lowX p x) := by
  cases p <;> first | exact h | exact lowA_name h

def lowXs : List PK → List ByteArray → List ByteArray
  | p :: F, x :: xs => lowX p x :: lowXs F xs
  | _, xs => xs
theorem lowXs_good : ∀ (F : List PK) (xs : List ByteArray), AllGood F xs → AllGood F (lowXs F xs)
  | [], [], _ => trivial
  | p :: F, x :: xs, h => ⟨lowX_good p x h.1, lowXs_good F xs h.2⟩
  | [], _ :: _, h => h.elim
  | _ :: _, [], h => h.elim
theorem lowXs_size : ∀ (F : List PK) (xs : List ByteArray), (cat (lowXs F xs)).size = (cat xs).size
  | [], _ => rfl
  | _ :: _, [] => rfl
  | p :: F, x :: xs => by rw [lowXs, cat, cat, app_size, app_size, lowX_size, lowXs_size F xs]
theorem lowXs_twice : ∀ (F : List PK) (xs : List ByteArray), lowXs F (lowXs F xs) = lowXs F xs
  | [], _ => rfl
  | _ :: _, [] => rfl
  | p :: F, x :: xs => by rw [lowXs, lowXs, lowX_lowX, lowXs_twice F xs]

/-- types whose names are of other owners of records. -/
def nameds (k : Int) : Bool := k == 2 || k == 5 || k == 39 || k == 6 || k == 15
def lowers (k : Int) : Bool := nameds k || k == 46
noncomputable def lowR (k : Int) (s : ByteArray) : ByteArray := if lowers k then (match splitR k s with
  | none => s
  | some xs => cat (lowXs (formOf k) xs)) else s
def nmsOf : List PK → List ByteArray → List ByteArray
  | p :: F, x :: xs => if isNm p then x :: nmsOf F xs else nmsOf F xs
  | _, _ => []
noncomputable def namesR (k : Int) (s : ByteArray) : List ByteArray := if nameds k then (match splitR k s with
  | none => []
  | some xs => nmsOf (formOf k) xs) else []
theorem nmsOf_low : ∀ (F : List PK) (xs : List ByteArray), (nmsOf F (lowXs F xs)).length = (nmsOf F xs).length
  | [], xs => by cases xs <;> rfl
  | _ :: _, [] => rfl
  | p :: F, x :: xs => by
    rw [lowXs, nmsOf, nmsOf]
    split
    · simp [nmsOf_low F xs]
    · exact nmsOf_low F xs

theorem lowR_split (k : Int) (s : ByteArray) (xs : List ByteArray) (hl : lowers k = true) (h : splitR k s = some xs) : lowR k s = cat (lowXs (formOf k) xs) ∧ splitR k (lowR k s) = some (lowXs (formOf k) xs) := by
  have e : lowR k s = cat (lowXs (formOf k) xs) := by
    rw [lowR, if_pos hl, h]
  refine ⟨e, ?_⟩
  obtain ⟨hk, hs, rfl, hg⟩ := (split_iff k s xs).1 h
  rw [e]
  exact (split_iff k _ _).2 ⟨hk, by rw [lowXs_size]; exact hs, rfl, lowXs_good _ _ hg⟩
theorem lowR_none (k : Int) (s : ByteArray) (h : splitR k s = none) : lowR k s = s := by
  rw [lowR, h]
  split <;> rfl
theorem lowR_size (k : Int) (s : ByteArray) : (lowR k s).size = s.size := by
  cases hl : lowers k with
  | false => rw [lowR, hl]; rfl
  | true =>
    cases h : splitR k s with
    | none => rw [lowR_none k s h]
    | some xs =>
      rw [(lowR_split k s xs hl h).1, lowXs_size]
      obtain ⟨_, _, rfl, _⟩ := (split_iff k s xs).1 h
      rfl
theorem lowR_twice (k : Int) (s : ByteArray) : lowR k (lowR k s) = lowR k s := by
  cases hl : lowers k with
  | false => rw [lowR, hl]; rfl
  | true =>
    cases h : splitR k s with
    | none => rw [lowR_none k s h, lowR_none k s h]
    | some xs =>
      obtain ⟨h1, h2⟩ := lowR_split k s xs hl h
      rw [(lowR_split k _ _ hl h2).1, lowXs_twice, h1]
theorem lowR_right (k : Int) (s : ByteArray) : (splitR k (lowR k s)).isSome = (splitR k s).isSome := by
  cases hl : lowers k with
  | false => rw [lowR, hl]; rfl
  | true =>
    cases h : splitR k s with
    | none => rw [lowR_none k s h, h]
    | some xs => rw [(lowR_split k s xs hl h).2]; rfl
theorem lowR_names (k : Int) (s : ByteArray) : (namesR k (lowR k s)).length = (namesR k s).length := by
  unfold namesR
  cases hn : nameds k with
  | false => rfl
  | true =>
    have hl : lowers k = true := by rw [lowers, hn]; rfl
    cases h : splitR k s with
    | none => rw [lowR_none k s h, h]
    | some xs =>
      rw [(lowR_split k s xs hl h).2]
      exact nmsOf_low _ _
end Go.Proofs.YtdhcbaennpediaaGreatDoor

/- Names and Lower, of every type. -/
namespace Go.Proofs.YtdhcbaennpediaaGreatDoor
set_option linter.unusedVariables false
open Go.RowKit

theorem row_store {W : World} {base n cap g j : Nat} {e : TypeId} {xs : List Value} (h : W.ownsRow base e 1 (.slice (some ⟨g, 0, none⟩) n cap) n xs) (hn : 0 < n) (u : Value) : (W.setCell ⟨g, j, none⟩ u).ownsRow base e 1 (.slice (some ⟨g, 0, none⟩) n cap) n (xs.set j u) := by
  obtain ⟨h1, h2⟩ := h
  refine ⟨by rw [List.length_set]; exact h1, ?_⟩
  rcases h2 with ⟨_, h0⟩ | ⟨g', cap', cur, hv, hb, hg, hc, hm, hz, ht⟩
  · omega
  · cases hv
    have hs : (W.setCell ⟨g, j, none⟩ u).heap[g]? = some (.cells (cur.setIfInBounds j u) e (0, 0)) := by
      simp only [World.setCell, Array.getElem?_modify, hg]
      rfl
    refine .inr ⟨g, cap, _, rfl, hb, hs, hc, hm, by simpa using hz, ?_⟩
    rw [← ht, Array.toList_setIfInBounds, List.take_set]
theorem row_frozen {W : World} {base n cap g j : Nat} {e : TypeId} {xs : List Value} (h : W.ownsRow base e 1 (.slice (some ⟨g, 0, none⟩) n cap) n xs) (hn : 0 < n) : W.frozen? ⟨g, j, none⟩ = false ∧ g < W.heap.size ∧ base ≤ g := by
  rcases h.2 with ⟨_, h0⟩ | ⟨g', cap', cur, hv, hb, hg, _⟩
  · omega
  · cases hv
    exact ⟨by simp [World.frozen?, hg], box_lt hg, hb⟩

theorem part_name {n₀ : Nat} {W : World} {p : Part} {k : PK} (h : PartIs n₀ W p k) : p.name = isNm k := by
  cases k with
  | num n => obtain ⟨b, _, rfl, _⟩ := h; rfl
  | grp c w b s => obtain ⟨x, _, rfl, _⟩ := h; rfl
  | name => obtain rfl := h; rfl
  | type => obtain rfl := h; rfl
  | hex => obtain rfl := h; rfl
  | salt => obtain rfl := h; rfl
  | hash => obtain rfl := h; rfl
  | types => obtain rfl := h; rfl
  | any => obtain rfl := h; rfl
  | strs => obtain rfl := h; rfl

/-- what partsOf hands back, for who looks which parts are names. -/
theorem named_all (k : Int) (w : World) : Calls Tryz.prog 65 #[.int .i64 k] w fun e w' => ∃ g P, e = .returned (.slice (some ⟨g, 0, none⟩) (formOf k).length (formOf k).length) ∧ w.heap.size ≤ g ∧ PartsIn w' g (formOf k).length P ∧
    (∀ j (h : j < (formOf k).length), (P j).name = isNm (formOf k)[j]) ∧ Below w.heap.size w w' := by
  refine (raw_all k w).mono ?_
  rintro e w' ⟨g, ps, rfl, hg, hc, hp, hb⟩
  have hl := hp.len
  exact ⟨g, fun j => ps.getD j default, rfl, hg, by rw [← hl]; exact parts_in hc, fun j hj => part_name (hp.at j _ (List.getElem?_eq_getElem hj)), hb⟩

theorem nms_snoc : ∀ (F : List PK) (ps : List ByteArray) (m : Nat) (h : m < F.length) (h' : m < ps.length), nmsOf (F.take (m + 1)) (ps.take (m + 1)) = nmsOf (F.take m) (ps.take m) ++ (if isNm F[m] then [ps[m]] else [])
  | [], ps, m, h, _ => by simp at h
  | p :: F, [], m, _, h' => by simp at h'
  | p :: F, x :: xs, 0, _, _ => by
    simp only [List.take_succ_cons, List.take_zero, nmsOf, List.getElem_cons_zero, List.nil_append]
  | p :: F, x :: xs, m + 1, h, h' => by
    have := nms_snoc F xs m (by simpa using h) (by simpa using h')
    simp only [List.take_succ_cons, nmsOf, List.getElem_cons_succ] at this ⊢
    rw [this]
    split
    · simp
    · rfl
theorem nms_len : ∀ (F : List PK) (ps : List ByteArray), (nmsOf F ps).length ≤ ps.length
  | [], ps => by cases ps <;> simp [nmsOf]
  | _ :: _, [] => by simp [nmsOf]
  | p :: F, x :: xs => by
    have := nms_len F xs
    rw [nmsOf]
    split
    · simp; omega
    · simp; omega

/-- what Names hands back. -/
def NmsPost (l : List ByteArray) (W : World) (e : Ending) (w' : World) : Prop := (∃ v, e = .returned v ∧ w'.ownsRow W.heap.size 9 1 v l.length (baV l)) ∧ Below W.heap.size W w'

end Go.Proofs.YtdhcbaennpediaaGreatDoor

/- typeList.add: one type more. -/
namespace Go.Proofs.YtdhcbaennpediaaGreatDoor
set_option linter.unusedVariables false
open Go.RowKit

/-- the list in the making at block d: its bytes, where the bits of the last window begin, the last type. -/
def TL (W : World) (d : Nat) (L : List UInt8) (b : Nat) (last : Int) : Prop :=
  ∃ v, W.heap[d]? = some (.cells #[v, .int .i64 (b : Int), .int .i64 last] 124 (0, 0)) ∧ W.ownsRow (d + 1) 5 1 v L.length (Lib.byteCells L)

theorem newTypeList_in (w : World) : Calls Tryz.prog 73 #[] w fun e w' => e = .returned (boxV w.heap.size) ∧ TL w' w.heap.size [] 0 (-1) ∧ Below w.heap.size w w' := by
  go_enter Tryz.func73, Tryz.ntmps73
  go_wp2
  go_ret
  exact ⟨rfl, ⟨.slice none 0 0, heap_new _ _, World.ownsRow_nil ..⟩, (Below.refl _ _).alloc (Nat.le_refl _) _⟩

def slLen : Option Value → Nat
  | some (.slice _ n _) => n
  | _ => 0
theorem and255 (k : Nat) (hk : k ≤ 65535) : Go.bits BinOp.and IntKind.i64 (k : Int) 255 = ((k % 256 : Nat) : Int) := by
  have h1 : (BitVec.ofInt 64 (k : Int)).toNat = k := by
    rw [BitVec.ofInt_natCast, BitVec.toNat_ofNat]; exact Nat.mod_eq_of_lt (by omega)
  show IntKind.i64.wrap ((BitVec.ofInt 64 (k : Int) &&& BitVec.ofInt 64 (255 : Int)).toNat : Int) = _
  rw [BitVec.toNat_and, h1, show (BitVec.ofInt 64 (255 : Int)).toNat = 255 from rfl, show (255 : Nat) = 2 ^ 8 - 1 by decide, Nat.and_two_pow_sub_one_eq_mod k 8, IntKind.wrap_i64]
  omega

set_option maxRecDepth 10000 in
theorem add_no (W : World) (d : Nat) (L : List UInt8) (b : Nat) (last k : Int) (h : TL W d L b last) (hk : ¬ ((0 ≤ k ∧ k ≤ 65535) ∧ last < k)) :
    Calls Tryz.prog 74 #[boxV d, .int .i64 k] W fun e w' => e = .panicked mustV ∧ w' = W := by
  obtain ⟨v, hh, hrow⟩ := h
  obtain ⟨c2, _⟩ := cells_at (v := .int .i64 last) (j := 2) hh rfl
  by_cases h1 : 0 ≤ k ∧ k ≤ 65535
  · have hd : decide (0 ≤ k ∧ k ≤ 65535) = true := by simp [h1]
    have h2 : decide (last < k) = false := by
      rw [decide_eq_false_iff_not]
      exact fun e => hk ⟨h1, e⟩
    clear hk
    go_enter Tryz.func74, Tryz.ntmps74
    go_wp2_with fail
    refine (isType_in k _).mono ?_
    rintro e w1 ⟨rfl, rfl⟩
    rw [hd]
    go_wp2_with fail
    refine (must_no _).mono ?_
    rintro e w2 ⟨rfl, rfl⟩
    go_wp2
    exact ⟨rfl, rfl, rfl⟩
  · have hd : decide (0 ≤ k ∧ k ≤ 65535) = false := by simp; omega
    clear hk
    go_enter Tryz.func74, Tryz.ntmps74
    go_wp2_with fail
    refine (isType_in k _).mono ?_
    rintro e w1 ⟨rfl, rfl⟩
    rw [hd]
    go_wp2_with fail
    refine (must_no _).mono ?_
    rintro e w2 ⟨rfl, rfl⟩
    go_wp2
    exact ⟨rfl, rfl, rfl⟩

/-- what add makes of the bytes. -/
def addTail (L1 : List UInt8) (b1 k : Nat) : List UInt8 :=
  let L2 := L1 ++ List.replicate (b1 + k % 256 / 8 + 1 - L1.length) 0
  let L3 := L2.set (b1 + k % 256 / 8) (UInt8.ofNat ((L2.getD (b1 + k % 256 / 8) 0).toNat ||| 2 ^ (7 - k % 8)))
  L3.set (b1 - 1) (UInt8.ofNat (L3.length - b1))

theorem byte_cell {W : World} {base n c g : Nat} {l : List UInt8} (h : W.ownsRow base 5 1 (.slice (some ⟨g, 0, none⟩) n c) n (Lib.byteCells l)) (j : Nat) (hj : j < l.length) : W.cell? ⟨g, j, none⟩ = some (.int .u8 (l[j].toNat : Int)) := by
  have hn : l.length = n := by have := h.1; simpa [Lib.byteCells] using this
  rcases h.2 with ⟨_, h0⟩ | ⟨g', cap, cur, hv, _, hg, _, _, _, ht⟩
  · omega
  · cases hv
    have := Lib.cells_of_row (w := W) hg n j (.int .u8 (l[j].toNat : Int)) (by rw [Nat.mul_one] at ht; rw [ht]; simp [Lib.byteCells, hj])
    rwa [add_at] at this
theorem byteCells_set (l : List UInt8) (j : Nat) (b : UInt8) : (Lib.byteCells l).set j (.int .u8 (b.toNat : Int)) = Lib.byteCells (l.set j b) := by simp [Lib.byteCells, List.map_set]
theorem or_u8 (a c : Nat) (ha : a < 256) (hc : c < 256) : Go.bits BinOp.or IntKind.u8 (a : Int) (c : Int) = (((UInt8.ofNat (a ||| c)).toNat : Nat) : Int) := by
  have h1 : (BitVec.ofInt 8 (a : Int)).toNat = a := by
    rw [BitVec.ofInt_natCast, BitVec.toNat_ofNat]; exact Nat.mod_eq_of_lt (by omega)
  have h2 : (BitVec.ofInt 8 (c : Int)).toNat = c := by
    rw [BitVec.ofInt_natCast, BitVec.toNat_ofNat]; exact Nat.mod_eq_of_lt (by omega)
  show IntKind.u8.wrap ((BitVec.ofInt 8 (a : Int) ||| BitVec.ofInt 8 (c : Int)).toNat : Int) = _
  rw [BitVec.toNat_or, h1, h2, IntKind.wrap_u8, UInt8.toNat_ofNat']
  omega
theorem pow_lt8 (k : Nat) : 2 ^ (7 - k % 8) < 256 := Nat.lt_of_lt_of_le (Nat.pow_lt_pow_right (by omega) (by omega : 7 - k % 8 < 8)) (by decide)

set_option maxRecDepth 100000 in
set_option maxHeartbeats 2000000 in
theorem add_same (W : World) (d : Nat) (L : List UInt8) (b : Nat) (last : Int) (k : Nat) (h : TL W d L b last) (hk : k ≤ 65535) (hl : last < (k : Int)) (hL : L.length ≤ 10000) (hb1 : 1 ≤ b) (hb : b ≤ L.length) (hw : ((k / 256 : Nat) : Int) = last / 256) (hl0 : -1 ≤ last) :
    Calls Tryz.prog 74 #[boxV d, .int .i64 (k : Int)] W fun e w' => e = .returned (.tuple #[]) ∧ TL w' d (addTail L b k) b k ∧ Below d W w' := by
  obtain ⟨v, hh, hrow⟩ := h
  obtain ⟨i0, hi, hz0, hz1, hz2⟩ := info_parts info5
  have hmo : Tryz.prog.follows Departure.mixedOrders = true := by kernel_rfl
  have hd : decide (0 ≤ (k : Int) ∧ (k : Int) ≤ 65535) = true := by simp; omega
  obtain ⟨c2, _⟩ := cells_at (v := .int .i64 last) (j := 2) hh rfl
  obtain ⟨c1, _⟩ := cells_at (v := .int .i64 (b : Int)) (j := 1) hh rfl
  have hand := and255 k hk
  have hdl := box_lt hh
  obtain ⟨qv, cv, hqv⟩ := row_as hrow
  subst hqv
  obtain ⟨A, hA⟩ : ∃ A, A = b + k % 256 / 8 := ⟨_, rfl⟩
  have hwb : ((k : Int) / 256 != last / 256) = false := by rw [bne_eq_false_iff_eq]; omega
  clear hw
  have HAi : Hid ((b : Int) + (k : Int) % 256 / 8 = (A : Int)) := by rw [Hid]; omega
  have HA := Hid.mk hA
  have hA1 : A ≤ b + 31 := by omega
  have hA2 : b ≤ A := by omega
  clear hA
  go_enter Tryz.func74, Tryz.ntmps74
  go_wp2_with fail
  refine (isType_in k _).mono ?_
  rintro e w1 ⟨rfl, rfl⟩
  rw [hd]
  go_wp2_with fail
  refine (must_yes _).mono ?_
  rintro e w2 ⟨rfl, rfl⟩
  have HROW := Hid.mk hrow
  have HHH := Hid.mk hh
  clear hrow hh
  go_wp2
  rw [HAi.out]
  go_loopw [] (fun wr => ∃ n : Nat, L.length + n ≤ 10100 ∧ (n = 0 ∨ L.length + n ≤ A + 1) ∧ TL wr d (L ++ List.replicate n 0) b last ∧ Below d w2 wr ∧ d < wr.heap.size) (fun wr => A + 1 - slLen (wr.cell? ⟨d, 0, none⟩))
  case atStart => exact ⟨0, by omega, .inl rfl, ⟨_, HHH.out, by simpa using HROW.out⟩, Below.refl _ _, hdl⟩
  case round =>
    obtain ⟨n, hn, hn2, ⟨v, hh, hrow⟩, hbl, hdr⟩ := hrel
    obtain ⟨qw, cw, hqw⟩ := row_as hrow
    subst hqw
    have hlen : (L ++ List.replicate n 0).length = L.length + n := by simp
    rw [hlen] at hh hrow
    obtain ⟨c0, f0⟩ := cells_at (v := .slice qw (L.length + n) cw) (j := 0) hh rfl
    by_cases hlt : L.length + n ≤ A
    · have HL : Hid (∀ (G : Prop) (v1 : Value) (w3 : World), w3.ownsRow (d + 1) 5 1 v1 (L.length + n + 1) (Lib.byteCells (L ++ List.replicate n 0) ++ [.int .u8 0]) → (wr.alloc (.cells #[.int .u8 0] 5)).grownBy w3 (Value.slice qw (L.length + n) cw).ownBlock →
          (∀ q c, v1 = .slice q (L.length + n + 1) c → w3.heap[d]? = some (.cells #[.slice qw (L.length + n) cw, .int .i64 (b : Int), .int .i64 last] 124 (0, 0)) → w3.cell? ⟨d, 0, none⟩ = some (.slice qw (L.length + n) cw) → w3.frozen? ⟨d, 0, none⟩ = false → Below d w2 w3 → G) → G) := by
        intro G v1 w3 ho hg hG
        obtain ⟨q, c, hv⟩ := row_as ho
        have hne : some d ≠ (Value.slice qw (L.length + n) cw).ownBlock := fun e => by have := rowBaseB hrow d e.symm; omega
        have h3 := (hg.block d (by simp; omega) hne).trans ((alloc_old _ _ _ hdr).trans hh)
        obtain ⟨e1, e2⟩ := cells_at (v := .slice qw (L.length + n) cw) (j := 0) h3 rfl
        exact hG q c hv h3 e1 e2 ((hbl.alloc (by omega) _).grown hg (by simp; omega) (fun k hk => by have := rowBaseB hrow k hk; omega))
      go_wp2_with (at_builtin; refine wpList_append_own _ rfl _ _ 118 rfl (d + 1) 5 i0 (.int .u8 0) 1 1 Tryz.underlying118 hi hz0 hz1 hz2 rfl (by decide) _ _ _ rfl (row_alloc hrow _) ⟨wr.heap.size, 0, none⟩ 1 1 [.int .u8 0] rfl rfl (cell_one_new _ _ _) (by simp [Value.oneCell']) (by unfold maxLen; omega) (by omega) (by simp; omega) ?_; intro v1 w3 hown3 hgrow3 _; refine HL.out _ v1 w3 hown3 hgrow3 ?_; intro q3 cc3 hv3 hh3 c03 f03 hb3; subst hv3)
      have HST := Hid.mk (cells_put (j := 0) hh3 (.slice q3 (L.length + n + 1) cc3))
      have HSZ : Hid (d < w3.heap.size) := Nat.lt_of_lt_of_le hdl hb3.size
      have HRR : Hid (w3.ownsRow (d + 1) 5 1 (.slice q3 (L.length + n + 1) cc3) (L ++ List.replicate (n + 1) 0).length (Lib.byteCells (L ++ List.replicate (n + 1) 0))) := by
        have e1 : L ++ List.replicate (n + 1) (0 : UInt8) = (L ++ List.replicate n 0) ++ [0] := by rw [List.replicate_succ', List.append_assoc]
        have e2 : ((L ++ List.replicate n (0 : UInt8)) ++ [0]).length = L.length + n + 1 := by simp; omega
        rw [Hid, e1, byteCells_snoc, e2]
        exact hown3
      have HM1 : Hid (slLen (wr.cell? ⟨d, 0, none⟩) = L.length + n) := by rw [Hid, c0]; rfl
      clear hown3 hgrow3 HL hrow
      have HLT : Hid (A + 1 - slLen ((w3.setCell ⟨d, 0, none⟩ (.slice q3 (L.length + n + 1) cc3)).cell? ⟨d, 0, none⟩) < A + 1 - slLen (wr.cell? ⟨d, 0, none⟩)) := by
        rw [Hid, HM1.out, (cells_at (v := .slice q3 (L.length + n + 1) cc3) (j := 0) HST.out rfl).1]
        simp only [slLen]
        omega
      have hrelN : ∃ n' : Nat, L.length + n' ≤ 10100 ∧ (n' = 0 ∨ L.length + n' ≤ A + 1) ∧ TL (w3.setCell ⟨d, 0, none⟩ (.slice q3 (L.length + n + 1) cc3)) d (L ++ List.replicate n' 0) b last ∧ Below d w2 (w3.setCell ⟨d, 0, none⟩ (.slice q3 (L.length + n + 1) cc3)) ∧ d < (w3.setCell ⟨d, 0, none⟩ (.slice q3 (L.length + n + 1) cc3)).heap.size :=
        ⟨n + 1, by omega, .inr (by omega), ⟨_, HST.out, ownsRow_setCell_below HRR.out (a := ⟨d, 0, none⟩) (Nat.lt_succ_self d) _⟩, hb3.setCell (p := ⟨d, 0, none⟩) (Nat.le_refl _) _, by simp [World.setCell]; exact HSZ.out⟩
      go_wp2
      go_roundw
      case rel => exact hrelN
      case measure => exact HLT.out
    · have hn3 : n = A + 1 - L.length := by omega
      have hAl : A < (L ++ List.replicate n 0).length := by rw [hlen]; omega
      obtain ⟨g, cap, hgc⟩ := row_form hrow (by omega)
      cases hgc
      have HTL : Hid (addTail L b k = (((L ++ List.replicate n 0).set A (UInt8.ofNat ((L ++ List.replicate n (0 : UInt8))[A].toNat ||| 2 ^ (7 - k % 8)))).set (b - 1) (UInt8.ofNat (L.length + n - b)))) := by
        rw [Hid, addTail, ← HA.out, ← hn3, List.length_set, hlen, List.getD_eq_getElem?_getD, List.getElem?_eq_getElem hAl]
        rfl
      have hAc := byte_cell hrow A hAl
      obtain ⟨hAf, hgl, hgb⟩ := row_frozen (j := A) hrow (by omega)
      have hx := (L ++ List.replicate n (0 : UInt8))[A].toNat_lt
      have hst1 := row_store (j := A) hrow (by omega) (.int .u8 (((UInt8.ofNat ((L ++ List.replicate n (0 : UInt8))[A].toNat ||| 2 ^ (7 - k % 8))).toNat : Nat) : Int))
      rw [byteCells_set] at hst1
      have hor := or_u8 (L ++ List.replicate n (0 : UInt8))[A].toNat (2 ^ (7 - k % 8)) (by omega) (pow_lt8 k)
      have hAi0 : (0 : Int) ≤ (A : Int) := by omega
      have hAi1 : (A : Int) < ((L.length + n : Nat) : Int) := by omega
      have hdg : d ≠ g := by omega
      have hor3 : Go.bits BinOp.or IntKind.u8 ((L ++ List.replicate n (0 : UInt8))[A].toNat : Int) (2 ^ (7 - k % 8) % 256) = (((UInt8.ofNat ((L ++ List.replicate n (0 : UInt8))[A].toNat ||| 2 ^ (7 - k % 8))).toNat : Nat) : Int) := by
        have e : ((2 : Int) ^ (7 - k % 8) % 256) = ((2 ^ (7 - k % 8) : Nat) : Int) := by
          have hpw := pow_lt8 k
          have e2 : (2 : Int) ^ (7 - k % 8) = ((2 ^ (7 - k % 8) : Nat) : Int) := by push_cast; rfl
          rw [e2]
          generalize 2 ^ (7 - k % 8) = q at hpw
          omega
        rw [e]
        exact hor
      have hr0 : (0 : Int) ≤ 7 - (k : Int).tmod 8 := by rw [Int.tmod_eq_emod_of_nonneg (by omega)]; omega
      clear hlen hor
      generalize (L ++ List.replicate n (0 : UInt8))[A].toNat = x at hAc hx hst1 hor3 HTL
      generalize L ++ List.replicate n (0 : UInt8) = L2 at hst1 hrow hAl HTL
      have HST1 := Hid.mk hst1
      have HRW := Hid.mk hrow
      clear hst1 hrow hn2 hn3 hlt
      go_wp2
      have HOR := Hid.mk hor3
      clear hor3
      go_region
      rw [HOR.out]
      obtain ⟨y, hy⟩ : ∃ y, (UInt8.ofNat (x ||| 2 ^ (7 - k % 8))) = y := ⟨_, rfl⟩
      rw [hy] at HST1 HTL ⊢
      obtain ⟨W5, hW5⟩ : ∃ W5, W5 = (wr.setCell ⟨g, A, none⟩ (.int .u8 (y.toNat : Int))).drew := ⟨_, rfl⟩
      rw [← hW5]
      have hh5 : W5.heap[d]? = some (.cells #[.slice (some ⟨g, 0, none⟩) (L.length + n) cw, .int .i64 (b : Int), .int .i64 last] 124 (0, 0)) := by
        rw [hW5]
        exact (Below.heap_setCell wr ⟨g, A, none⟩ _ d hdg).trans hh
      have hrow5 : W5.ownsRow (d + 1) 5 1 (.slice (some ⟨g, 0, none⟩) (L.length + n) cw) (L.length + n) (Lib.byteCells (L2.set A y)) := by rw [hW5]; exact HST1.out
      have hbl5 : Below d w2 W5 := by rw [hW5]; exact (hbl.setCell (p := ⟨g, A, none⟩) (by simp; omega) _).drew
      obtain ⟨e0, _⟩ := cells_at (v := .slice (some ⟨g, 0, none⟩) (L.length + n) cw) (j := 0) hh5 rfl
      obtain ⟨e1, _⟩ := cells_at (v := .int .i64 (b : Int)) (j := 1) hh5 rfl
      obtain ⟨e2, f2⟩ := cells_at (v := .int .i64 last) (j := 2) hh5 rfl
      have hL2 : (L2.set A y).length = L.length + n := by
        have := hrow5.1
        simpa [Lib.byteCells] using this
      have hbc := byte_cell hrow5 (b - 1) (by omega)
      obtain ⟨hbf, _, _⟩ := row_frozen (j := b - 1) hrow5 (by omega)
      have hst2 := row_store (j := b - 1) hrow5 (by omega) (.int .u8 (((UInt8.ofNat (L.length + n - b)).toNat : Nat) : Int))
      rw [byteCells_set] at hst2
      have HST2 := Hid.mk hst2
      have HH5 := Hid.mk hh5
      have HL2 := Hid.mk hL2
      have hbi : ((b : Int) - 1) = ((b - 1 : Nat) : Int) := by omega
      have hbi0 : (0 : Int) ≤ (b : Int) - 1 := by omega
      have hbi1 : (b : Int) - 1 < ((L.length + n : Nat) : Int) := by omega
      have hcvb : IntKind.u8.wrap (((L.length + n : Nat) : Int) - (b : Int)) = (((UInt8.ofNat (L.length + n - b)).toNat : Nat) : Int) := wrapu8 _ _ (by omega)
      generalize (L2.set A y)[b - 1]'(by omega) = z at hbc
      clear hst2 hrow5 hh5 hL2 HST1 HRW HOR hW5 hh hAc hAf c0 f0
      have HVL : Hid (((L.length : Int) + (n : Int) - (b : Int)) % 256 = (((UInt8.ofNat (L.length + n - b)).toNat : Nat) : Int)) := by
        rw [Hid, UInt8.toNat_ofNat']
        omega
      go_wp2
      go_region
      rw [HVL.out]
      obtain ⟨W6, hW6⟩ : ∃ W6, W6 = (W5.setCell ⟨g, b - 1, none⟩ (.int .u8 (((UInt8.ofNat (L.length + n - b)).toNat : Nat) : Int))).drew := ⟨_, rfl⟩
      rw [← hW6]
      have hh6 : W6.heap[d]? = some (.cells #[.slice (some ⟨g, 0, none⟩) (L.length + n) cw, .int .i64 (b : Int), .int .i64 last] 124 (0, 0)) := by
        rw [hW6]
        exact (Below.heap_setCell W5 ⟨g, b - 1, none⟩ _ d hdg).trans HH5.out
      have hrow6 : W6.ownsRow (d + 1) 5 1 (.slice (some ⟨g, 0, none⟩) (L.length + n) cw) (addTail L b k).length (Lib.byteCells (addTail L b k)) := by
        rw [HTL.out, List.length_set, HL2.out, hW6]
        exact HST2.out
      have hbl6 : Below d w2 W6 := by rw [hW6]; exact (hbl5.setCell (p := ⟨g, b - 1, none⟩) (by simp; omega) _).drew
      have hlt6 : (addTail L b k).length = L.length + n := by rw [HTL.out, List.length_set, HL2.out]
      obtain ⟨c62, f62⟩ := cells_at (v := .int .i64 last) (j := 2) hh6 rfl
      have HP6 := Hid.mk (cells_put (j := 2) hh6 (.int .i64 (k : Int)))
      have HR6 := Hid.mk hrow6
      have HT6 := Hid.mk hlt6
      clear hrow6 hh6 hW6 hlt6 HTL e0 e1 e2 f2 hbc hbf
      go_wp2
      refine bodyPost_end (results_none rfl _ _ _) rfl ⟨rfl, ⟨_, HP6.out, ?_⟩, hbl6.setCell (p := ⟨d, 2, none⟩) (Nat.le_refl _) _⟩
      exact ownsRow_setCell_below HR6.out (a := ⟨d, 2, none⟩) (Nat.lt_succ_self d) _
end Go.Proofs.YtdhcbaennpediaaGreatDoor

/- typeList.add: one type more, in a new window. -/
namespace Go.Proofs.YtdhcbaennpediaaGreatDoor
set_option linter.unusedVariables false
open Go.RowKit

set_option maxRecDepth 100000 in
set_option maxHeartbeats 2000000 in
theorem add_new (W : World) (d : Nat) (L : List UInt8) (b : Nat) (last : Int) (k : Nat) (h : TL W d L b last) (hk : k ≤ 65535) (hl : last < (k : Int)) (hL0 : L.length ≤ 9900) (hw : ¬ ((k / 256 : Nat) : Int) = last / 256) (hl0 : -1 ≤ last) :
    Calls Tryz.prog 74 #[boxV d, .int .i64 (k : Int)] W fun e w' => e = .returned (.tuple #[]) ∧ TL w' d (addTail (L ++ [UInt8.ofNat (k / 256), 0]) (L.length + 2) k) (L.length + 2) k ∧ Below d W w' := by
  obtain ⟨L1, hL1⟩ : ∃ L1, L ++ [UInt8.ofNat (k / 256), 0] = L1 := ⟨_, rfl⟩
  obtain ⟨b1, hb1e⟩ : ∃ b1, L.length + 2 = b1 := ⟨_, rfl⟩
  have hL1l : L1.length = b1 := by rw [← hL1, ← hb1e]; simp
  have hL : L1.length ≤ 10000 := by omega
  have hb1 : 1 ≤ b1 := by omega
  have hb : b1 ≤ L1.length := by omega
  rw [hL1, hb1e]
  have HL1 := Hid.mk hL1
  have HB1E := Hid.mk hb1e
  have HL1L := Hid.mk hL1l
  obtain ⟨A, hA⟩ : ∃ A, A = b1 + k % 256 / 8 := ⟨_, rfl⟩
  have HAi : Hid ((b1 : Int) + (k : Int) % 256 / 8 = (A : Int)) := by rw [Hid]; omega
  have HA := Hid.mk hA
  have hA1 : A ≤ b1 + 31 := by omega
  have hA2 : b1 ≤ A := by omega
  have HCA : Hid ((L.length : Int) + 2 = (b1 : Int)) := by rw [Hid]; omega
  clear hA hL1 hb1e hL1l
  obtain ⟨v, hh, hrow⟩ := h
  obtain ⟨i0, hi, hz0, hz1, hz2⟩ := info_parts info5
  have hmo : Tryz.prog.follows Departure.mixedOrders = true := by kernel_rfl
  have hd : decide (0 ≤ (k : Int) ∧ (k : Int) ≤ 65535) = true := by simp; omega
  obtain ⟨c2, _⟩ := cells_at (v := .int .i64 last) (j := 2) hh rfl
  have hand := and255 k hk
  have hdl := box_lt hh
  obtain ⟨qv, cv, hqv⟩ := row_as hrow
  subst hqv
  obtain ⟨c0, f0⟩ := cells_at (v := .slice qv L.length cv) (j := 0) hh rfl
  have hwb : ((k : Int) / 256 != last / 256) = true := by rw [bne_iff_ne]; omega
  have hu8 : IntKind.u8.wrap ((k : Int) / 256) = (((UInt8.ofNat (k / 256)).toNat : Nat) : Int) := wrapu8 _ _ (by omega)
  clear hw
  have HL : Hid (∀ (G : Prop) (v1 : Value) (w3 : World) (o : Obj), w3.ownsRow (d + 1) 5 1 v1 (L.length + 2) (Lib.byteCells L ++ [.int .u8 (((UInt8.ofNat (k / 256)).toNat : Nat) : Int), .int .u8 0]) → (W.alloc o).grownBy w3 (Value.slice qv L.length cv).ownBlock →
      (∀ q c, v1 = .slice q (L.length + 2) c → w3.cell? ⟨d, 0, none⟩ = some (.slice qv L.length cv) → w3.frozen? ⟨d, 0, none⟩ = false → Below d W w3 →
        (∀ u, (w3.setCell ⟨d, 0, none⟩ u).cell? ⟨d, 0, none⟩ = some u) → (∀ u, (w3.setCell ⟨d, 0, none⟩ u).cell? ⟨d, 1, none⟩ = some (.int .i64 (b : Int))) → (∀ u, (w3.setCell ⟨d, 0, none⟩ u).frozen? ⟨d, 1, none⟩ = false) →
        (∀ u x, ((w3.setCell ⟨d, 0, none⟩ u).setCell ⟨d, 1, none⟩ x).cell? ⟨d, 1, none⟩ = some x) → (∀ u x, ((w3.setCell ⟨d, 0, none⟩ u).setCell ⟨d, 1, none⟩ x).heap[d]? = some (.cells #[u, x, .int .i64 last] 124 (0, 0))) → G) → G) := by
    intro G v1 w3 o ho hg hG
    obtain ⟨q, c, hv⟩ := row_as ho
    have hne : some d ≠ (Value.slice qv L.length cv).ownBlock := fun e => by have := rowBaseB hrow d e.symm; omega
    have h3 := (hg.block d (by simp; omega) hne).trans ((alloc_old _ _ _ hdl).trans hh)
    obtain ⟨e1, e2⟩ := cells_at (v := .slice qv L.length cv) (j := 0) h3 rfl
    have p1 := fun u => cells_put (j := 0) h3 u
    have p2 := fun u x => cells_put (j := 1) (p1 u) x
    exact hG q c hv e1 e2 (((Below.refl _ _).alloc (by omega) _).grown hg (by simp; omega) (fun k hk => by have := rowBaseB hrow k hk; omega)) (fun u => (cells_at (p1 u) rfl).1) (fun u => (cells_at (p1 u) rfl).1) (fun u => (cells_at (v := .int .i64 (b : Int)) (p1 u) rfl).2) (fun u x => (cells_at (p2 u x) rfl).1) (fun u x => p2 u x)
  go_enter Tryz.func74, Tryz.ntmps74
  go_wp2_with fail
  refine (isType_in k _).mono ?_
  rintro e w1 ⟨rfl, rfl⟩
  rw [hd]
  go_wp2_with fail
  refine (must_yes _).mono ?_
  rintro e w2 ⟨rfl, rfl⟩
  have hrwA : ∀ o, (w2.alloc o).ownsRow (d + 1) 5 1 (.slice qv L.length cv) L.length (Lib.byteCells L) := fun o => row_alloc hrow o
  have HHH := Hid.mk hh
  clear hrow hh
  go_wp2_with (at_builtin; refine wpList_append_own _ rfl _ _ 118 rfl (d + 1) 5 i0 (.int .u8 0) 1 1 Tryz.underlying118 hi hz0 hz1 hz2 rfl (by decide) _ _ _ rfl (hrwA _) ⟨w2.heap.size, 0, none⟩ 2 2 [.int .u8 (((UInt8.ofNat (k / 256)).toNat : Nat) : Int), .int .u8 0] rfl rfl (fun j u hj => cells_new1 _ _ _ j u hj) (by simp [Value.oneCell']) (by unfold maxLen; omega) (by omega) (by simp; omega) ?_; intro v1 w3 hown3 hgrow3 _; refine HL.out _ v1 w3 _ hown3 hgrow3 ?_; intro q3 cc3 hv3 c03 f03 hb3 g1 g2 g3 g4 g5; subst hv3)
  rw [HCA.out, HAi.out]
  obtain ⟨W2, hW2⟩ : ∃ W2, W2 = ((w3.setCell ⟨d, 0, none⟩ (.slice q3 (L.length + 2) cc3)).setCell ⟨d, 1, none⟩ (.int .i64 (b1 : Int))) := ⟨_, rfl⟩
  rw [← hW2]
  have HTL2 : Hid (TL W2 d L1 b1 last) := by
    refine ⟨.slice q3 (L.length + 2) cc3, by rw [hW2]; exact g5 _ _, ?_⟩
    rw [hW2, HL1L.out, ← HL1.out]
    have hx := ownsRow_setCell_below (ownsRow_setCell_below hown3 (a := ⟨d, 0, none⟩) (Nat.lt_succ_self d) (.slice q3 (L.length + 2) cc3)) (a := ⟨d, 1, none⟩) (Nat.lt_succ_self d) (.int .i64 (b1 : Int))
    rw [byteCells_snoc, ← HB1E.out]
    rw [← HB1E.out] at hx
    exact hx
  have HB2 : Hid (Below d w2 W2) := by
    rw [Hid, hW2]
    exact (hb3.setCell (p := ⟨d, 0, none⟩) (Nat.le_refl _) _).setCell (p := ⟨d, 1, none⟩) (Nat.le_refl _) _
  have hdl2 : d < W2.heap.size := Nat.lt_of_lt_of_le hdl HB2.out.size
  clear hown3 hgrow3 HL hrwA HHH hW2 c0 f0 c2 c03 f03 hb3 g1 g2 g3 g4 g5 hu8
  go_loopw [] (fun wr => ∃ n : Nat, L1.length + n ≤ 10100 ∧ (n = 0 ∨ L1.length + n ≤ A + 1) ∧ TL wr d (L1 ++ List.replicate n 0) b1 last ∧ Below d W2 wr ∧ d < wr.heap.size) (fun wr => A + 1 - slLen (wr.cell? ⟨d, 0, none⟩))
  case atStart => exact ⟨0, by omega, .inl rfl, by simpa using HTL2.out, Below.refl _ _, hdl2⟩
  case round =>
    obtain ⟨n, hn, hn2, ⟨v, hh, hrow⟩, hbl, hdr⟩ := hrel
    obtain ⟨qw, cw, hqw⟩ := row_as hrow
    subst hqw
    have hlen : (L1 ++ List.replicate n 0).length = L1.length + n := by simp
    rw [hlen] at hh hrow
    obtain ⟨c0, f0⟩ := cells_at (v := .slice qw (L1.length + n) cw) (j := 0) hh rfl
    by_cases hlt : L1.length + n ≤ A
    · have HL : Hid (∀ (G : Prop) (v1 : Value) (w3 : World), w3.ownsRow (d + 1) 5 1 v1 (L1.length + n + 1) (Lib.byteCells (L1 ++ List.replicate n 0) ++ [.int .u8 0]) → (wr.alloc (.cells #[.int .u8 0] 5)).grownBy w3 (Value.slice qw (L1.length + n) cw).ownBlock →
          (∀ q c, v1 = .slice q (L1.length + n + 1) c → w3.heap[d]? = some (.cells #[.slice qw (L1.length + n) cw, .int .i64 (b1 : Int), .int .i64 last] 124 (0, 0)) → w3.cell? ⟨d, 0, none⟩ = some (.slice qw (L1.length + n) cw) → w3.frozen? ⟨d, 0, none⟩ = false → Below d W2 w3 → G) → G) := by
        intro G v1 w3 ho hg hG
        obtain ⟨q, c, hv⟩ := row_as ho
        have hne : some d ≠ (Value.slice qw (L1.length + n) cw).ownBlock := fun e => by have := rowBaseB hrow d e.symm; omega
        have h3 := (hg.block d (by simp; omega) hne).trans ((alloc_old _ _ _ hdr).trans hh)
        obtain ⟨e1, e2⟩ := cells_at (v := .slice qw (L1.length + n) cw) (j := 0) h3 rfl
        exact hG q c hv h3 e1 e2 ((hbl.alloc (by omega) _).grown hg (by simp; omega) (fun k hk => by have := rowBaseB hrow k hk; omega))
      go_wp2_with (at_builtin; refine wpList_append_own _ rfl _ _ 118 rfl (d + 1) 5 i0 (.int .u8 0) 1 1 Tryz.underlying118 hi hz0 hz1 hz2 rfl (by decide) _ _ _ rfl (row_alloc hrow _) ⟨wr.heap.size, 0, none⟩ 1 1 [.int .u8 0] rfl rfl (cell_one_new _ _ _) (by simp [Value.oneCell']) (by unfold maxLen; omega) (by omega) (by simp; omega) ?_; intro v1 w3 hown3 hgrow3 _; refine HL.out _ v1 w3 hown3 hgrow3 ?_; intro q3 cc3 hv3 hh3 c03 f03 hb3; subst hv3)
      have HST := Hid.mk (cells_put (j := 0) hh3 (.slice q3 (L1.length + n + 1) cc3))
      have HSZ : Hid (d < w3.heap.size) := Nat.lt_of_lt_of_le hdl2 hb3.size
      have HRR : Hid (w3.ownsRow (d + 1) 5 1 (.slice q3 (L1.length + n + 1) cc3) (L1 ++ List.replicate (n + 1) 0).length (Lib.byteCells (L1 ++ List.replicate (n + 1) 0))) := by
        have e1 : L1 ++ List.replicate (n + 1) (0 : UInt8) = (L1 ++ List.replicate n 0) ++ [0] := by rw [List.replicate_succ', List.append_assoc]
        have e2 : ((L1 ++ List.replicate n (0 : UInt8)) ++ [0]).length = L1.length + n + 1 := by simp; omega
        rw [Hid, e1, byteCells_snoc, e2]
        exact hown3
      have HM1 : Hid (slLen (wr.cell? ⟨d, 0, none⟩) = L1.length + n) := by rw [Hid, c0]; rfl
      clear hown3 hgrow3 HL hrow
      have HLT : Hid (A + 1 - slLen ((w3.setCell ⟨d, 0, none⟩ (.slice q3 (L1.length + n + 1) cc3)).cell? ⟨d, 0, none⟩) < A + 1 - slLen (wr.cell? ⟨d, 0, none⟩)) := by
        rw [Hid, HM1.out, (cells_at (v := .slice q3 (L1.length + n + 1) cc3) (j := 0) HST.out rfl).1]
        simp only [slLen]
        omega
      have hrelN : ∃ n' : Nat, L1.length + n' ≤ 10100 ∧ (n' = 0 ∨ L1.length + n' ≤ A + 1) ∧ TL (w3.setCell ⟨d, 0, none⟩ (.slice q3 (L1.length + n + 1) cc3)) d (L1 ++ List.replicate n' 0) b1 last ∧ Below d W2 (w3.setCell ⟨d, 0, none⟩ (.slice q3 (L1.length + n + 1) cc3)) ∧ d < (w3.setCell ⟨d, 0, none⟩ (.slice q3 (L1.length + n + 1) cc3)).heap.size :=
        ⟨n + 1, by omega, .inr (by omega), ⟨_, HST.out, ownsRow_setCell_below HRR.out (a := ⟨d, 0, none⟩) (Nat.lt_succ_self d) _⟩, hb3.setCell (p := ⟨d, 0, none⟩) (Nat.le_refl _) _, by simp [World.setCell]; exact HSZ.out⟩
      go_wp2
      go_roundw
      case rel => exact hrelN
      case measure => exact HLT.out
    · have hn3 : n = A + 1 - L1.length := by omega
      have hAl : A < (L1 ++ List.replicate n 0).length := by rw [hlen]; omega
      obtain ⟨g, cap, hgc⟩ := row_form hrow (by omega)
      cases hgc
      have HTL : Hid (addTail L1 b1 k = (((L1 ++ List.replicate n 0).set A (UInt8.ofNat ((L1 ++ List.replicate n (0 : UInt8))[A].toNat ||| 2 ^ (7 - k % 8)))).set (b1 - 1) (UInt8.ofNat (L1.length + n - b1)))) := by
        rw [Hid, addTail, ← HA.out, ← hn3, List.length_set, hlen, List.getD_eq_getElem?_getD, List.getElem?_eq_getElem hAl]
        rfl
      have hAc := byte_cell hrow A hAl
      obtain ⟨hAf, hgl, hgb⟩ := row_frozen (j := A) hrow (by omega)
      have hx := (L1 ++ List.replicate n (0 : UInt8))[A].toNat_lt
      have hst1 := row_store (j := A) hrow (by omega) (.int .u8 (((UInt8.ofNat ((L1 ++ List.replicate n (0 : UInt8))[A].toNat ||| 2 ^ (7 - k % 8))).toNat : Nat) : Int))
      rw [byteCells_set] at hst1
      have hor := or_u8 (L1 ++ List.replicate n (0 : UInt8))[A].toNat (2 ^ (7 - k % 8)) (by omega) (pow_lt8 k)
      have hAi0 : (0 : Int) ≤ (A : Int) := by omega
      have hAi1 : (A : Int) < ((L1.length + n : Nat) : Int) := by omega
      have hdg : d ≠ g := by omega
      have hor3 : Go.bits BinOp.or IntKind.u8 ((L1 ++ List.replicate n (0 : UInt8))[A].toNat : Int) (2 ^ (7 - k % 8) % 256) = (((UInt8.ofNat ((L1 ++ List.replicate n (0 : UInt8))[A].toNat ||| 2 ^ (7 - k % 8))).toNat : Nat) : Int) := by
        have e : ((2 : Int) ^ (7 - k % 8) % 256) = ((2 ^ (7 - k % 8) : Nat) : Int) := by
          have hpw := pow_lt8 k
          have e2 : (2 : Int) ^ (7 - k % 8) = ((2 ^ (7 - k % 8) : Nat) : Int) := by push_cast; rfl
          rw [e2]
          generalize 2 ^ (7 - k % 8) = q at hpw
          omega
        rw [e]
        exact hor
      have hr0 : (0 : Int) ≤ 7 - (k : Int).tmod 8 := by rw [Int.tmod_eq_emod_of_nonneg (by omega)]; omega
      clear hlen hor
      generalize (L1 ++ List.replicate n (0 : UInt8))[A].toNat = x at hAc hx hst1 hor3 HTL
      generalize L1 ++ List.replicate n (0 : UInt8) = L2 at hst1 hrow hAl HTL
      have HST1 := Hid.mk hst1
      have HRW := Hid.mk hrow
      clear hst1 hrow hn2 hn3 hlt
      go_wp2
      have HOR := Hid.mk hor3
      clear hor3
      go_region
      rw [HOR.out]
      obtain ⟨y, hy⟩ : ∃ y, (UInt8.ofNat (x ||| 2 ^ (7 - k % 8))) = y := ⟨_, rfl⟩
      rw [hy] at HST1 HTL ⊢
      obtain ⟨W5, hW5⟩ : ∃ W5, W5 = (wr.setCell ⟨g, A, none⟩ (.int .u8 (y.toNat : Int))).drew := ⟨_, rfl⟩
      rw [← hW5]
      have hh5 : W5.heap[d]? = some (.cells #[.slice (some ⟨g, 0, none⟩) (L1.length + n) cw, .int .i64 (b1 : Int), .int .i64 last] 124 (0, 0)) := by
        rw [hW5]
        exact (Below.heap_setCell wr ⟨g, A, none⟩ _ d hdg).trans hh
      have hrow5 : W5.ownsRow (d + 1) 5 1 (.slice (some ⟨g, 0, none⟩) (L1.length + n) cw) (L1.length + n) (Lib.byteCells (L2.set A y)) := by rw [hW5]; exact HST1.out
      have hbl5 : Below d W2 W5 := by rw [hW5]; exact (hbl.setCell (p := ⟨g, A, none⟩) (by simp; omega) _).drew
      obtain ⟨e0, _⟩ := cells_at (v := .slice (some ⟨g, 0, none⟩) (L1.length + n) cw) (j := 0) hh5 rfl
      obtain ⟨e1, _⟩ := cells_at (v := .int .i64 (b1 : Int)) (j := 1) hh5 rfl
      obtain ⟨e2, f2⟩ := cells_at (v := .int .i64 last) (j := 2) hh5 rfl
      have hL2 : (L2.set A y).length = L1.length + n := by
        have := hrow5.1
        simpa [Lib.byteCells] using this
      have hbc := byte_cell hrow5 (b1 - 1) (by omega)
      obtain ⟨hbf, _, _⟩ := row_frozen (j := b1 - 1) hrow5 (by omega)
      have hst2 := row_store (j := b1 - 1) hrow5 (by omega) (.int .u8 (((UInt8.ofNat (L1.length + n - b1)).toNat : Nat) : Int))
      rw [byteCells_set] at hst2
      have HST2 := Hid.mk hst2
      have HH5 := Hid.mk hh5
      have HL2 := Hid.mk hL2
      have hbi : ((b1 : Int) - 1) = ((b1 - 1 : Nat) : Int) := by omega
      have hbi0 : (0 : Int) ≤ (b1 : Int) - 1 := by omega
      have hbi1 : (b1 : Int) - 1 < ((L1.length + n : Nat) : Int) := by omega
      have hcvb : IntKind.u8.wrap (((L1.length + n : Nat) : Int) - (b1 : Int)) = (((UInt8.ofNat (L1.length + n - b1)).toNat : Nat) : Int) := wrapu8 _ _ (by omega)
      generalize (L2.set A y)[b1 - 1]'(by omega) = z at hbc
      clear hst2 hrow5 hh5 hL2 HST1 HRW HOR hW5 hh hAc hAf c0 f0
      have HVL : Hid (((L1.length : Int) + (n : Int) - (b1 : Int)) % 256 = (((UInt8.ofNat (L1.length + n - b1)).toNat : Nat) : Int)) := by
        rw [Hid, UInt8.toNat_ofNat']
        omega
      go_wp2
      go_region
      rw [HVL.out]
      obtain ⟨W6, hW6⟩ : ∃ W6, W6 = (W5.setCell ⟨g, b1 - 1, none⟩ (.int .u8 (((UInt8.ofNat (L1.length + n - b1)).toNat : Nat) : Int))).drew := ⟨_, rfl⟩
      rw [← hW6]
      have hh6 : W6.heap[d]? = some (.cells #[.slice (some ⟨g, 0, none⟩) (L1.length + n) cw, .int .i64 (b1 : Int), .int .i64 last] 124 (0, 0)) := by
        rw [hW6]
        exact (Below.heap_setCell W5 ⟨g, b1 - 1, none⟩ _ d hdg).trans HH5.out
      have hrow6 : W6.ownsRow (d + 1) 5 1 (.slice (some ⟨g, 0, none⟩) (L1.length + n) cw) (addTail L1 b1 k).length (Lib.byteCells (addTail L1 b1 k)) := by
        rw [HTL.out, List.length_set, HL2.out, hW6]
        exact HST2.out
      have hbl6 : Below d W2 W6 := by rw [hW6]; exact (hbl5.setCell (p := ⟨g, b1 - 1, none⟩) (by simp; omega) _).drew
      have hlt6 : (addTail L1 b1 k).length = L1.length + n := by rw [HTL.out, List.length_set, HL2.out]
      obtain ⟨c62, f62⟩ := cells_at (v := .int .i64 last) (j := 2) hh6 rfl
      have HP6 := Hid.mk (cells_put (j := 2) hh6 (.int .i64 (k : Int)))
      have HR6 := Hid.mk hrow6
      have HT6 := Hid.mk hlt6
      clear hrow6 hh6 hW6 hlt6 HTL e0 e1 e2 f2 hbc hbf
      go_wp2
      refine bodyPost_end (results_none rfl _ _ _) rfl ⟨rfl, ⟨_, HP6.out, ?_⟩, HB2.out.trans (hbl6.setCell (p := ⟨d, 2, none⟩) (Nat.le_refl _) _)⟩
      exact ownsRow_setCell_below HR6.out (a := ⟨d, 2, none⟩) (Nat.lt_succ_self d) _
end Go.Proofs.YtdhcbaennpediaaGreatDoor
