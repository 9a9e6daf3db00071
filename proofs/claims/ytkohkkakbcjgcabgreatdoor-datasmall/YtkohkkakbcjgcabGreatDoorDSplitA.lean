/- split and Right, of every type. -/
import Derived.Test.YtkohkkakbcjgcabGreatDoorDPartsB
import Derived.Test.YtkohkkakbcjgcabGreatDoorDPartsC
import Derived.Test.YtkohkkakbcjgcabGreatDoorDPartsD
import Derived.Test.YtkohkkakbcjgcabGreatDoorDPartsE
import Derived.Test.YtkohkkakbcjgcabGreatDoorDPartsF
import Derived.Test.YtkohkkakbcjgcabGreatDoorDFacts
namespace Go.Proofs.YtkohkkakbcjgcabGreatDoor
set_option linter.unusedVariables false
open Go.RowKit

theorem raw_all (k : Int) (w : World) : Calls Tryz.prog 47 #[.int .i64 k] w fun e w' => RawPost (formOf k) w e w' := by
  unfold formOf
  split
  · rename_i h; subst h; exact raw_A w
  · split
    · rename_i h; subst h; exact raw_AAAA w
    · split
      · rename_i h; exact raw_name k h w
      · split
        · rename_i h; subst h; exact raw_SOA w
        · split
          · rename_i h; subst h; exact raw_MX w
          · split
            · rename_i h; subst h; exact raw_TXT w
            · split
              · rename_i h
                rcases h with rfl | rfl
                · exact raw_DS w
                · exact raw_KEY w
              · split
                · rename_i h; subst h; exact raw_SIG w
                · split
                  · rename_i h; subst h; exact raw_NSEC w
                  · split
                    · rename_i h; subst h; exact raw_NSEC3 w
                    · refine raw_any k ?_ w
                      simp only [tabled, Bool.or_eq_false_iff, beq_eq_false_iff_ne]
                      omega

theorem typesPass_in (W : World) (d : Nat) (s : ByteArray) (hs : s.size ≤ 2000) (h : Rd W d s) :
    Calls Tryz.prog 109 #[boxV d] W fun e w' => PassPost (if (typesR s).isSome then some s.size else none) s d W w' e := by
  have T := Hid.mk (all_in W d s (by unfold maxLen; omega) h)
  have hr1 := Hid.mk (h.set ⟨#[]⟩)
  have hk1 := Hid.mk (Kept.set d 0 W (.string ⟨#[]⟩))
  have HT := Hid.mk (fun w => typesOf_in w s hs)
  have hec := Hid.mk (end_cut s)
  cases hr : typesR s with
  | some l =>
    rw [hr] at HT
    go_enter Tryz.func109, Tryz.ntmps109
    go_wp2_with fail
    refine T.out.mono ?_
    rintro e w1 ⟨rfl, rfl⟩
    go_wp2_with fail
    refine (HT.out _).mono ?_
    rintro e w2 ⟨⟨v, rfl, _⟩, hb2⟩
    go_wp2
    refine bodyPost_end (results_none rfl _ _ _) rfl ⟨Nat.le_refl _, rfl, ?_, hk1.out.trans (Kept.of_below hb2)⟩
    rw [hec.out]; exact hr1.out.below hb2
  | none =>
    rw [hr] at HT
    go_enter Tryz.func109, Tryz.ntmps109
    go_wp2_with fail
    refine T.out.mono ?_
    rintro e w1 ⟨rfl, rfl⟩
    go_wp2_with fail
    refine (HT.out _).mono ?_
    rintro e w2 ⟨rfl, hb2⟩
    go_wp2
    exact ⟨rfl, rfl, hk1.out.trans (Kept.of_below hb2)⟩

theorem grpPassG_in (W : World) (b d c wd bs : Nat) (sp : UInt8) (hb : GrpB W b c wd bs sp) (hn : c * wd ≤ 100) (hc : c ≤ 100) (hw : wd ≤ 100) (s : ByteArray) (hs : s.size ≤ 2000) (h : Rd W d s) :
    Calls Tryz.prog 89 #[boxV d, boxV b, boxV (b + 1)] W fun e w' => PassPost (takeK (c * wd) s) s d W w' e := by
  have c0 := box_cell hb.cnt
  have c1 := box_cell hb.wid
  have hm : IntKind.i64.wrap ((c : Int) * (wd : Int)) = ((c * wd : Nat) : Int) := by rw [IntKind.wrap_i64, Int.natCast_mul]; omega
  have T := Hid.mk (take_post W d (c * wd) s hs hn h)
  have hmul : (c : Int) * (wd : Int) = ((c * wd : Nat) : Int) := by rw [Int.natCast_mul]
  cases hr : takeK (c * wd) s with
  | some m =>
    rw [hr] at T
    clear hr
    generalize c * wd = q at hm T hmul hn
    go_enter Tryz.func89, Tryz.ntmps89
    go_wp2_with fail
    refine T.out.mono ?_
    rintro e w1 ⟨hm, rfl, hr1, hk1⟩
    go_wp2
    exact bodyPost_end (results_none rfl _ _ _) rfl ⟨hm, rfl, hr1, hk1⟩
  | none =>
    rw [hr] at T
    clear hr
    generalize c * wd = q at hm T hmul hn
    go_enter Tryz.func89, Tryz.ntmps89
    go_wp2_with fail
    refine T.out.mono ?_
    rintro e w1 ⟨rfl, hk1⟩
    go_wp2
    exact ⟨rfl, rfl, hk1⟩

theorem GrpB.below {W W' : World} {b c wd bs : Nat} {sp : UInt8} (h : GrpB W b c wd bs sp) (k : Below W.heap.size W W') : GrpB W' b c wd bs sp :=
  ⟨(k.block _ (box_lt h.cnt)).trans h.cnt, (k.block _ (box_lt h.wid)).trans h.wid, (k.block _ (box_lt h.bas)).trans h.bas, (k.block _ (box_lt h.btw)).trans h.btw⟩

/-- a part's pass. -/
theorem pass_in (n₀ : Nat) (w' W' : World) (p : Part) (k : PK) (hp : PartIs n₀ w' p k) (hg : ∀ c w b s, k = .grp c w b s → c ≤ 100 ∧ w ≤ 100) (hb : Below w'.heap.size w' W') (d : Nat) (s : ByteArray) (hr : Rd W' d s) (hs : s.size ≤ 2000) :
    Calls Tryz.prog p.pass (#[boxV d] ++ p.passC) W' fun e w'' => PassPost (passK k s) s d W' w'' e := by
  cases k with
  | num n =>
    obtain ⟨b, _, rfl, hn, ho⟩ := hp
    exact numPass_in W' b d n hn ((hb.block _ (box_lt ho)).trans ho) s hs hr
  | grp c w b sp =>
    obtain ⟨x, _, rfl, hn, ho⟩ := hp
    obtain ⟨hc, hw⟩ := hg c w b sp rfl
    exact grpPassG_in W' x d c w b sp (ho.below hb) hn hc hw s hs hr
  | name => obtain rfl := hp; exact passName_in W' d s hs hr
  | type => obtain rfl := hp; exact typePass_in W' d s hs hr
  | hex => obtain rfl := hp; exact hexPass_in W' d s hs hr
  | salt => obtain rfl := hp; exact saltPass_in W' d s hs hr
  | hash => obtain rfl := hp; exact hashPass_in W' d s hs hr
  | types => obtain rfl := hp; exact typesPass_in W' d s hs hr
  | any => obtain rfl := hp; exact anyPass_in W' d s hs hr
  | strs => obtain rfl := hp; exact passStrings_in W' d s hs hr
theorem pass_enters (n₀ : Nat) (w' : World) (p : Part) (k : PK) (hp : PartIs n₀ w' p k) : Enters p.pass := by
  cases k with
  | num n => obtain ⟨b, _, rfl, _⟩ := hp; exact enters_by Tryz.func83 (by kernel_rfl) rfl
  | grp c w b sp => obtain ⟨x, _, rfl, _⟩ := hp; exact enters_by Tryz.func89 (by kernel_rfl) rfl
  | name => obtain rfl := hp; exact enters_by Tryz.func93 (by kernel_rfl) rfl
  | type => obtain rfl := hp; exact enters_by Tryz.func104 (by kernel_rfl) rfl
  | hex => obtain rfl := hp; exact enters_by Tryz.func99 (by kernel_rfl) rfl
  | salt => obtain rfl := hp; exact enters_by Tryz.func112 (by kernel_rfl) rfl
  | hash => obtain rfl := hp; exact enters_by Tryz.func115 (by kernel_rfl) rfl
  | types => obtain rfl := hp; exact enters_by Tryz.func109 (by kernel_rfl) rfl
  | any => obtain rfl := hp; exact enters_by Tryz.func120 (by kernel_rfl) rfl
  | strs => obtain rfl := hp; exact enters_by Tryz.func96 (by kernel_rfl) rfl

theorem form_grp (k : Int) : ∀ p ∈ formOf k, ∀ c w b s, p = PK.grp c w b s → c ≤ 100 ∧ w ≤ 100 := by
  unfold formOf
  repeat' split
  all_goals
    intro p hp c w b s e
    subst e
    simp at hp
    try omega

theorem parts_all (k : Int) (w : World) : Calls Tryz.prog 47 #[.int .i64 k] w fun e w' => PartsPost (formOf k).length (pfK (formOf k)) w e w' := by
  refine (raw_all k w).mono ?_
  rintro e w' ⟨g, ps, rfl, hg, hc, hp, hb⟩
  have hl := hp.len
  refine ⟨g, fun j => ps.getD j default, rfl, by rw [← hl]; exact parts_in hc, ?_, ?_, hb⟩
  · intro j hj
    exact pass_enters _ _ _ _ (hp.at j _ (List.getElem?_eq_getElem hj))
  · intro j hj W' d s' hb' _ hr hs
    have hpf : pfK (formOf k) j s' = passK (formOf k)[j] s' := by
      unfold pfK
      rw [List.getElem?_eq_getElem hj]
    rw [hpf]
    exact pass_in _ _ _ _ _ (hp.at j _ (List.getElem?_eq_getElem hj)) (form_grp k _ (List.getElem_mem hj)) hb' d s' hr hs

/-- split, of every type and all data. -/
theorem split_all (k : Int) (s : ByteArray) (hm : s.size ≤ maxLen) (W : World) : Calls Tryz.prog 33 #[.int .i64 k, .string s] W fun e w' => SplitPost (splitR k s) W e w' := by
  by_cases h : (0 ≤ k ∧ k ≤ 65535) ∧ s.size ≤ 2000
  · rw [splitR, if_pos h]
    exact split_in W (formOf k).length (form_len k).1 k h.1 s h.2 _ (parts_all k)
  · rw [split_none k s h]
    refine split_long W k s hm ?_
    by_cases hk : 0 ≤ k ∧ k ≤ 65535
    · exact .inr (by apply Decidable.byContradiction; intro hl; exact h ⟨hk, by omega⟩)
    · exact .inl (by simp; omega)
theorem right_all (k : Int) (s : ByteArray) (hm : s.size ≤ maxLen) (W : World) : Calls Tryz.prog 11 #[.int .i64 k, .string s] W fun e w' => e = .returned (.bool (splitR k s).isSome) ∧ Below W.heap.size W w' :=
  right_of (split_all k s hm) W
end Go.Proofs.YtkohkkakbcjgcabGreatDoor
