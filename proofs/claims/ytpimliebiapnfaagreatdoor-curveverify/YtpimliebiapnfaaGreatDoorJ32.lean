/- Texts of this proof, joined: CVerW. -/
import Derived.Test.YtpimliebiapnfaaGreatDoorJ31
/- The document's Verify is the program's; CurveVerify. -/
namespace Go.Proofs.YtpimliebiapnfaaGreatDoor
set_option linter.unusedVariables false
set_option linter.unusedSimpArgs false
open Go.RowKit N
attribute [local go_sem] N.st1
theorem cnt_t {a : Nat} (h : cntN a = true) : a ≠ 0 ∧ a < nN := by
  unfold cntN at h
  simp only [Bool.and_eq_true, decide_eq_true_eq] at h
  exact h
theorem rverify_in (pb tx sg : ByteArray) (ht : tx.size ≤ 140737488351232) (W : World) : Calls Tryz.prog 15 #[.string pb, .string tx, .string sg] W fun e w' => e = .returned (.bool (verR pb tx sg)) ∧ Below W.heap.size W w' := by
  cases hp : (ptOf pb).2 with
  | false =>
    rw [show verR pb tx sg = false by unfold verR; rw [if_pos hp]]
    exact rver_np W pb tx sg (Hid.mk (read_no pb hp))
  | true =>
    obtain ⟨q, hq⟩ := ptOf_ex hp
    have hok : (ptOf pb).1.Ok ∧ Rep (ptOf pb).1.jp q.o := by rw [hq]; exact (ptOf_tell q).2
    by_cases hz : (ptOf pb).1 = T3.zero
    · rw [show verR pb tx sg = false by unfold verR; rw [if_neg (by rw [hp]; simp), if_pos hz]]
      have hqo : q.o = none := by
        cases ho : q.o with
        | none => rfl
        | some t =>
          have := hok.2
          rw [ho, hz] at this
          exact absurd fz_0 this.1
      refine rver_nw W pb tx sg (Hid.mk fun w => ?_)
      rw [hq]
      refine (read_yes q w).mono fun e w' ⟨a, b, c, h1, h2, h3, h4, h5⟩ => ?_
      unfold PtD at h4
      rw [hqo] at h4
      have h4' : c = true := h4
      subst h4'
      exact ⟨a, b, h1, h2, h3, h5⟩
    · have hqz : q ≠ Ec.zero := fun e => hz ((rep_zero hok.1).1 (by have := hok.2; rwa [e] at this))
      have HR : Hid (∀ w, Calls Tryz.prog 22 #[.string pb] w fun e w' => ∃ vx vy, e = .returned (.tuple #[.agg #[vx, vy, .bool false], .bool true]) ∧ vx.oneCell' = true ∧ vy.oneCell' = true ∧ PtD w' vx vy false q ∧ Below w.heap.size w w') := fun w => by
        rw [hq]
        refine (read_yes q w).mono fun e w' ⟨a, b, c, h1, h2, h3, h4, h5⟩ => ?_
        cases ho : q.o with
        | none => exact absurd (Ec.ext2 ho) hqz
        | some t =>
          have h6 := h4
          unfold PtD at h6
          rw [ho] at h6
          obtain ⟨rfl, _, _⟩ := h6
          exact ⟨a, b, h1, h2, h3, h4, h5⟩
      by_cases h64 : sg.size = 64
      · cases hc : (cntN (hiN sg) && cntN (loN sg)) with
        | false =>
          rw [show verR pb tx sg = false by unfold verR; rw [if_neg (by rw [hp]; simp), if_neg hz, if_neg (by omega), if_pos hc]]
          by_cases h1 : hiN sg = 0
          · exact rver_r0 W pb tx sg q HR h64 h1
          · by_cases h2 : loN sg = 0
            · exact rver_s0 W pb tx sg q HR h64 h1 h2
            · by_cases h3 : hiN sg < nN
              · refine rver_sn W pb tx sg q HR h64 h1 h2 h3 fun h4 => ?_
                unfold cntN at hc
                rw [decide_eq_true h1, decide_eq_true h2, decide_eq_true h3, decide_eq_true h4] at hc
                simp at hc
              · exact rver_rn W pb tx sg q HR h64 h1 h2 h3
        | true =>
          have hv := verR_p q tx sg hqz h64 hc
          rw [← hq] at hv
          rw [hv]
          simp only [Bool.and_eq_true] at hc
          obtain ⟨h1, h3⟩ := cnt_t hc.1
          obtain ⟨h2, h4⟩ := cnt_t hc.2
          unfold vfE
          cases hM : ((Ec.mul (N.numB (G.sha2 tx.data.toList) * ivN nN (loN sg) % nN) ecG).add (Ec.mul (hiN sg * ivN nN (loN sg) % nN) q)).o with
          | none => exact rver_no W pb tx sg q HR h64 h1 h2 h3 h4 ht hM
          | some t => exact rver_yes W pb tx sg q t HR h64 h1 h2 h3 h4 ht hM
      · rw [show verR pb tx sg = false by unfold verR; rw [if_neg (by rw [hp]; simp), if_neg hz, if_pos h64]]
        exact rver_len W pb tx sg q HR h64
set_option maxRecDepth 100000 in
set_option maxHeartbeats 2000000 in
theorem verw_gen (W : World) (a b s : ByteArray) (D : Bool) (hG : G.Rk W) (H1 : Hid (∀ w, G.Rk w → Calls Tryz.prog 16 #[.string a, .string b, .string s] w fun e w' => e = .returned (.bool D) ∧ Below w.heap.size w w')) (H2 : Hid (∀ w, Calls Tryz.prog 15 #[.string a, .string b, .string s] w fun e w' => e = .returned (.bool D) ∧ Below w.heap.size w w')) : Calls Tryz.prog 5 #[.string a, .string b, .string s] W fun e w' => e = .returned (.bool true) ∧ Below W.heap.size W w' := by
  have HE := Hid.mk examples_in
  have HG := Hid.mk hG
  clear hG
  have F := Fm.start W
  go_enter Tryz.func5, Tryz.ntmps5
  go_wp2_with fail
  refine (HE.out _).mono ?_
  rintro e u1 ⟨rfl, hb⟩
  replace F := F.blk hb
  clear hb
  go_wp2_with fail
  refine (H2.out _).mono ?_
  rintro e u2 ⟨rfl, hb⟩
  replace F := F.blk hb
  clear hb
  go_wp2_with fail
  refine (H1.out _ (G.Rk.below HG.out F.bel)).mono ?_
  rintro e u3 ⟨rfl, hb⟩
  replace F := F.blk hb
  clear hb
  go_wp2
  go_ret
  exact ⟨by first | rfl | simp, F.bel⟩
theorem curveverify_walk (a : ByteArray) (ha : a.size ≤ 140737488351232) (b : ByteArray) (hb : b.size ≤ 140737488351232) (s : ByteArray) (hs : s.size ≤ 140737488351232) (W : World) (hG : G.Rk W) : Calls Tryz.prog 5 #[.string a, .string b, .string s] W fun e w' => e = .returned (.bool true) ∧ Below W.heap.size W w' :=
  verw_gen W a b s (verR a b s) hG (Hid.mk fun w h => verify_in a b s (by omega) w h) (Hid.mk fun w => rverify_in a b s hb w)
end Go.Proofs.YtpimliebiapnfaaGreatDoor