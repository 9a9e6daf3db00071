/- The document's up, moved, down. -/
import Derived.Test.YthjhemodmdficaaDoorNR9
namespace Go.Proofs.YthjhemodmdficaaDoor
set_option linter.unusedVariables false
open Go.RowKit
/-- a row that is made of one digit. -/
theorem Rw.one (w : World) (z : BitVec 32) : Rw (w.alloc (.cells #[.int .u32 (z.toNat : Int)] 24)) (.slice (some ⟨w.heap.size, 0, none⟩) 1 1) [z] :=
  ⟨rfl, .inr ⟨w.heap.size, 1, #[.int .u32 (z.toNat : Int)], rfl, Nat.zero_le _, heap_new _ _, Nat.le_refl _, by unfold maxLen; omega, rfl, rfl⟩⟩
theorem Ow.one (w : World) (z : BitVec 32) : Ow w.heap.size (w.alloc (.cells #[.int .u32 (z.toNat : Int)] 24)) (.slice (some ⟨w.heap.size, 0, none⟩) 1 1) [z] :=
  ⟨rfl, .inr ⟨w.heap.size, 1, #[.int .u32 (z.toNat : Int)], rfl, Nat.le_refl _, heap_new _ _, Nat.le_refl _, by unfold maxLen; omega, rfl, rfl⟩⟩
theorem mny_pow (k : Nat) (h : k < 32) : mny (2 ^ k) = 1 := by
  refine mny_of _ 0 ?_ ?_
  · exact Nat.one_le_two_pow
  · rw [show (4294967296 : Nat) ^ (0 + 1) = 2 ^ 32 from rfl]
    exact Nat.pow_lt_pow_right (by omega) h
set_option maxRecDepth 100000 in
set_option maxHeartbeats 400000 in
theorem rup_in (W : World) (v : Value) (A k : Nat) (hA : RN W v A) (ha : mny A ≤ 100000) (hk : k < 32) : Calls Tryd.prog 48 #[v, .int .i64 (k : Int)] W fun e w' => ∃ v, e = .returned v ∧ RN w' v (A * 2 ^ k) ∧ Below W.heap.size W w' := by
  have hp : 2 ^ k < 4294967296 := Nat.pow_lt_pow_right (a := 2) (by omega) hk
  obtain ⟨z, hz⟩ : ∃ z : BitVec 32, z.toNat = 2 ^ k := ⟨BitVec.ofNat 32 (2 ^ k), by rw [bv_of]; exact Nat.mod_eq_of_lt hp⟩
  have hB : Below W.heap.size W (W.alloc (.cells #[.int .u32 (z.toNat : Int)] 24)) := (Below.refl _ _).alloc (Nat.le_refl _) _
  have hZ : RN (W.alloc (.cells #[.int .u32 (z.toNat : Int)] 24)) (.slice (some ⟨W.heap.size, 0, none⟩) 1 1) (2 ^ k) := ⟨[z], Rw.one W z, by rw [val_one, hz], .inr ⟨[], z, rfl, by rw [hz]; exact Nat.ne_of_gt (Nat.two_pow_pos k)⟩⟩
  have HM := Hid.mk (rmul_in _ _ _ A (2 ^ k) (hA.blk hB) hZ ha (by rw [mny_pow k hk]; omega))
  have t1 : ((k : Int)).toNat = k := by omega
  have t2 : (2 : Int) ^ k = (z.toNat : Int) := by rw [hz, Int.natCast_pow]; rfl
  have t3 : IntKind.u32.wrap (z.toNat : Int) = (z.toNat : Int) := by rw [IntKind.wrap_u32]; have := bv_lt z; omega
  have k0 : (0 : Int) ≤ (k : Int) := by omega
  have k1 : (k : Int) < 32 := by omega
  have HBB := Hid.mk hB
  obtain ⟨P, hP⟩ : ∃ P, A * 2 ^ k = P := ⟨_, rfl⟩
  rw [hP] at HM ⊢
  clear hA hZ hz hp hP hB
  go_enter Tryd.func48, Tryd.ntmps48
  go_wp2_with fail
  refine HM.out.mono ?_
  rintro e w1 ⟨v1, rfl, hr, hb⟩
  have HR := Hid.mk hr
  have HB2 := Hid.mk (bthen HBB.out hb)
  clear hr hb
  go_wp2
  go_ret
  exact ⟨_, rfl, HR.out, HB2.out⟩
set_option maxRecDepth 100000 in
set_option maxHeartbeats 400000 in
theorem rmoved_in (W : World) (v : Value) (A : Nat) (d : BitVec 32) (hA : RN W v A) (ha : mny A ≤ 100000) : Calls Tryd.prog 49 #[v, .int .u32 (d.toNat : Int)] W fun e w' => ∃ v, e = .returned v ∧ RN w' v (A * 4294967296 + d.toNat) ∧ Fresh W.heap.size v ∧ Below W.heap.size W w' := by
  obtain ⟨i0, hi, hz0, hz1, hz2⟩ := info_of info24
  have hB : Below W.heap.size W (W.alloc (.cells #[.int .u32 (d.toNat : Int)] 24)) := (Below.refl _ _).alloc (Nat.le_refl _) _
  obtain ⟨xs, hx, rfl, tx⟩ := hA
  rw [← tx.many] at ha
  have HX := Hid.mk (hx.blk hB)
  have HO := Hid.mk (Ow.one W d)
  have HBB := Hid.mk hB
  have hval : val ([d] ++ xs) = val xs * 4294967296 + d.toNat := by
    rw [val_app, val_one, List.length_singleton, Nat.pow_one, Nat.mul_comm]; omega
  have HVL := Hid.mk hval
  clear hval hB
  rcases hx.view with ⟨rfl, rfl⟩ | ⟨g, c, rfl, hc, hm, hg, hcell, -⟩
  · go_enter Tryd.func49, Tryd.ntmps49
    go_wp2_with (at_builtin; refine wpList_append_own_none rfl _ _ 31 rfl W.heap.size 24 i0 1 Tryd.underlying31 hi _ 1 (wl [d]) rfl HO.out rfl ?_)
    go_wp2_with fail
    refine (rtrim2_in _ _ [d] (Rw.of HO.out rfl)).mono ?_
    rintro e w1 ⟨v1, rfl, hr, rfl, hk1⟩
    have HR := Hid.mk hr
    have HF1 := Hid.mk (Fresh.trim (fresh_own HO.out) hk1)
    clear hr hk1
    go_wp2
    go_ret
    exact ⟨_, rfl, by rw [← HVL.out]; exact HR.out, HF1.out, HBB.out⟩
  · have HC : Hid (∀ j u, (wl xs)[j]? = some u → (W.alloc (.cells #[.int .u32 (d.toNat : Int)] 24)).cell? ((⟨g, 0, none⟩ : Addr).add j) = some u) := fun j u hu => by
      have hj : j < xs.length := by
        have := (List.getElem?_eq_some_iff.1 hu).1
        rwa [wl_len] at this
      rw [wl_at xs j hj] at hu
      rw [addr_at, Nat.zero_add, ← hu]
      exact (HBB.out.cell (p := ⟨g, j, none⟩) hg).trans (hcell j hj)
    obtain ⟨n, hn⟩ : ∃ n, xs.length = n := ⟨_, rfl⟩
    have HN := Hid.mk hn
    rw [hn] at ha ⊢
    clear hn hcell hc
    go_enter Tryd.func49, Tryd.ntmps49
    go_wp2_with (at_builtin; refine wpList_append_own _ rfl _ _ 31 rfl W.heap.size 24 i0 (.int .u32 0) 1 4 Tryd.underlying31 hi hz0 hz1 hz2 rfl (by decide) _ 1 (wl [d]) rfl HO.out ⟨g, 0, none⟩ n c (wl xs) rfl (by rw [wl_len, HN.out, Nat.mul_one]) HC.out (wl_one xs) (by unfold maxLen; omega) (by omega) (by simp) ?_; intro v2 w2 hown2 hgrow2 _)
    have HB2 : Hid (Below W.heap.size W w2) := HBB.out.grown hgrow2 (by simp) (fun k hk => by cases hk; exact Nat.le_refl _)
    have hown3 : Rw w2 v2 ([d] ++ xs) := Rw.of (n := 1 + n) (by rw [wl_app]; exact hown2) (by rw [List.length_append, HN.out, List.length_singleton])
    have HO2 := Hid.mk hown3
    have HF2 := Hid.mk (fresh_own hown2)
    clear hown2 hown3 hgrow2
    go_wp2_with fail
    refine (rtrim2_in _ _ _ HO2.out).mono ?_
    rintro e w1 ⟨v1, rfl, hr, rfl, hk1⟩
    have HR := Hid.mk hr
    have HF1 := Hid.mk (Fresh.trim HF2.out hk1)
    clear hr hk1
    go_wp2
    go_ret
    exact ⟨_, rfl, by rw [← HVL.out]; exact HR.out, HF1.out, HB2.out⟩
end Go.Proofs.YthjhemodmdficaaDoor
