/- Texts of this proof, joined: KRefRsa, KRsaW. -/
import Derived.Test.YtlcjagkfeakinaaGreatDoorJ12
import Derived.Test.YtlcjagkfeakinaaGreatDoorJ14
/- The document's own Rsa. -/
namespace Go.Proofs.YtlcjagkfeakinaaGreatDoor.N
set_option linter.unusedVariables false
open Go.RowKit

/-- what the document's Rsa answers: two rows of digits, and whether they are a key. -/
def RrPost (A B : Nat) (ok : Bool) (W : World) (e : Ending) (w' : World) : Prop := (∃ v u, e = .returned (.tuple #[v, u, .bool ok]) ∧ RN w' v A ∧ RN w' u B) ∧ Below W.heap.size W w'
theorem RrPost.no (W : World) (j : Nat) : RrPost 0 0 false W (.returned (.tuple #[.slice none 0 0, .slice none 0 0, .bool false])) (W.drewN j) := ⟨⟨_, _, rfl, RN.zero _, RN.zero _⟩, below_dn W j⟩
theorem RrPost.no' (W : World) : RrPost 0 0 false W (.returned (.tuple #[.slice none 0 0, .slice none 0 0, .bool false])) W := ⟨⟨_, _, rfl, RN.zero _, RN.zero _⟩, Below.refl _ _⟩
theorem rr_empty (W : World) : Calls Tryz.prog 19 #[.string ⟨#[]⟩] W fun e w' => RrPost 0 0 false W e w' := by
  go_enter Tryz.func19, Tryz.ntmps19
  go_wp2
  exact bodyPost_ret (v := .tuple #[.slice none 0 0, .slice none 0 0, .bool false]) (by simp [results, Tryz.results19, go_sem]) rfl (RrPost.no' W)
theorem rr_short (s : ByteArray) (h0 : 0 < s.size) (h3 : s.size < 3) (i0 : ∀ w, (Instr.index 9 (.string s) (.int .i64 0)).run Tryz.prog w = .ok (.int .u8 0) w) (W : World) : Calls Tryz.prog 19 #[.string s] W fun e w' => RrPost 0 0 false W e w' := by
  have z1 : ¬ ((s.size : Int) < 1) := by omega
  have z3 : (s.size : Int) < 3 := by omega
  go_enter Tryz.func19, Tryz.ntmps19
  go_wp2
  exact bodyPost_ret (v := .tuple #[.slice none 0 0, .slice none 0 0, .bool false]) (by simp [results, Tryz.results19, go_sem]) rfl (RrPost.no' W)
set_option maxRecDepth 100000 in
theorem rr1_len (s : ByteArray) (k p q : Nat) (x y : UInt8) (hs : s.size ≤ 140737488351232) (hk : k < 65536) (hp : 1 + k = p) (h0 : 0 < s.size) (hk0 : k ≠ 0) (i0 : ∀ w, (Instr.index 9 (.string s) (.int .i64 0)).run Tryz.prog w = .ok (.int .u8 (k : Int)) w) (hkb : k < 256) (hc : s.size ≤ p) (W : World) : Calls Tryz.prog 19 #[.string s] W fun e w' => RrPost 0 0 false W e w' := by
  have z1 : ¬ ((s.size : Int) < 1) := by omega
  have wk : IntKind.i64.wrap (k : Int) = (k : Int) := by rw [IntKind.wrap_i64]; omega
  have c0 : ((k : Int) == 0) = false := by rw [beq_eq_false_iff_ne]; omega
  have wp : IntKind.i64.wrap (1 + (k : Int)) = (p : Int) := by rw [IntKind.wrap_i64]; omega
  have c1 : (s.size : Int) ≤ (p : Int) := by omega
  clear hk hkb hk0 hc
  go_enter Tryz.func19, Tryz.ntmps19
  go_wp2
  exact bodyPost_ret (v := .tuple #[.slice none 0 0, .slice none 0 0, .bool false]) (by simp [results, Tryz.results19, go_sem]) rfl (RrPost.no' W)
set_option maxRecDepth 100000 in
theorem rr1_x0 (s : ByteArray) (k p q : Nat) (x y : UInt8) (hs : s.size ≤ 140737488351232) (hk : k < 65536) (hp : 1 + k = p) (h0 : 0 < s.size) (hk0 : k ≠ 0) (i0 : ∀ w, (Instr.index 9 (.string s) (.int .i64 0)).run Tryz.prog w = .ok (.int .u8 (k : Int)) w) (hkb : k < 256) (hl : p < s.size) (ix : ∀ w, (Instr.index 9 (.string s) (.int .i64 1)).run Tryz.prog w = .ok (.int .u8 (x.toNat : Int)) w) (hc : x.toNat = 0) (W : World) : Calls Tryz.prog 19 #[.string s] W fun e w' => RrPost 0 0 false W e w' := by
  have z1 : ¬ ((s.size : Int) < 1) := by omega
  have wk : IntKind.i64.wrap (k : Int) = (k : Int) := by rw [IntKind.wrap_i64]; omega
  have c0 : ((k : Int) == 0) = false := by rw [beq_eq_false_iff_ne]; omega
  have wp : IntKind.i64.wrap (1 + (k : Int)) = (p : Int) := by rw [IntKind.wrap_i64]; omega
  have c1 : ¬ ((s.size : Int) ≤ (p : Int)) := by omega
  have c2 : ((x.toNat : Int) == 0) = true := by rw [hc]; rfl
  clear hk hkb hk0 hc hl
  go_enter Tryz.func19, Tryz.ntmps19
  go_wp2
  exact bodyPost_ret (v := .tuple #[.slice none 0 0, .slice none 0 0, .bool false]) (by simp [results, Tryz.results19, go_sem]) rfl (RrPost.no' W)
set_option maxRecDepth 100000 in
theorem rr1_y0 (s : ByteArray) (k p q : Nat) (x y : UInt8) (hs : s.size ≤ 140737488351232) (hk : k < 65536) (hp : 1 + k = p) (h0 : 0 < s.size) (hk0 : k ≠ 0) (i0 : ∀ w, (Instr.index 9 (.string s) (.int .i64 0)).run Tryz.prog w = .ok (.int .u8 (k : Int)) w) (hkb : k < 256) (hl : p < s.size) (ix : ∀ w, (Instr.index 9 (.string s) (.int .i64 1)).run Tryz.prog w = .ok (.int .u8 (x.toNat : Int)) w) (hx : x.toNat ≠ 0) (iy : ∀ w, (Instr.index 9 (.string s) (.int .i64 (p : Int))).run Tryz.prog w = .ok (.int .u8 (y.toNat : Int)) w) (hc : y.toNat = 0) (W : World) : Calls Tryz.prog 19 #[.string s] W fun e w' => RrPost 0 0 false W e w' := by
  have z1 : ¬ ((s.size : Int) < 1) := by omega
  have wk : IntKind.i64.wrap (k : Int) = (k : Int) := by rw [IntKind.wrap_i64]; omega
  have c0 : ((k : Int) == 0) = false := by rw [beq_eq_false_iff_ne]; omega
  have wp : IntKind.i64.wrap (1 + (k : Int)) = (p : Int) := by rw [IntKind.wrap_i64]; omega
  have c1 : ¬ ((s.size : Int) ≤ (p : Int)) := by omega
  have c2 : ((x.toNat : Int) == 0) = false := by rw [beq_eq_false_iff_ne]; omega
  have c3 : ((y.toNat : Int) == 0) = true := by rw [hc]; rfl
  clear hk hkb hk0 hc hl hx
  go_enter Tryz.func19, Tryz.ntmps19
  go_wp2
  exact bodyPost_ret (v := .tuple #[.slice none 0 0, .slice none 0 0, .bool false]) (by simp [results, Tryz.results19, go_sem]) rfl (RrPost.no' W)
set_option maxRecDepth 100000 in
theorem rr1_k256 (s : ByteArray) (k p q : Nat) (x y : UInt8) (hs : s.size ≤ 140737488351232) (hk : k < 65536) (hp : 1 + k = p) (h0 : 0 < s.size) (hk0 : k ≠ 0) (i0 : ∀ w, (Instr.index 9 (.string s) (.int .i64 0)).run Tryz.prog w = .ok (.int .u8 (k : Int)) w) (hkb : k < 256) (hl : p < s.size) (ix : ∀ w, (Instr.index 9 (.string s) (.int .i64 1)).run Tryz.prog w = .ok (.int .u8 (x.toNat : Int)) w) (hx : x.toNat ≠ 0) (iy : ∀ w, (Instr.index 9 (.string s) (.int .i64 (p : Int))).run Tryz.prog w = .ok (.int .u8 (y.toNat : Int)) w) (hy : y.toNat ≠ 0) (hc : 256 < k) (W : World) : Calls Tryz.prog 19 #[.string s] W fun e w' => RrPost 0 0 false W e w' := by
  have z1 : ¬ ((s.size : Int) < 1) := by omega
  have wk : IntKind.i64.wrap (k : Int) = (k : Int) := by rw [IntKind.wrap_i64]; omega
  have c0 : ((k : Int) == 0) = false := by rw [beq_eq_false_iff_ne]; omega
  have wp : IntKind.i64.wrap (1 + (k : Int)) = (p : Int) := by rw [IntKind.wrap_i64]; omega
  have c1 : ¬ ((s.size : Int) ≤ (p : Int)) := by omega
  have c2 : ((x.toNat : Int) == 0) = false := by rw [beq_eq_false_iff_ne]; omega
  have c3 : ((y.toNat : Int) == 0) = false := by rw [beq_eq_false_iff_ne]; omega
  have c4 : (256 : Int) < (k : Int) := by omega
  clear hk hkb hk0 hc hl hx hy
  go_enter Tryz.func19, Tryz.ntmps19
  go_wp2
  exact bodyPost_ret (v := .tuple #[.slice none 0 0, .slice none 0 0, .bool false]) (by simp [results, Tryz.results19, go_sem]) rfl (RrPost.no' W)
set_option maxRecDepth 100000 in
theorem rr1_q256 (s : ByteArray) (k p q : Nat) (x y : UInt8) (hs : s.size ≤ 140737488351232) (hk : k < 65536) (hp : 1 + k = p) (h0 : 0 < s.size) (hk0 : k ≠ 0) (i0 : ∀ w, (Instr.index 9 (.string s) (.int .i64 0)).run Tryz.prog w = .ok (.int .u8 (k : Int)) w) (hkb : k < 256) (hl : p < s.size) (ix : ∀ w, (Instr.index 9 (.string s) (.int .i64 1)).run Tryz.prog w = .ok (.int .u8 (x.toNat : Int)) w) (hx : x.toNat ≠ 0) (iy : ∀ w, (Instr.index 9 (.string s) (.int .i64 (p : Int))).run Tryz.prog w = .ok (.int .u8 (y.toNat : Int)) w) (hy : y.toNat ≠ 0) (h4 : k ≤ 256) (hq : s.size - p = q) (hc : 256 < q) (W : World) : Calls Tryz.prog 19 #[.string s] W fun e w' => RrPost 0 0 false W e w' := by
  have z1 : ¬ ((s.size : Int) < 1) := by omega
  have wk : IntKind.i64.wrap (k : Int) = (k : Int) := by rw [IntKind.wrap_i64]; omega
  have c0 : ((k : Int) == 0) = false := by rw [beq_eq_false_iff_ne]; omega
  have wp : IntKind.i64.wrap (1 + (k : Int)) = (p : Int) := by rw [IntKind.wrap_i64]; omega
  have c1 : ¬ ((s.size : Int) ≤ (p : Int)) := by omega
  have c2 : ((x.toNat : Int) == 0) = false := by rw [beq_eq_false_iff_ne]; omega
  have c3 : ((y.toNat : Int) == 0) = false := by rw [beq_eq_false_iff_ne]; omega
  have c4 : ¬ ((256 : Int) < (k : Int)) := by omega
  have w6 : IntKind.i64.wrap ((s.size : Int) - 1) = (s.size : Int) - 1 := by rw [IntKind.wrap_i64]; omega
  have w7 : IntKind.i64.wrap ((s.size : Int) - 1 - (k : Int)) = (q : Int) := by rw [IntKind.wrap_i64]; omega
  have c5 : (256 : Int) < (q : Int) := by omega
  clear hk hkb hk0 hc hl hx hy h4 hq
  go_enter Tryz.func19, Tryz.ntmps19
  go_wp2
  exact bodyPost_ret (v := .tuple #[.slice none 0 0, .slice none 0 0, .bool false]) (by simp [results, Tryz.results19, go_sem]) rfl (RrPost.no' W)
set_option maxRecDepth 100000 in
set_option maxHeartbeats 1000000 in
theorem rr1_rest (s : ByteArray) (k p q : Nat) (x y : UInt8) (hs : s.size ≤ 140737488351232) (hk : k < 65536) (hp : 1 + k = p) (h0 : 0 < s.size) (hk0 : k ≠ 0) (i0 : ∀ w, (Instr.index 9 (.string s) (.int .i64 0)).run Tryz.prog w = .ok (.int .u8 (k : Int)) w) (hkb : k < 256) (hl : p < s.size) (ix : ∀ w, (Instr.index 9 (.string s) (.int .i64 1)).run Tryz.prog w = .ok (.int .u8 (x.toNat : Int)) w) (hx : x.toNat ≠ 0) (iy : ∀ w, (Instr.index 9 (.string s) (.int .i64 (p : Int))).run Tryz.prog w = .ok (.int .u8 (y.toNat : Int)) w) (hy : y.toNat ≠ 0) (h4 : k ≤ 256) (hq : s.size - p = q) (h5 : q ≤ 256) (A B : Nat) (hA : Hid (numB (s.extract 1 p).data.toList = A)) (hB : Hid (numB (s.extract p s.size).data.toList = B)) (lA : A < Lim) (lB : B < Lim) (W : World) : Calls Tryz.prog 19 #[.string s] W fun e w' => RrPost (if btl B < 496 then 0 else A) (if btl B < 496 then 0 else B) (!decide (btl B < 496)) W e w' := by
  have z1 : ¬ ((s.size : Int) < 1) := by omega
  have wk : IntKind.i64.wrap (k : Int) = (k : Int) := by rw [IntKind.wrap_i64]; omega
  have c0 : ((k : Int) == 0) = false := by rw [beq_eq_false_iff_ne]; omega
  have wp : IntKind.i64.wrap (1 + (k : Int)) = (p : Int) := by rw [IntKind.wrap_i64]; omega
  have c1 : ¬ ((s.size : Int) ≤ (p : Int)) := by omega
  have c2 : ((x.toNat : Int) == 0) = false := by rw [beq_eq_false_iff_ne]; omega
  have c3 : ((y.toNat : Int) == 0) = false := by rw [beq_eq_false_iff_ne]; omega
  have c4 : ¬ ((256 : Int) < (k : Int)) := by omega
  have w6 : IntKind.i64.wrap ((s.size : Int) - 1) = (s.size : Int) - 1 := by rw [IntKind.wrap_i64]; omega
  have w7 : IntKind.i64.wrap ((s.size : Int) - 1 - (k : Int)) = (q : Int) := by rw [IntKind.wrap_i64]; omega
  have c5 : ¬ ((256 : Int) < (q : Int)) := by omega
  have g1 : (1 : Int) ≤ (p : Int) := by omega
  have g2 : (p : Int) ≤ (s.size : Int) := by omega
  have g3 : (0 : Int) ≤ (p : Int) := by omega
  have e1 : (s.extract 1 p).size ≤ 140737488351232 := by rw [ByteArray.size_extract]; omega
  have e2 : (s.extract p s.size).size ≤ 140737488351232 := by rw [ByteArray.size_extract]; omega
  have H1 := Hid.mk (rof_in (s.extract 1 p) e1)
  have H2 := Hid.mk (rof_in (s.extract p s.size) e2)
  rw [hA.out] at H1
  rw [hB.out] at H2
  have LA := Hid.mk lA
  have LB := Hid.mk lB
  have hm : mny B ≤ 128 := mny_le B lB
  have HM := Hid.mk hm
  obtain ⟨c, hc⟩ : ∃ c, btl B = c := ⟨_, rfl⟩
  have HC := Hid.mk hc
  rw [hc]
  clear hc hm e1 e2 lA lB hk hkb hk0 hx hy h4 h5 hl
  by_cases h6 : c < 496
  · rw [if_pos h6, if_pos h6, show (!decide (c < 496)) = false by simp [h6]]
    have c6 : (c : Int) < 496 := by omega
    go_enter Tryz.func19, Tryz.ntmps19
    go_wp2_with fail
    refine (H1.out _).mono ?_
    rintro e w1 ⟨v, vx, rfl, hv, _, hb1⟩
    obtain ⟨rfl, r1⟩ := hv LA.out
    have R1 := Hid.mk r1
    have B1 := Hid.mk hb1
    clear hv hb1 r1
    go_wp2_with fail
    refine (H2.out _).mono ?_
    rintro e w2 ⟨u, ux, rfl, hu, _, hb2⟩
    obtain ⟨rfl, r2⟩ := hu LB.out
    have R2 := Hid.mk r2
    have R1' := Hid.mk (R1.out.blk hb2)
    have B2 := Hid.mk (bthen B1.out hb2)
    clear hu hb2 r2
    go_wp2_with fail
    refine (rbits_in _ _ _ R2.out (by have := HM.out; omega)).mono ?_
    rintro e w3 ⟨rfl, rfl⟩
    rw [HC.out]
    go_wp2
    exact bodyPost_ret (v := .tuple #[.slice none 0 0, .slice none 0 0, .bool false]) (by simp [results, Tryz.results19, go_sem]) rfl ⟨⟨_, _, rfl, RN.zero _, RN.zero _⟩, B2.out⟩
  · rw [if_neg h6, if_neg h6, show (!decide (c < 496)) = true by simp [h6]]
    have c6 : ¬ ((c : Int) < 496) := by omega
    go_enter Tryz.func19, Tryz.ntmps19
    go_wp2_with fail
    refine (H1.out _).mono ?_
    rintro e w1 ⟨v, vx, rfl, hv, _, hb1⟩
    obtain ⟨rfl, r1⟩ := hv LA.out
    have R1 := Hid.mk r1
    have B1 := Hid.mk hb1
    clear hv hb1 r1
    go_wp2_with fail
    refine (H2.out _).mono ?_
    rintro e w2 ⟨u, ux, rfl, hu, _, hb2⟩
    obtain ⟨rfl, r2⟩ := hu LB.out
    have R2 := Hid.mk r2
    have R1' := Hid.mk (R1.out.blk hb2)
    have B2 := Hid.mk (bthen B1.out hb2)
    clear hu hb2 r2
    go_wp2_with fail
    refine (rbits_in _ _ _ R2.out (by have := HM.out; omega)).mono ?_
    rintro e w3 ⟨rfl, rfl⟩
    rw [HC.out]
    go_wp2
    exact bodyPost_ret (v := .tuple #[v, u, .bool true]) (by simp [results, Tryz.results19, go_sem]) rfl ⟨⟨_, _, rfl, R1'.out, R2.out⟩, B2.out⟩
set_option maxRecDepth 100000 in
theorem rr3_k0 (s : ByteArray) (k p q : Nat) (x y : UInt8) (hs : s.size ≤ 140737488351232) (hk : k < 65536) (hp : 3 + k = p) (a b : Nat) (ha : a < 256) (hb : b < 256) (hab : a * 256 + b = k) (h3 : 3 ≤ s.size) (i0 : ∀ w, (Instr.index 9 (.string s) (.int .i64 0)).run Tryz.prog w = .ok (.int .u8 0) w) (i1 : ∀ w, (Instr.index 9 (.string s) (.int .i64 1)).run Tryz.prog w = .ok (.int .u8 (a : Int)) w) (i2 : ∀ w, (Instr.index 9 (.string s) (.int .i64 2)).run Tryz.prog w = .ok (.int .u8 (b : Int)) w) (hc : k = 0) (W : World) : Calls Tryz.prog 19 #[.string s] W fun e w' => RrPost 0 0 false W e w' := by
  have z1 : ¬ ((s.size : Int) < 1) := by omega
  have z3 : ¬ ((s.size : Int) < 3) := by omega
  have wa : IntKind.i64.wrap (a : Int) = (a : Int) := by rw [IntKind.wrap_i64]; omega
  have wb : IntKind.i64.wrap (b : Int) = (b : Int) := by rw [IntKind.wrap_i64]; omega
  have wm : IntKind.i64.wrap (256 * (a : Int)) = 256 * (a : Int) := by rw [IntKind.wrap_i64]; omega
  have ws : IntKind.i64.wrap (256 * (a : Int) + (b : Int)) = (k : Int) := by rw [IntKind.wrap_i64]; omega
  have c0 : ((k : Int) == 0) = true := by rw [hc]; rfl
  clear hk ha hb hab hc
  go_enter Tryz.func19, Tryz.ntmps19
  go_wp2
  go_quiet (fail)
  go_wp2
  exact bodyPost_ret (v := .tuple #[.slice none 0 0, .slice none 0 0, .bool false]) (by simp [results, Tryz.results19, go_sem]) rfl (RrPost.no W _)
set_option maxRecDepth 100000 in
theorem rr3_len (s : ByteArray) (k p q : Nat) (x y : UInt8) (hs : s.size ≤ 140737488351232) (hk : k < 65536) (hp : 3 + k = p) (a b : Nat) (ha : a < 256) (hb : b < 256) (hab : a * 256 + b = k) (h3 : 3 ≤ s.size) (i0 : ∀ w, (Instr.index 9 (.string s) (.int .i64 0)).run Tryz.prog w = .ok (.int .u8 0) w) (i1 : ∀ w, (Instr.index 9 (.string s) (.int .i64 1)).run Tryz.prog w = .ok (.int .u8 (a : Int)) w) (i2 : ∀ w, (Instr.index 9 (.string s) (.int .i64 2)).run Tryz.prog w = .ok (.int .u8 (b : Int)) w) (hk0 : k ≠ 0) (hc : s.size ≤ p) (W : World) : Calls Tryz.prog 19 #[.string s] W fun e w' => RrPost 0 0 false W e w' := by
  have z1 : ¬ ((s.size : Int) < 1) := by omega
  have z3 : ¬ ((s.size : Int) < 3) := by omega
  have wa : IntKind.i64.wrap (a : Int) = (a : Int) := by rw [IntKind.wrap_i64]; omega
  have wb : IntKind.i64.wrap (b : Int) = (b : Int) := by rw [IntKind.wrap_i64]; omega
  have wm : IntKind.i64.wrap (256 * (a : Int)) = 256 * (a : Int) := by rw [IntKind.wrap_i64]; omega
  have ws : IntKind.i64.wrap (256 * (a : Int) + (b : Int)) = (k : Int) := by rw [IntKind.wrap_i64]; omega
  have c0 : ((k : Int) == 0) = false := by rw [beq_eq_false_iff_ne]; omega
  have wp : IntKind.i64.wrap (3 + (k : Int)) = (p : Int) := by rw [IntKind.wrap_i64]; omega
  have c1 : (s.size : Int) ≤ (p : Int) := by omega
  clear hk ha hb hab hk0 hc
  go_enter Tryz.func19, Tryz.ntmps19
  go_wp2
  go_quiet (fail)
  go_wp2
  exact bodyPost_ret (v := .tuple #[.slice none 0 0, .slice none 0 0, .bool false]) (by simp [results, Tryz.results19, go_sem]) rfl (RrPost.no W _)
set_option maxRecDepth 100000 in
theorem rr3_x0 (s : ByteArray) (k p q : Nat) (x y : UInt8) (hs : s.size ≤ 140737488351232) (hk : k < 65536) (hp : 3 + k = p) (a b : Nat) (ha : a < 256) (hb : b < 256) (hab : a * 256 + b = k) (h3 : 3 ≤ s.size) (i0 : ∀ w, (Instr.index 9 (.string s) (.int .i64 0)).run Tryz.prog w = .ok (.int .u8 0) w) (i1 : ∀ w, (Instr.index 9 (.string s) (.int .i64 1)).run Tryz.prog w = .ok (.int .u8 (a : Int)) w) (i2 : ∀ w, (Instr.index 9 (.string s) (.int .i64 2)).run Tryz.prog w = .ok (.int .u8 (b : Int)) w) (hk0 : k ≠ 0) (hl : p < s.size) (ix : ∀ w, (Instr.index 9 (.string s) (.int .i64 3)).run Tryz.prog w = .ok (.int .u8 (x.toNat : Int)) w) (hc : x.toNat = 0) (W : World) : Calls Tryz.prog 19 #[.string s] W fun e w' => RrPost 0 0 false W e w' := by
  have z1 : ¬ ((s.size : Int) < 1) := by omega
  have z3 : ¬ ((s.size : Int) < 3) := by omega
  have wa : IntKind.i64.wrap (a : Int) = (a : Int) := by rw [IntKind.wrap_i64]; omega
  have wb : IntKind.i64.wrap (b : Int) = (b : Int) := by rw [IntKind.wrap_i64]; omega
  have wm : IntKind.i64.wrap (256 * (a : Int)) = 256 * (a : Int) := by rw [IntKind.wrap_i64]; omega
  have ws : IntKind.i64.wrap (256 * (a : Int) + (b : Int)) = (k : Int) := by rw [IntKind.wrap_i64]; omega
  have c0 : ((k : Int) == 0) = false := by rw [beq_eq_false_iff_ne]; omega
  have wp : IntKind.i64.wrap (3 + (k : Int)) = (p : Int) := by rw [IntKind.wrap_i64]; omega
  have c1 : ¬ ((s.size : Int) ≤ (p : Int)) := by omega
  have c2 : ((x.toNat : Int) == 0) = true := by rw [hc]; rfl
  clear hk ha hb hab hk0 hc hl
  go_enter Tryz.func19, Tryz.ntmps19
  go_wp2
  go_quiet (fail)
  go_wp2
  exact bodyPost_ret (v := .tuple #[.slice none 0 0, .slice none 0 0, .bool false]) (by simp [results, Tryz.results19, go_sem]) rfl (RrPost.no W _)
set_option maxRecDepth 100000 in
theorem rr3_y0 (s : ByteArray) (k p q : Nat) (x y : UInt8) (hs : s.size ≤ 140737488351232) (hk : k < 65536) (hp : 3 + k = p) (a b : Nat) (ha : a < 256) (hb : b < 256) (hab : a * 256 + b = k) (h3 : 3 ≤ s.size) (i0 : ∀ w, (Instr.index 9 (.string s) (.int .i64 0)).run Tryz.prog w = .ok (.int .u8 0) w) (i1 : ∀ w, (Instr.index 9 (.string s) (.int .i64 1)).run Tryz.prog w = .ok (.int .u8 (a : Int)) w) (i2 : ∀ w, (Instr.index 9 (.string s) (.int .i64 2)).run Tryz.prog w = .ok (.int .u8 (b : Int)) w) (hk0 : k ≠ 0) (hl : p < s.size) (ix : ∀ w, (Instr.index 9 (.string s) (.int .i64 3)).run Tryz.prog w = .ok (.int .u8 (x.toNat : Int)) w) (hx : x.toNat ≠ 0) (iy : ∀ w, (Instr.index 9 (.string s) (.int .i64 (p : Int))).run Tryz.prog w = .ok (.int .u8 (y.toNat : Int)) w) (hc : y.toNat = 0) (W : World) : Calls Tryz.prog 19 #[.string s] W fun e w' => RrPost 0 0 false W e w' := by
  have z1 : ¬ ((s.size : Int) < 1) := by omega
  have z3 : ¬ ((s.size : Int) < 3) := by omega
  have wa : IntKind.i64.wrap (a : Int) = (a : Int) := by rw [IntKind.wrap_i64]; omega
  have wb : IntKind.i64.wrap (b : Int) = (b : Int) := by rw [IntKind.wrap_i64]; omega
  have wm : IntKind.i64.wrap (256 * (a : Int)) = 256 * (a : Int) := by rw [IntKind.wrap_i64]; omega
  have ws : IntKind.i64.wrap (256 * (a : Int) + (b : Int)) = (k : Int) := by rw [IntKind.wrap_i64]; omega
  have c0 : ((k : Int) == 0) = false := by rw [beq_eq_false_iff_ne]; omega
  have wp : IntKind.i64.wrap (3 + (k : Int)) = (p : Int) := by rw [IntKind.wrap_i64]; omega
  have c1 : ¬ ((s.size : Int) ≤ (p : Int)) := by omega
  have c2 : ((x.toNat : Int) == 0) = false := by rw [beq_eq_false_iff_ne]; omega
  have c3 : ((y.toNat : Int) == 0) = true := by rw [hc]; rfl
  clear hk ha hb hab hk0 hc hl hx
  go_enter Tryz.func19, Tryz.ntmps19
  go_wp2
  go_quiet (fail)
  go_wp2
  exact bodyPost_ret (v := .tuple #[.slice none 0 0, .slice none 0 0, .bool false]) (by simp [results, Tryz.results19, go_sem]) rfl (RrPost.no W _)
set_option maxRecDepth 100000 in
theorem rr3_k256 (s : ByteArray) (k p q : Nat) (x y : UInt8) (hs : s.size ≤ 140737488351232) (hk : k < 65536) (hp : 3 + k = p) (a b : Nat) (ha : a < 256) (hb : b < 256) (hab : a * 256 + b = k) (h3 : 3 ≤ s.size) (i0 : ∀ w, (Instr.index 9 (.string s) (.int .i64 0)).run Tryz.prog w = .ok (.int .u8 0) w) (i1 : ∀ w, (Instr.index 9 (.string s) (.int .i64 1)).run Tryz.prog w = .ok (.int .u8 (a : Int)) w) (i2 : ∀ w, (Instr.index 9 (.string s) (.int .i64 2)).run Tryz.prog w = .ok (.int .u8 (b : Int)) w) (hk0 : k ≠ 0) (hl : p < s.size) (ix : ∀ w, (Instr.index 9 (.string s) (.int .i64 3)).run Tryz.prog w = .ok (.int .u8 (x.toNat : Int)) w) (hx : x.toNat ≠ 0) (iy : ∀ w, (Instr.index 9 (.string s) (.int .i64 (p : Int))).run Tryz.prog w = .ok (.int .u8 (y.toNat : Int)) w) (hy : y.toNat ≠ 0) (hc : 256 < k) (W : World) : Calls Tryz.prog 19 #[.string s] W fun e w' => RrPost 0 0 false W e w' := by
  have z1 : ¬ ((s.size : Int) < 1) := by omega
  have z3 : ¬ ((s.size : Int) < 3) := by omega
  have wa : IntKind.i64.wrap (a : Int) = (a : Int) := by rw [IntKind.wrap_i64]; omega
  have wb : IntKind.i64.wrap (b : Int) = (b : Int) := by rw [IntKind.wrap_i64]; omega
  have wm : IntKind.i64.wrap (256 * (a : Int)) = 256 * (a : Int) := by rw [IntKind.wrap_i64]; omega
  have ws : IntKind.i64.wrap (256 * (a : Int) + (b : Int)) = (k : Int) := by rw [IntKind.wrap_i64]; omega
  have c0 : ((k : Int) == 0) = false := by rw [beq_eq_false_iff_ne]; omega
  have wp : IntKind.i64.wrap (3 + (k : Int)) = (p : Int) := by rw [IntKind.wrap_i64]; omega
  have c1 : ¬ ((s.size : Int) ≤ (p : Int)) := by omega
  have c2 : ((x.toNat : Int) == 0) = false := by rw [beq_eq_false_iff_ne]; omega
  have c3 : ((y.toNat : Int) == 0) = false := by rw [beq_eq_false_iff_ne]; omega
  have c4 : (256 : Int) < (k : Int) := by omega
  clear hk ha hb hab hk0 hc hl hx hy
  go_enter Tryz.func19, Tryz.ntmps19
  go_wp2
  go_quiet (fail)
  go_wp2
  exact bodyPost_ret (v := .tuple #[.slice none 0 0, .slice none 0 0, .bool false]) (by simp [results, Tryz.results19, go_sem]) rfl (RrPost.no W _)
set_option maxRecDepth 100000 in
theorem rr3_q256 (s : ByteArray) (k p q : Nat) (x y : UInt8) (hs : s.size ≤ 140737488351232) (hk : k < 65536) (hp : 3 + k = p) (a b : Nat) (ha : a < 256) (hb : b < 256) (hab : a * 256 + b = k) (h3 : 3 ≤ s.size) (i0 : ∀ w, (Instr.index 9 (.string s) (.int .i64 0)).run Tryz.prog w = .ok (.int .u8 0) w) (i1 : ∀ w, (Instr.index 9 (.string s) (.int .i64 1)).run Tryz.prog w = .ok (.int .u8 (a : Int)) w) (i2 : ∀ w, (Instr.index 9 (.string s) (.int .i64 2)).run Tryz.prog w = .ok (.int .u8 (b : Int)) w) (hk0 : k ≠ 0) (hl : p < s.size) (ix : ∀ w, (Instr.index 9 (.string s) (.int .i64 3)).run Tryz.prog w = .ok (.int .u8 (x.toNat : Int)) w) (hx : x.toNat ≠ 0) (iy : ∀ w, (Instr.index 9 (.string s) (.int .i64 (p : Int))).run Tryz.prog w = .ok (.int .u8 (y.toNat : Int)) w) (hy : y.toNat ≠ 0) (h4 : k ≤ 256) (hq : s.size - p = q) (hc : 256 < q) (W : World) : Calls Tryz.prog 19 #[.string s] W fun e w' => RrPost 0 0 false W e w' := by
  have z1 : ¬ ((s.size : Int) < 1) := by omega
  have z3 : ¬ ((s.size : Int) < 3) := by omega
  have wa : IntKind.i64.wrap (a : Int) = (a : Int) := by rw [IntKind.wrap_i64]; omega
  have wb : IntKind.i64.wrap (b : Int) = (b : Int) := by rw [IntKind.wrap_i64]; omega
  have wm : IntKind.i64.wrap (256 * (a : Int)) = 256 * (a : Int) := by rw [IntKind.wrap_i64]; omega
  have ws : IntKind.i64.wrap (256 * (a : Int) + (b : Int)) = (k : Int) := by rw [IntKind.wrap_i64]; omega
  have c0 : ((k : Int) == 0) = false := by rw [beq_eq_false_iff_ne]; omega
  have wp : IntKind.i64.wrap (3 + (k : Int)) = (p : Int) := by rw [IntKind.wrap_i64]; omega
  have c1 : ¬ ((s.size : Int) ≤ (p : Int)) := by omega
  have c2 : ((x.toNat : Int) == 0) = false := by rw [beq_eq_false_iff_ne]; omega
  have c3 : ((y.toNat : Int) == 0) = false := by rw [beq_eq_false_iff_ne]; omega
  have c4 : ¬ ((256 : Int) < (k : Int)) := by omega
  have w6 : IntKind.i64.wrap ((s.size : Int) - 3) = (s.size : Int) - 3 := by rw [IntKind.wrap_i64]; omega
  have w7 : IntKind.i64.wrap ((s.size : Int) - 3 - (k : Int)) = (q : Int) := by rw [IntKind.wrap_i64]; omega
  have c5 : (256 : Int) < (q : Int) := by omega
  clear hk ha hb hab hk0 hc hl hx hy h4 hq
  go_enter Tryz.func19, Tryz.ntmps19
  go_wp2
  go_quiet (fail)
  go_wp2
  exact bodyPost_ret (v := .tuple #[.slice none 0 0, .slice none 0 0, .bool false]) (by simp [results, Tryz.results19, go_sem]) rfl (RrPost.no W _)
set_option maxRecDepth 100000 in
set_option maxHeartbeats 1000000 in
theorem rr3_rest (s : ByteArray) (k p q : Nat) (x y : UInt8) (hs : s.size ≤ 140737488351232) (hk : k < 65536) (hp : 3 + k = p) (a b : Nat) (ha : a < 256) (hb : b < 256) (hab : a * 256 + b = k) (h3 : 3 ≤ s.size) (i0 : ∀ w, (Instr.index 9 (.string s) (.int .i64 0)).run Tryz.prog w = .ok (.int .u8 0) w) (i1 : ∀ w, (Instr.index 9 (.string s) (.int .i64 1)).run Tryz.prog w = .ok (.int .u8 (a : Int)) w) (i2 : ∀ w, (Instr.index 9 (.string s) (.int .i64 2)).run Tryz.prog w = .ok (.int .u8 (b : Int)) w) (hk0 : k ≠ 0) (hl : p < s.size) (ix : ∀ w, (Instr.index 9 (.string s) (.int .i64 3)).run Tryz.prog w = .ok (.int .u8 (x.toNat : Int)) w) (hx : x.toNat ≠ 0) (iy : ∀ w, (Instr.index 9 (.string s) (.int .i64 (p : Int))).run Tryz.prog w = .ok (.int .u8 (y.toNat : Int)) w) (hy : y.toNat ≠ 0) (h4 : k ≤ 256) (hq : s.size - p = q) (h5 : q ≤ 256) (A B : Nat) (hA : Hid (numB (s.extract 3 p).data.toList = A)) (hB : Hid (numB (s.extract p s.size).data.toList = B)) (lA : A < Lim) (lB : B < Lim) (W : World) : Calls Tryz.prog 19 #[.string s] W fun e w' => RrPost (if btl B < 496 then 0 else A) (if btl B < 496 then 0 else B) (!decide (btl B < 496)) W e w' := by
  have z1 : ¬ ((s.size : Int) < 1) := by omega
  have z3 : ¬ ((s.size : Int) < 3) := by omega
  have wa : IntKind.i64.wrap (a : Int) = (a : Int) := by rw [IntKind.wrap_i64]; omega
  have wb : IntKind.i64.wrap (b : Int) = (b : Int) := by rw [IntKind.wrap_i64]; omega
  have wm : IntKind.i64.wrap (256 * (a : Int)) = 256 * (a : Int) := by rw [IntKind.wrap_i64]; omega
  have ws : IntKind.i64.wrap (256 * (a : Int) + (b : Int)) = (k : Int) := by rw [IntKind.wrap_i64]; omega
  have c0 : ((k : Int) == 0) = false := by rw [beq_eq_false_iff_ne]; omega
  have wp : IntKind.i64.wrap (3 + (k : Int)) = (p : Int) := by rw [IntKind.wrap_i64]; omega
  have c1 : ¬ ((s.size : Int) ≤ (p : Int)) := by omega
  have c2 : ((x.toNat : Int) == 0) = false := by rw [beq_eq_false_iff_ne]; omega
  have c3 : ((y.toNat : Int) == 0) = false := by rw [beq_eq_false_iff_ne]; omega
  have c4 : ¬ ((256 : Int) < (k : Int)) := by omega
  have w6 : IntKind.i64.wrap ((s.size : Int) - 3) = (s.size : Int) - 3 := by rw [IntKind.wrap_i64]; omega
  have w7 : IntKind.i64.wrap ((s.size : Int) - 3 - (k : Int)) = (q : Int) := by rw [IntKind.wrap_i64]; omega
  have c5 : ¬ ((256 : Int) < (q : Int)) := by omega
  have g1 : (3 : Int) ≤ (p : Int) := by omega
  have g2 : (p : Int) ≤ (s.size : Int) := by omega
  have g3 : (0 : Int) ≤ (p : Int) := by omega
  have e1 : (s.extract 3 p).size ≤ 140737488351232 := by rw [ByteArray.size_extract]; omega
  have e2 : (s.extract p s.size).size ≤ 140737488351232 := by rw [ByteArray.size_extract]; omega
  have H1 := Hid.mk (rof_in (s.extract 3 p) e1)
  have H2 := Hid.mk (rof_in (s.extract p s.size) e2)
  rw [hA.out] at H1
  rw [hB.out] at H2
  have LA := Hid.mk lA
  have LB := Hid.mk lB
  have hm : mny B ≤ 128 := mny_le B lB
  have HM := Hid.mk hm
  obtain ⟨c, hc⟩ : ∃ c, btl B = c := ⟨_, rfl⟩
  have HC := Hid.mk hc
  rw [hc]
  clear hc hm e1 e2 lA lB hk ha hb hab hk0 hx hy h4 h5 hl
  by_cases h6 : c < 496
  · rw [if_pos h6, if_pos h6, show (!decide (c < 496)) = false by simp [h6]]
    have c6 : (c : Int) < 496 := by omega
    go_enter Tryz.func19, Tryz.ntmps19
    go_wp2
    go_quiet (fail)
    go_wp2_with fail
    refine (H1.out _).mono ?_
    rintro e w1 ⟨v, vx, rfl, hv, _, hb1⟩
    obtain ⟨rfl, r1⟩ := hv LA.out
    have R1 := Hid.mk r1
    have B1 := Hid.mk (bthen (below_dn W _) hb1)
    clear hv hb1 r1
    go_wp2_with fail
    refine (H2.out _).mono ?_
    rintro e w2 ⟨u, ux, rfl, hu, _, hb2⟩
    obtain ⟨rfl, r2⟩ := hu LB.out
    have R2 := Hid.mk r2
    have R1' := Hid.mk (R1.out.blk hb2)
    have B2 := Hid.mk (bthen B1.out hb2)
    clear hu hb2 r2
    go_wp2_with fail
    refine (rbits_in _ _ _ R2.out (by have := HM.out; omega)).mono ?_
    rintro e w3 ⟨rfl, rfl⟩
    rw [HC.out]
    go_wp2
    exact bodyPost_ret (v := .tuple #[.slice none 0 0, .slice none 0 0, .bool false]) (by simp [results, Tryz.results19, go_sem]) rfl ⟨⟨_, _, rfl, RN.zero _, RN.zero _⟩, B2.out⟩
  · rw [if_neg h6, if_neg h6, show (!decide (c < 496)) = true by simp [h6]]
    have c6 : ¬ ((c : Int) < 496) := by omega
    go_enter Tryz.func19, Tryz.ntmps19
    go_wp2
    go_quiet (fail)
    go_wp2_with fail
    refine (H1.out _).mono ?_
    rintro e w1 ⟨v, vx, rfl, hv, _, hb1⟩
    obtain ⟨rfl, r1⟩ := hv LA.out
    have R1 := Hid.mk r1
    have B1 := Hid.mk (bthen (below_dn W _) hb1)
    clear hv hb1 r1
    go_wp2_with fail
    refine (H2.out _).mono ?_
    rintro e w2 ⟨u, ux, rfl, hu, _, hb2⟩
    obtain ⟨rfl, r2⟩ := hu LB.out
    have R2 := Hid.mk r2
    have R1' := Hid.mk (R1.out.blk hb2)
    have B2 := Hid.mk (bthen B1.out hb2)
    clear hu hb2 r2
    go_wp2_with fail
    refine (rbits_in _ _ _ R2.out (by have := HM.out; omega)).mono ?_
    rintro e w3 ⟨rfl, rfl⟩
    rw [HC.out]
    go_wp2
    exact bodyPost_ret (v := .tuple #[v, u, .bool true]) (by simp [results, Tryz.results19, go_sem]) rfl ⟨⟨_, _, rfl, R1'.out, R2.out⟩, B2.out⟩
theorem nbl_first (l : List UInt8) (h : 0 < l.length) (h0 : l[0]?.getD 0 ≠ 0) : 256 ^ (l.length - 1) ≤ numB l := by
  cases l with
  | nil => simp at h
  | cons x l =>
    have hx : x.toNat ≠ 0 := fun hc => h0 (by simpa using UInt8.toNat_inj.1 hc)
    simp only [numB, List.length_cons, Nat.add_sub_cancel]
    refine Nat.le_trans ?_ (Nat.le_add_right _ _)
    exact Nat.le_mul_of_pos_left _ (by omega)
theorem btl_first (l : List UInt8) (h : 0 < l.length) (h0 : l[0]?.getD 0 ≠ 0) : 8 * (l.length - 1) < btl (numB l) ∧ btl (numB l) ≤ 8 * l.length := by
  have h1 := (nbl_le_iff (numB l) l.length).2 (numB_lt l)
  have h2 : ¬ nbl (numB l) ≤ l.length - 1 := fun hc => by
    have := (nbl_le_iff (numB l) (l.length - 1)).1 hc
    have := nbl_first l h h0
    omega
  unfold nbl at h1 h2
  omega
theorem nkR_no {l : List UInt8} {least : Nat} (h : l.length = 0 ∨ l[0]?.getD 0 = 0 ∨ 256 < l.length ∨ btl (numB l) < least) : (nkR l least).2 = false := by
  unfold nkR
  by_cases hz : l.length = 0 ∨ l[0]?.getD 0 = 0
  · rw [if_pos (by rcases hz with h | h; · exact .inl h
                   · exact .inr (.inl h))]
  · have hb := btl_first l (by omega) (fun hc => hz (.inr hc))
    rw [if_pos]
    rcases h with h | h | h | h
    · exact .inl h
    · exact .inr (.inl h)
    · exact .inr (.inr (.inr (.inr (by omega))))
    · exact .inr (.inr (.inr (.inl h)))
theorem nkR_yes {l : List UInt8} {least : Nat} (h1 : 0 < l.length) (h2 : l[0]?.getD 0 ≠ 0) (h3 : l.length ≤ 256) (h4 : least ≤ btl (numB l)) : nkR l least = (numB l, true) := by
  have hb := btl_first l h1 h2
  unfold nkR
  rw [if_neg]
  rintro (h | h | h | h | h)
  · omega
  · exact h2 h
  · omega
  · omega
  · omega
/-- what makes a key. -/
def KeyOk (E M : List UInt8) : Prop := 0 < E.length ∧ E[0]?.getD 0 ≠ 0 ∧ E.length ≤ 256 ∧ 0 < M.length ∧ M[0]?.getD 0 ≠ 0 ∧ M.length ≤ 256 ∧ 496 ≤ btl (numB M)
theorem rsa_yes {s : ByteArray} {E M : List UInt8} (h1 : (splB s).1.data.toList = E) (h2 : (splB s).2.data.toList = M) (h : KeyOk E M) : rsaR s = some (numB E, numB M) := by
  obtain ⟨a, b, c, d, e, f, g⟩ := h
  unfold rsaR
  have hb := btl_first E a b
  rw [h1, h2, nkR_yes a b c (by omega), nkR_yes d e f g]
  rfl
theorem rsa_no {s : ByteArray} {E M : List UInt8} (h1 : (splB s).1.data.toList = E) (h2 : (splB s).2.data.toList = M) (h : ¬ KeyOk E M) : rsaR s = none := by
  unfold rsaR
  rw [h1, h2]
  by_cases c : E.length = 0 ∨ E[0]?.getD 0 = 0 ∨ 256 < E.length
  · rw [nkR_no (least := 1) (by rcases c with c | c | c; · exact .inl c
                                · exact .inr (.inl c)
                                · exact .inr (.inr (.inl c))), if_neg (by simp)]
  · by_cases d : M.length = 0 ∨ M[0]?.getD 0 = 0 ∨ 256 < M.length ∨ btl (numB M) < 496
    · rw [nkR_no (l := M) d, if_neg (by simp)]
    · exact absurd ⟨by omega, fun hc => c (.inr (.inl hc)), by omega, by omega, fun hc => d (.inr (.inl hc)), by omega, by omega⟩ h
theorem kext_list (s : ByteArray) (a b : Nat) : (s.extract a b).data.toList = (s.data.toList.take b).drop a := by
  rw [ByteArray.data_extract, Array.toList_extract, List.extract_eq_take_drop, List.drop_take]
theorem at_drop (l : List UInt8) (a : Nat) : (l.drop a)[0]?.getD 0 = l[a]?.getD 0 := by rw [List.getElem?_drop]; rfl
theorem at_take (l : List UInt8) (a k : Nat) (hk : k ≠ 0) : ((l.drop a).take k)[0]?.getD 0 = l[a]?.getD 0 := by rw [List.getElem?_take_of_lt (by omega), List.getElem?_drop]; rfl
theorem idx_get (s : ByteArray) (k : Nat) (h : k < s.size) (w : World) : (Instr.index 9 (.string s) (.int .i64 (k : Int))).run Tryz.prog w = .ok (.int .u8 ((s.data.toList[k]?.getD 0).toNat : Int)) w := by
  rw [idx_at s k h w, List.getElem?_eq_getElem (by rw [size_list]; exact h)]
  rfl
/-- the parts that both speak of. -/
theorem spl_parts (s : ByteArray) (h0 : 0 < s.size) (a k : Nat) (hak : (s[0].toNat ≠ 0 ∧ a = 1 ∧ k = s[0].toNat) ∨ (s[0].toNat = 0 ∧ ∃ h3 : 3 ≤ s.size, a = 3 ∧ k = s[1].toNat * 256 + s[2].toNat)) :
    (a + k ≤ s.size → (splB s).1.data.toList = (s.data.toList.drop a).take k ∧ (splB s).2.data.toList = s.data.toList.drop (a + k)) ∧ (s.size < a + k → (splB s).1.data.toList = []) := by
  have key : ∀ (r : ByteArray), r.data.toList = s.data.toList.drop a → r.size = s.size - a → a ≤ s.size → (a + k ≤ s.size → (cutB r k).1.data.toList = (s.data.toList.drop a).take k ∧ (cutB r k).2.data.toList = s.data.toList.drop (a + k)) ∧ (s.size < a + k → (cutB r k).1.data.toList = []) := by
    intro r hr hz ha
    constructor
    · intro hle
      unfold cutB
      rw [if_pos (by omega)]
      refine ⟨by rw [kext_list, hr, List.drop_zero], ?_⟩
      rw [kext_list, hr, List.take_of_length_le (by rw [List.length_drop, size_list]; omega), List.drop_drop]
    · intro hlt
      unfold cutB
      rw [if_neg (by omega)]
  have e1 : (s.extract 1 s.size).data.toList = s.data.toList.drop 1 := by rw [kext_list, List.take_of_length_le (by rw [size_list]; omega)]
  have z1 : (s.extract 1 s.size).size = s.size - 1 := by rw [ByteArray.size_extract]; omega
  unfold splB
  rw [dif_pos h0]
  rcases hak with ⟨hz, rfl, rfl⟩ | ⟨hz, h3, rfl, rfl⟩
  · rw [dif_neg (fun hc => hz hc.1)]
    exact key _ e1 z1 (by omega)
  · rw [dif_pos ⟨hz, h3⟩]
    refine key _ ?_ ?_ h3
    · rw [kext_list, e1, List.take_of_length_le (by rw [List.length_drop, size_list]; omega), List.drop_drop]
    · rw [ByteArray.size_extract, z1]; omega
theorem rrh1 (s : ByteArray) (hs : s.size ≤ 140737488351232) (h0 : 0 < s.size) (hz : s[0].toNat ≠ 0) (W : World) : Calls Tryz.prog 19 #[.string s] W fun e w' => RrPost ((rsaR s).getD (0, 0)).1 ((rsaR s).getD (0, 0)).2 (rsaR s).isSome W e w' := by
  obtain ⟨k, hk⟩ : ∃ k, s[0].toNat = k := ⟨_, rfl⟩
  have hkb : k < 256 := by have := s[0].toNat_lt; omega
  have i0 : ∀ w, (Instr.index 9 (.string s) (.int .i64 0)).run Tryz.prog w = .ok (.int .u8 (k : Int)) w := fun w => by
    have := idx_at s 0 h0 w
    rw [hk] at this
    exact this
  have hk0 : k ≠ 0 := by omega
  have parts := spl_parts s h0 1 k (.inl ⟨hz, rfl, hk.symm⟩)
  obtain ⟨p, hp⟩ : ∃ p, 1 + k = p := ⟨_, rfl⟩
  by_cases hl : s.size ≤ p
  · have hr : rsaR s = none := by
      by_cases hlt : s.size < p
      · exact rsa_no (parts.2 (by omega)) rfl (fun h => by have := h.1; simp at this)
      · refine rsa_no rfl (parts.1 (by omega)).2 (fun h => ?_)
        have := h.2.2.2.1
        rw [List.length_drop, size_list] at this
        omega
    rw [hr]
    exact rr1_len s k p 0 0 0 hs (by omega) hp h0 hk0 i0 hkb  hl W
  have pt := parts.1 (by omega)
  have lE : ((s.data.toList.drop 1).take k).length = k := by rw [List.length_take, List.length_drop, size_list]; omega
  have lM : (s.data.toList.drop p).length = s.size - p := by rw [List.length_drop, size_list]
  rw [hp] at pt
  have ix : ∀ w, (Instr.index 9 (.string s) (.int .i64 1)).run Tryz.prog w = .ok (.int .u8 ((s.data.toList[1]?.getD 0).toNat : Int)) w := fun w => idx_get s 1 (by omega) w
  have iy : ∀ w, (Instr.index 9 (.string s) (.int .i64 (p : Int))).run Tryz.prog w = .ok (.int .u8 ((s.data.toList[p]?.getD 0).toNat : Int)) w := fun w => idx_get s p (by omega) w
  have eE := at_take s.data.toList 1 k hk0
  have eM := at_drop s.data.toList p
  by_cases hx : (s.data.toList[1]?.getD 0).toNat = 0
  · have hr : rsaR s = none := rsa_no pt.1 pt.2 (fun h => h.2.1 (by rw [eE]; exact UInt8.toNat_inj.1 hx))
    rw [hr]
    exact rr1_x0 s k p 0 _ 0 hs (by omega) hp h0 hk0 i0 hkb  (by omega) ix hx W
  by_cases hy : (s.data.toList[p]?.getD 0).toNat = 0
  · have hr : rsaR s = none := rsa_no pt.1 pt.2 (fun h => h.2.2.2.2.1 (by rw [eM]; exact UInt8.toNat_inj.1 hy))
    rw [hr]
    exact rr1_y0 s k p 0 _ _ hs (by omega) hp h0 hk0 i0 hkb  (by omega) ix hx iy hy W
  by_cases h4 : 256 < k
  · have hr : rsaR s = none := rsa_no pt.1 pt.2 (fun h => by have := h.2.2.1; rw [lE] at this; omega)
    rw [hr]
    exact rr1_k256 s k p 0 _ _ hs (by omega) hp h0 hk0 i0 hkb  (by omega) ix hx iy hy h4 W
  by_cases h5 : 256 < s.size - p
  · have hr : rsaR s = none := rsa_no pt.1 pt.2 (fun h => by have := h.2.2.2.2.2.1; rw [lM] at this; omega)
    rw [hr]
    exact rr1_q256 s k p _ _ _ hs (by omega) hp h0 hk0 i0 hkb  (by omega) ix hx iy hy (by omega) rfl h5 W
  have e1 : (s.extract 1 p).data.toList = (s.data.toList.drop 1).take k := by rw [kext_list, List.drop_take, ← hp, Nat.add_sub_cancel_left]
  have e2 : (s.extract p s.size).data.toList = s.data.toList.drop p := by rw [kext_list, List.take_of_length_le (by rw [size_list]; omega)]
  have main := rr1_rest s k p _ _ _ hs (by omega) hp h0 hk0 i0 hkb  (by omega) ix hx iy hy (by omega) rfl (by omega) (numB ((s.data.toList.drop 1).take k)) (numB (s.data.toList.drop p)) (Hid.mk (by rw [e1])) (Hid.mk (by rw [e2])) (knum_lim _ (by omega)) (knum_lim _ (by omega)) W
  by_cases h6 : btl (numB (s.data.toList.drop p)) < 496
  · have hr : rsaR s = none := rsa_no pt.1 pt.2 (fun h => by have := h.2.2.2.2.2.2; omega)
    rw [hr]
    rwa [if_pos h6, if_pos h6, decide_eq_true h6] at main
  · have hr : rsaR s = some (numB ((s.data.toList.drop 1).take k), numB (s.data.toList.drop p)) := rsa_yes pt.1 pt.2 ⟨by omega, fun hc => hx (by rw [← eE, hc]; rfl), by omega, by omega, fun hc => hy (by rw [← eM, hc]; rfl), by omega, by omega⟩
    rw [hr]
    rwa [if_neg h6, if_neg h6, decide_eq_false h6] at main
theorem rrh3 (s : ByteArray) (hs : s.size ≤ 140737488351232) (h3 : 3 ≤ s.size) (hz : s[0].toNat = 0) (W : World) : Calls Tryz.prog 19 #[.string s] W fun e w' => RrPost ((rsaR s).getD (0, 0)).1 ((rsaR s).getD (0, 0)).2 (rsaR s).isSome W e w' := by
  obtain ⟨k, hk⟩ : ∃ k, s[1].toNat * 256 + s[2].toNat = k := ⟨_, rfl⟩
  have ha := s[1].toNat_lt
  have hb := s[2].toNat_lt
  have hkb : k < 65536 := by omega
  have i0 : ∀ w, (Instr.index 9 (.string s) (.int .i64 0)).run Tryz.prog w = .ok (.int .u8 0) w := fun w => by
    have := idx_at s 0 (by omega) w
    rw [hz] at this
    exact this
  have i1 : ∀ w, (Instr.index 9 (.string s) (.int .i64 1)).run Tryz.prog w = .ok (.int .u8 (s[1].toNat : Int)) w := fun w => idx_at s 1 (by omega) w
  have i2 : ∀ w, (Instr.index 9 (.string s) (.int .i64 2)).run Tryz.prog w = .ok (.int .u8 (s[2].toNat : Int)) w := fun w => idx_at s 2 (by omega) w
  have parts := spl_parts s (by omega) 3 k (.inr ⟨hz, h3, rfl, hk.symm⟩)
  obtain ⟨p, hp⟩ : ∃ p, 3 + k = p := ⟨_, rfl⟩
  by_cases hk0 : k = 0
  · have hr : rsaR s = none := rsa_no (parts.1 (by omega)).1 rfl (fun h => by have := h.1; rw [hk0] at this; simp at this)
    rw [hr]
    exact rr3_k0 s k p 0 0 0 hs (by omega) hp s[1].toNat s[2].toNat ha hb hk h3 i0 i1 i2 hk0 W
  by_cases hl : s.size ≤ p
  · have hr : rsaR s = none := by
      by_cases hlt : s.size < p
      · exact rsa_no (parts.2 (by omega)) rfl (fun h => by have := h.1; simp at this)
      · refine rsa_no rfl (parts.1 (by omega)).2 (fun h => ?_)
        have := h.2.2.2.1
        rw [List.length_drop, size_list] at this
        omega
    rw [hr]
    exact rr3_len s k p 0 0 0 hs (by omega) hp s[1].toNat s[2].toNat ha hb hk h3 i0 i1 i2 hk0 hl W
  have pt := parts.1 (by omega)
  have lE : ((s.data.toList.drop 3).take k).length = k := by rw [List.length_take, List.length_drop, size_list]; omega
  have lM : (s.data.toList.drop p).length = s.size - p := by rw [List.length_drop, size_list]
  rw [hp] at pt
  have ix : ∀ w, (Instr.index 9 (.string s) (.int .i64 3)).run Tryz.prog w = .ok (.int .u8 ((s.data.toList[3]?.getD 0).toNat : Int)) w := fun w => idx_get s 3 (by omega) w
  have iy : ∀ w, (Instr.index 9 (.string s) (.int .i64 (p : Int))).run Tryz.prog w = .ok (.int .u8 ((s.data.toList[p]?.getD 0).toNat : Int)) w := fun w => idx_get s p (by omega) w
  have eE := at_take s.data.toList 3 k hk0
  have eM := at_drop s.data.toList p
  by_cases hx : (s.data.toList[3]?.getD 0).toNat = 0
  · have hr : rsaR s = none := rsa_no pt.1 pt.2 (fun h => h.2.1 (by rw [eE]; exact UInt8.toNat_inj.1 hx))
    rw [hr]
    exact rr3_x0 s k p 0 _ 0 hs (by omega) hp s[1].toNat s[2].toNat ha hb hk h3 i0 i1 i2 hk0 (by omega) ix hx W
  by_cases hy : (s.data.toList[p]?.getD 0).toNat = 0
  · have hr : rsaR s = none := rsa_no pt.1 pt.2 (fun h => h.2.2.2.2.1 (by rw [eM]; exact UInt8.toNat_inj.1 hy))
    rw [hr]
    exact rr3_y0 s k p 0 _ _ hs (by omega) hp s[1].toNat s[2].toNat ha hb hk h3 i0 i1 i2 hk0 (by omega) ix hx iy hy W
  by_cases h4 : 256 < k
  · have hr : rsaR s = none := rsa_no pt.1 pt.2 (fun h => by have := h.2.2.1; rw [lE] at this; omega)
    rw [hr]
    exact rr3_k256 s k p 0 _ _ hs (by omega) hp s[1].toNat s[2].toNat ha hb hk h3 i0 i1 i2 hk0 (by omega) ix hx iy hy h4 W
  by_cases h5 : 256 < s.size - p
  · have hr : rsaR s = none := rsa_no pt.1 pt.2 (fun h => by have := h.2.2.2.2.2.1; rw [lM] at this; omega)
    rw [hr]
    exact rr3_q256 s k p _ _ _ hs (by omega) hp s[1].toNat s[2].toNat ha hb hk h3 i0 i1 i2 hk0 (by omega) ix hx iy hy (by omega) rfl h5 W
  have e1 : (s.extract 3 p).data.toList = (s.data.toList.drop 3).take k := by rw [kext_list, List.drop_take, ← hp, Nat.add_sub_cancel_left]
  have e2 : (s.extract p s.size).data.toList = s.data.toList.drop p := by rw [kext_list, List.take_of_length_le (by rw [size_list]; omega)]
  have main := rr3_rest s k p _ _ _ hs (by omega) hp s[1].toNat s[2].toNat ha hb hk h3 i0 i1 i2 hk0 (by omega) ix hx iy hy (by omega) rfl (by omega) (numB ((s.data.toList.drop 3).take k)) (numB (s.data.toList.drop p)) (Hid.mk (by rw [e1])) (Hid.mk (by rw [e2])) (knum_lim _ (by omega)) (knum_lim _ (by omega)) W
  by_cases h6 : btl (numB (s.data.toList.drop p)) < 496
  · have hr : rsaR s = none := rsa_no pt.1 pt.2 (fun h => by have := h.2.2.2.2.2.2; omega)
    rw [hr]
    rwa [if_pos h6, if_pos h6, decide_eq_true h6] at main
  · have hr : rsaR s = some (numB ((s.data.toList.drop 3).take k), numB (s.data.toList.drop p)) := rsa_yes pt.1 pt.2 ⟨by omega, fun hc => hx (by rw [← eE, hc]; rfl), by omega, by omega, fun hc => hy (by rw [← eM, hc]; rfl), by omega, by omega⟩
    rw [hr]
    rwa [if_neg h6, if_neg h6, decide_eq_false h6] at main
/-- the document's Rsa, by the program's. -/
theorem rrsa_in (s : ByteArray) (hs : s.size ≤ 140737488351232) (W : World) : Calls Tryz.prog 19 #[.string s] W fun e w' => RrPost ((rsaR s).getD (0, 0)).1 ((rsaR s).getD (0, 0)).2 (rsaR s).isSome W e w' := by
  by_cases h0 : 0 < s.size
  · by_cases hz : s[0].toNat = 0
    · by_cases h3 : 3 ≤ s.size
      · exact rrh3 s hs h3 hz W
      · have hr : rsaR s = none := by
          refine rsa_no (E := []) (M := _) ?_ rfl (fun h => by have := h.1; simp at this)
          unfold splB
          rw [dif_pos h0, dif_neg (fun hc => h3 hc.2)]
          unfold cutB
          rw [if_pos (by omega)]
          rw [kext_list, hz, List.drop_zero, List.take_zero]
        rw [hr]
        refine rr_short s h0 (by omega) (fun w => ?_) W
        have := idx_at s 0 h0 w
        rw [hz] at this
        exact this
    · exact rrh1 s hs h0 hz W
  · obtain rfl : s = ⟨#[]⟩ := by
      apply ba_ext
      have : s.data.toList.length = 0 := by rw [size_list]; omega
      rw [List.length_eq_zero_iff.1 this]
    have hr : rsaR ⟨#[]⟩ = none := rsa_no (E := []) (M := []) rfl rfl (fun h => by have := h.1; simp at this)
    rw [hr]
    exact rr_empty W
end Go.Proofs.YtlcjagkfeakinaaGreatDoor.N

/- KeysRsa: the walk. -/
namespace Go.Proofs.YtlcjagkfeakinaaGreatDoor
set_option linter.unusedVariables false
open Go.RowKit
attribute [local go_sem ↓] N.loadAt_nat N.storeAt_nat N.build_nat N.build_nat'
attribute [local go_sem] N.st1 N.st2a N.st2b N.natBuild_run

theorem nkR_lim (l : List UInt8) (least : Nat) : (N.nkR l least).1 < N.Lim := by
  unfold N.nkR
  split
  · exact Nat.pow_pos (by omega)
  · rename_i h
    exact N.knum_lim l (by omega)
theorem rsa_lim (s : ByteArray) : ((N.rsaR s).getD (0, 0)).1 < N.Lim ∧ ((N.rsaR s).getD (0, 0)).2 < N.Lim := by
  unfold N.rsaR
  split
  · exact ⟨nkR_lim _ _, nkR_lim _ _⟩
  · exact ⟨Nat.pow_pos (by omega), Nat.pow_pos (by omega)⟩
set_option maxRecDepth 100000 in
theorem is_in (A : Nat) (hA : A < N.Lim) (v : Value) (W : World) (hv : N.RN W v A) : Calls Tryz.prog 20 #[.agg (N.natL A).toArray, v] W fun e w' => e = .returned (.bool true) ∧ Below W.heap.size W w' := by
  have HB := Hid.mk (N.bytes_in A hA)
  have HV := Hid.mk hv
  have h4 := N.btl_le A hA
  have H4 := Hid.mk h4
  have l2 := N.natLoad_run (heap_new W (.cells (N.natL A).toArray 43))
  clear hv h4
  go_enter Tryz.func20, Tryz.ntmps20
  go_wp2_with fail
  refine (HB.out _).mono ?_
  rintro e w1 ⟨rfl, hb1⟩
  have hA1 := ((Below.refl W.heap.size W).alloc (Nat.le_refl _) (.cells (N.natL A).toArray 43)).trans (hb1.mono (by simp))
  go_wp2_with fail
  refine (N.rbytes_in _ v A (HV.out.blk hA1) (by have := H4.out; omega)).mono ?_
  rintro e w2 ⟨rfl, hb2⟩
  go_wp2
  go_ret
  exact ⟨by simp, bth hA1 hb2 hA1.size⟩
set_option maxRecDepth 100000 in
set_option maxHeartbeats 1000000 in
theorem keysrsa_gen (s : ByteArray) (A B : Nat) (ok : Bool) (lA : A < N.Lim) (lB : B < N.Lim)
    (HR : Hid (∀ W, Calls Tryz.prog 18 #[.string s] W fun e w' => e = .returned (.tuple #[.agg (N.natL A).toArray, .agg (N.natL B).toArray, .int .i64 (if ok then 0 else 8)]) ∧ Below W.heap.size W w'))
    (HF : Hid (∀ W, Calls Tryz.prog 19 #[.string s] W fun e w' => N.RrPost A B ok W e w')) (W : World) (hG : G.Rk W) :
    Calls Tryz.prog 4 #[.string s] W fun e w' => e = .returned (.bool true) ∧ Below W.heap.size W w' := by
  have HX := Hid.mk kexamples_in
  have G0 := Hid.mk hG
  have hz := N.zero26
  clear hG
  cases ok with
  | true =>
    go_enter Tryz.func4, Tryz.ntmps4
    go_wp2_with fail
    refine (HX.out _ G0.out).mono ?_
    rintro e w1 ⟨rfl, hb1⟩
    go_wp2_with fail
    refine (HR.out _).mono ?_
    rintro e w2 ⟨rfl, hb2⟩
    have B2 := Hid.mk (bth hb1 hb2 hb1.size)
    obtain ⟨x0, x1, _, _⟩ := N.two_new w2 (N.natL A) (N.natL B) 43 43
    have X0 := Hid.mk x0
    have X1 := Hid.mk x1
    have hA := (B2.out.alloc B2.out.size (.cells (N.natL A).toArray 43)).alloc (Nat.le_trans B2.out.size (by simp)) (.cells (N.natL B).toArray 43)
    have BA := Hid.mk hA
    clear hb1 hb2 x0 x1 hA
    go_wp2_with fail
    refine (HF.out _).mono ?_
    rintro e w3 ⟨⟨v, u, rfl, hv, hu⟩, hb3⟩
    have l0 := N.natLoad_run ((hb3.block _ (N.box_lt X0.out)).trans X0.out)
    have Y1 := Hid.mk ((hb3.block _ (N.box_lt X1.out)).trans X1.out)
    have B3 := Hid.mk (bth BA.out hb3 BA.out.size)
    have HV := Hid.mk hv
    have HU := Hid.mk hu
    clear hb3 hv hu
    go_wp2_with fail
    refine (is_in A lA v _ HV.out).mono ?_
    rintro e w4 ⟨rfl, hb4⟩
    have l1 := N.natLoad_run ((hb4.block _ (N.box_lt Y1.out)).trans Y1.out)
    have HU4 := Hid.mk (HU.out.blk hb4)
    have B4 := Hid.mk (bth B3.out hb4 B3.out.size)
    clear hb4 l0
    go_wp2_with fail
    refine (is_in B lB u _ HU4.out).mono ?_
    rintro e w5 ⟨rfl, hb5⟩
    have B5 := Hid.mk (bth B4.out hb5 B4.out.size)
    clear hb5
    go_wp2
    go_ret
    exact ⟨rfl, B5.out⟩
  | false =>
    go_enter Tryz.func4, Tryz.ntmps4
    go_wp2_with fail
    refine (HX.out _ G0.out).mono ?_
    rintro e w1 ⟨rfl, hb1⟩
    go_wp2_with fail
    refine (HR.out _).mono ?_
    rintro e w2 ⟨rfl, hb2⟩
    have B2 := Hid.mk (bth hb1 hb2 hb1.size)
    obtain ⟨x0, x1, _, _⟩ := N.two_new w2 (N.natL A) (N.natL B) 43 43
    have X0 := Hid.mk x0
    have X1 := Hid.mk x1
    have hA := (B2.out.alloc B2.out.size (.cells (N.natL A).toArray 43)).alloc (Nat.le_trans B2.out.size (by simp)) (.cells (N.natL B).toArray 43)
    have BA := Hid.mk hA
    clear hb1 hb2 x0 x1 hA
    go_wp2_with fail
    refine (HF.out _).mono ?_
    rintro e w3 ⟨⟨v, u, rfl, hv, hu⟩, hb3⟩
    have l0 := N.natLoad_run ((hb3.block _ (N.box_lt X0.out)).trans X0.out)
    have Y1 := Hid.mk ((hb3.block _ (N.box_lt X1.out)).trans X1.out)
    have B3 := Hid.mk (bth BA.out hb3 BA.out.size)
    have HV := Hid.mk hv
    have HU := Hid.mk hu
    clear hb3 hv hu
    go_wp2_with fail
    refine (is_in A lA v _ HV.out).mono ?_
    rintro e w4 ⟨rfl, hb4⟩
    have l1 := N.natLoad_run ((hb4.block _ (N.box_lt Y1.out)).trans Y1.out)
    have HU4 := Hid.mk (HU.out.blk hb4)
    have B4 := Hid.mk (bth B3.out hb4 B3.out.size)
    clear hb4 l0
    go_wp2_with fail
    refine (is_in B lB u _ HU4.out).mono ?_
    rintro e w5 ⟨rfl, hb5⟩
    have B5 := Hid.mk (bth B4.out hb5 B4.out.size)
    clear hb5
    go_wp2
    go_ret
    exact ⟨rfl, B5.out⟩
theorem keysrsa_walk (s : ByteArray) (hs : s.size ≤ 140737488351232) (W : World) (hG : G.Rk W) :
    Calls Tryz.prog 4 #[.string s] W fun e w' => e = .returned (.bool true) ∧ Below W.heap.size W w' :=
  keysrsa_gen s _ _ _ (rsa_lim s).1 (rsa_lim s).2 (Hid.mk fun W => N.krsa_in s (by omega) W) (Hid.mk fun W => N.rrsa_in s hs W) W hG
end Go.Proofs.YtlcjagkfeakinaaGreatDoor
