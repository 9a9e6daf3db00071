/- The document's Bits, Cmp. -/
import Derived.Test.YthjhemodmdficaaDoorNR1
namespace Go.Proofs.YthjhemodmdficaaDoor
set_option linter.unusedVariables false
open Go.RowKit
theorem btl_half (d : Nat) (h : d ≠ 0) : btl d = btl (d / 2) + 1 := by
  unfold btl
  rw [if_neg h]
  by_cases h2 : d / 2 = 0
  · rw [if_pos h2, show d = 1 by omega]; rfl
  · rw [if_neg h2]
    have e : Nat.log2 d = Nat.log2 (d / 2) + 1 := by
      rw [Nat.log2_def d, if_pos (by omega)]
    omega
theorem btl_digits (ds : List (BitVec 32)) (j : Nat) (hl : ds.length = j + 1) (h0 : (ds[j]?.getD 0).toNat ≠ 0) : btl (val ds) = 32 * j + btl (ds[j]?.getD 0).toNat := by
  have h1 := val_take_succ ds j (by omega)
  rw [List.take_of_length_le (by omega)] at h1
  have h2 := val_lt (ds.take j)
  rw [List.length_take, Nat.min_eq_left (by omega)] at h2
  have hp : 0 < 4294967296 ^ j := Nat.pow_pos (by omega)
  have hne : val ds ≠ 0 := by
    rw [h1]
    have := Nat.mul_pos hp (Nat.pos_of_ne_zero h0)
    omega
  have h3 := log_top j (ds[j]?.getD 0).toNat (val (ds.take j)) (Nat.pos_of_ne_zero h0) h2
  unfold btl
  rw [if_neg hne, if_neg h0, h1, h3]
  omega
theorem Tr.last {ds : List (BitVec 32)} (h : Tr ds) (j : Nat) (hl : ds.length = j + 1) : (ds[j]?.getD 0).toNat ≠ 0 := by
  rcases h with rfl | ⟨a, x, rfl, hx⟩
  · simp at hl
  · have : a.length = j := by simpa using hl
    subst this
    simpa using hx
set_option maxRecDepth 100000 in
set_option maxHeartbeats 400000 in
theorem rbits_in (W : World) (v : Value) (N : Nat) (h : RN W v N) (hN : mny N ≤ 70368744177664) : Calls Tryd.prog 16 #[v] W fun e w' => e = .returned (.int .i64 (btl N : Int)) ∧ w' = W := by
  obtain ⟨ds, hr, rfl, ht⟩ := h
  rcases hr.view with ⟨rfl, rfl⟩ | ⟨g, cap, rfl, hc, hm, hg, hcell, hrow⟩
  · have HZ : Hid (((btl (val []) : Nat) : Int) = 0) := rfl
    go_enter Tryd.func16, Tryd.ntmps16
    go_wp2
    go_ret
    exact ⟨ret_int HZ.out.symm, rfl⟩
  · have hmn := ht.many
    obtain ⟨L, hL⟩ : ∃ L, ds.length = L := ⟨_, rfl⟩
    have hL64 : L ≤ 70368744177664 := by omega
    rw [hL] at hcell ⊢
    clear hrow hmn hN
    rcases Nat.eq_zero_or_pos L with rfl | hL0
    · have HZ : Hid (((btl (val ds) : Nat) : Int) = 0) := by rw [List.eq_nil_of_length_eq_zero hL]; rfl
      clear hL hcell hc hr
      go_enter Tryd.func16, Tryd.ntmps16
      go_wp2
      go_ret
      exact ⟨ret_int HZ.out.symm, rfl⟩
    · obtain ⟨j, rfl⟩ : ∃ j, L = j + 1 := ⟨L - 1, by omega⟩
      have hcj := hcell j (by omega)
      have hne := ht.last j hL
      have HB := Hid.mk (btl_digits ds j hL hne)
      have hx := bv_lt (ds[j]?.getD 0)
      generalize (ds[j]?.getD 0).toNat = x at hcj HB hx
      have hb : btl x ≤ 32 := by
        unfold btl
        split
        · omega
        · rename_i h0
          have := (Nat.log2_lt h0).2 (show x < 2 ^ 32 by omega)
          omega
      have e1 : ((j + 1 : Nat) : Int) - 1 = (j : Int) := by omega
      have e3 : (j : Int) < ((j + 1 : Nat) : Int) := by omega
      have e4 : (0 : Int) ≤ (j : Int) := by omega
      have e5 : ((j : Int) + 1 == 0) = false := by rw [beq_eq_false_iff_ne]; omega
      have e6 : (j : Int) ≤ 70368744177664 := by omega
      obtain ⟨bx, hbx⟩ : ∃ bx, btl x = bx := ⟨_, rfl⟩
      have HBX := Hid.mk hbx
      rw [hbx] at HB hb
      clear hbx hL hcell hc hne hr ht
      go_enter Tryd.func16, Tryd.ntmps16
      go_wp2
      go_loopw [3, 4] (fun n d wr => ∃ (k y : Nat), n = .int .i64 (32 * (j : Int) + (k : Int)) ∧ d = .int .u32 (y : Int) ∧ y ≤ x ∧ k ≤ bx ∧ Hid (btl y + k = bx) ∧ wr = W) (fun _ d _ => (intOf d).toNat)
      case atStart => exact ⟨0, x, by go_num, rfl, Nat.le_refl _, by omega, by rw [Hid, HBX.out, Nat.add_zero], rfl⟩
      case round =>
        obtain ⟨k, y, rfl, rfl, hyx, hk, HY, rfl⟩ := hrel
        rcases Nat.eq_zero_or_pos y with rfl | hy
        · have HE : Hid (32 * (j : Int) + (k : Int) = ((btl (val ds) : Nat) : Int)) := by
            rw [Hid, HB.out]
            have : btl 0 + k = bx := HY.out
            have h0 : btl 0 = 0 := rfl
            omega
          go_wp2
          go_ret
          exact ⟨ret_int HE.out, rfl⟩
        · have HH := Hid.mk (btl_half y (by omega))
          have hk2 : k + 1 ≤ bx := by
            have := HY.out
            have := HH.out
            omega
          have hyi : (0 : Int) < (y : Int) := by omega
          obtain ⟨y2, hy2⟩ : ∃ y2, y / 2 = y2 := ⟨_, rfl⟩
          rw [hy2] at HH
          have hq : (y : Int) / 2 = (y2 : Int) := by omega
          have hq2 : (y : Int).tdiv 2 = (y2 : Int) := by rw [Int.tdiv_eq_ediv_of_nonneg (by omega)]; omega
          have hy2l : y2 < y := by omega
          have hq3 : IntKind.u32.wrap (y2 : Int) = (y2 : Int) := by rw [IntKind.wrap_u32]; omega
          clear hy2
          have hki : (k : Int) ≤ 32 := by omega
          go_wp2
          go_roundw
          case rel => exact ⟨k + 1, y2, by go_num, by first | rfl | go_num, by omega, hk2, by rw [Hid]; have := HY.out; have := HH.out; omega, trivial⟩
          case measure => simp [intOf]; omega
end Go.Proofs.YthjhemodmdficaaDoor
