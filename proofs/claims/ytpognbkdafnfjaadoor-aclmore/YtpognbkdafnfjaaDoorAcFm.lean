/- Layer 13: numbers told: FormatUint of base 10 and 16. -/
import Derived.Lib.ItoaMem
import Derived.Test.YtpognbkdafnfjaaDoorAcG
namespace Go.Proofs.YtpognbkdafnfjaaDoor
set_option linter.unusedVariables false
open Go.RowKit Go.Sort

theorem hexd_dec {d : Nat} (h : d < 10) : hexd d = UInt8.ofNat (48 + d) := by unfold hexd; rw [if_pos h]
theorem dec_dgs (u : Nat) (h : u < 1000) : Lib.decDigits u = dgs 10 2 u := by
  by_cases h1 : u < 10
  · rw [Lib.decDigits, dif_pos h1, dgs, if_pos h1, hexd_dec h1]
  · rw [Lib.decDigits, dif_neg h1, dgs, if_neg h1, hexd_dec (Nat.mod_lt _ (by decide))]
    congr 1
    by_cases h2 : u / 10 < 10
    · rw [Lib.decDigits, dif_pos h2, dgs, if_pos h2, hexd_dec h2]
    · rw [Lib.decDigits, dif_neg h2, dgs, if_neg h2, hexd_dec (Nat.mod_lt _ (by decide))]
      congr 1
      have h3 : u / 10 / 10 < 10 := by omega
      rw [Lib.decDigits, dif_pos h3, dgs, hexd_dec h3]
theorem holds_zero0 (w : World) (T : TypeId) (nd : Nat) (hs : nd ≤ 24) : Holds (fun (b : UInt8) => Value.int .u8 (b.toNat : Int)) (w.alloc (.cells Lib.zeros24 T)) w.heap.size 0 (Array.replicate nd (0 : UInt8)) := fun j hj => by
  have hj' : j < nd := by simpa using hj
  refine ⟨?_, World.frozen?_alloc_new _ _ _ _⟩
  rw [World.cell?_alloc_new, Lib.zeros24_at _ (by omega), getElem!_pos _ j hj]
  simp
theorem fin_pos0 (w : World) (o : Obj) (dk : Array UInt8) (k : Nat) : Below w.heap.size w ((putRow (fun (b : UInt8) => Value.int .u8 (b.toNat : Int)) (w.alloc o) w.heap.size 0 dk).drewN k) := by
  have h1 : Below w.heap.size w (w.alloc o) := by go_grown
  refine Below.trans h1 (Below.trans ?_ (below_dn _ _))
  refine ⟨rfl, rfl, rfl, by simp [putRow, mapBlock], fun b hb => ?_⟩
  have hne : b ≠ w.heap.size := by omega
  simp [putRow, mapBlock, Array.getElem?_modify, Ne.symm hne]

set_option maxRecDepth 100000 in
set_option maxHeartbeats 4000000 in
theorem fu10_in (u : Nat) (hu : u < 256) (w : World) (hG : AG w) :
    Calls Tryd.prog 37 #[.int .u64 (u : Int), .int .i64 10] w fun e w' => e = .returned (.string ⟨(dgs 10 2 u).toArray⟩) ∧ Below w.heap.size w w' := by
  rw [← dec_dgs u (by omega)]
  by_cases hs : u < 100
  · have HS := Hid.mk (Tryd.internal_strconv_small u hs)
    go_enter Tryd.func37, Tryd.ntmps37
    go_wp2_with fail
    refine (HS.out _).mono ?_
    rintro e w' ⟨rfl, rfl⟩
    go_wp2
    go_ret
    exact ⟨rfl, Below.refl _ _⟩
  · have hu1 : 1 ≤ u := by omega
    have hu64 : u < 18446744073709551616 := by omega
    have hnd20 : Lib.nDigits u ≤ 20 := by have := Lib.numDigits_eq u hu1 hu64; split at this <;> omega
    have hal : Tryd.prog.arrayLen 94 = 24 := by kernel_rfl
    have hsl1 : ∀ W, (Instr.sliceAt 94 (.pointer (some ⟨w.heap.size, 0, none⟩)) none (some (.int .i64 (Lib.nDigits u : Int))) none).run Tryd.prog W = .ok (.slice (some ⟨w.heap.size, 0, none⟩) (Lib.nDigits u) 24) W := fun W => by
      rw [run_sliceAt_array_h W 94 ⟨w.heap.size, 0, none⟩ (by simp [Program.arrayLen, Program.elem, Tryd.underlying94]) .i64 (Lib.nDigits u : Int) (by omega) (by rw [hal]; omega)]
      go_simp
      try omega
    have hH0 := holds_zero0 w 94 (Lib.nDigits u) (by omega)
    have hfmt := Tryd.internal_strconv_formatBase10 w.heap.size 0 24 u (Array.replicate (Lib.nDigits u) 0) (w.alloc (.cells Lib.zeros24 94)) hH0 (by rw [Array.size_replicate]; exact Lib.lt_pow_nDigits u) hu64 (by rw [Array.size_replicate]; omega)
    rw [Array.size_replicate] at hfmt
    have HH0 := Hid.mk hH0
    have HF := Hid.mk hfmt
    have HND := Hid.mk (fun (o : Obj) => Tryd.internal_strconv_numDigits u hu1 hu64 (w.alloc o) (Lib.tabIs_alloc hG.pow _))
    clear hH0 hal hfmt hG
    go_enter Tryd.func37, Tryd.ntmps37
    go_wp2_with fail
    refine (HND.out _).mono ?_
    rintro e w' ⟨rfl, rfl⟩
    go_wp2_with fail
    refine HF.out.mono ?_
    rintro e w' ⟨rfl, k, v', dk, rfl, hF⟩
    have hcv : (convert 79 9 (.slice (some ⟨w.heap.size, 0, none⟩) (Lib.nDigits u) 24)).run Tryd.prog ((putRow (fun (b : UInt8) => Value.int .u8 (b.toNat : Int)) (w.alloc (.cells Lib.zeros24 94)) w.heap.size 0 dk).drewN k) = .ok (.string ⟨(Lib.decDigits u).toArray⟩) ((putRow (fun (b : UInt8) => Value.int .u8 (b.toNat : Int)) (w.alloc (.cells Lib.zeros24 94)) w.heap.size 0 dk).drewN k) := by
      have h := run_convert_bytes_back (P := Tryd.prog) ((putRow (fun (b : UInt8) => Value.int .u8 (b.toNat : Int)) (w.alloc (.cells Lib.zeros24 94)) w.heap.size 0 dk).drewN k) 79 9 5 ⟨w.heap.size, 0, none⟩ 24 (Lib.decDigits u) Tryd.underlying79 Tryd.underlying5 Tryd.underlying9 (fun j hj => by
        rw [Lib.row_is_numeral hF j hj, Lib.add_plain, World.cell?_drewN]
        exact cell?_putRow (fun (b : UInt8) => Value.int .u8 (b.toNat : Int)) _ w.heap.size 0 _ dk HH0.out (by rw [hF.size, Array.size_replicate]) j (by rw [hF.size]; rw [Lib.decDigits_length] at hj; exact hj))
      rw [Lib.decDigits_length] at h
      exact h
    go_wp2
    go_ret
    exact ⟨rfl, fin_pos0 w _ dk k⟩

theorem hbd : bits BinOp.and IntKind.u64 16 (IntKind.u64.wrap (-16)) = 16 := by kernel_rfl
set_option maxRecDepth 100000 in
theorem tz64_in (w : World) (hG : AG w) : Calls Tryd.prog 72 #[.int .u64 16] w fun e w' => e = .returned (.int .i64 4) ∧ w' = w := by
  have hc := hG.deb
  have hb := hbd
  clear hG
  go_enter Tryd.func72, Tryd.ntmps72
  go_wp2
  go_ret
  exact ⟨rfl, rfl⟩
end Go.Proofs.YtpognbkdafnfjaaDoor
