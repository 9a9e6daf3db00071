/- Layer 13: the document's Right, width, bytes, bit. -/
import Derived.Laws.AppendOwn
import Derived.Test.YtpognbkdafnfjaaDoorAcNe
namespace Go.Proofs.YtpognbkdafnfjaaDoor
set_option linter.unusedVariables false
set_option linter.unusedSimpArgs false
open Go.RowKit

set_option maxRecDepth 100000 in
theorem rright_in (w : World) (v : Bool) (h l : Nat) :
    Calls Tryd.prog 26 #[adV v h l] w fun e w' => e = .returned (.bool (decide (Ad.right ⟨v, h, l⟩))) ∧ Below w.heap.size w w' := by
  cases v with
  | true =>
    go_enter Tryd.func26, Tryd.ntmps26
    go_wp2
    go_ret
    exact ⟨by simp [Ad.right], by go_grown⟩
  | false =>
    by_cases h0 : h = 0
    · subst h0
      go_enter Tryd.func26, Tryd.ntmps26
      go_wp2
      go_ret
      have e : decide (Ad.right ⟨false, 0, l⟩) = decide ((l : Int) < 4294967296) := by
        rw [decide_eq_decide]
        simp only [Ad.right, Bool.false_eq_true, false_or, true_and, Nat.reducePow]
        omega
      exact ⟨by rw [e]; rfl, by go_grown⟩
    · go_enter Tryd.func26, Tryd.ntmps26
      go_wp2
      go_ret
      exact ⟨by simp [Ad.right, h0], by go_grown⟩
set_option maxRecDepth 100000 in
theorem rwidth_in (w : World) (v : Bool) (h l : Nat) :
    Calls Tryd.prog 34 #[adV v h l] w fun e w' => e = .returned (.int .i64 (Ad.wd ⟨v, h, l⟩ : Nat)) ∧ Below w.heap.size w w' := by
  cases v with
  | true =>
    go_enter Tryd.func34, Tryd.ntmps34
    go_wp2
    go_ret
    exact ⟨rfl, by go_grown⟩
  | false =>
    go_enter Tryd.func34, Tryd.ntmps34
    go_wp2
    go_ret
    exact ⟨rfl, by go_grown⟩

/-! ### bytes -/
def bAppB (a : Array Value) : Sem Value := Builtin.append_ #[79, 79] 79 a
theorem app_b (a : Array Value) : Builtin.append_ #[79, 79] 79 a = bAppB a := rfl
theorem info5 : (Tryd.prog.info? 5).map (fun i => (i.zero, i.size, i.bytes)) = some (some (.int .u8 0), 1, 1) := by kernel_rfl
theorem row_ge {W : World} {base e size k : Nat} {v : Value} {xs : List Value} (hr : W.ownsRow base e size v k xs) {b : Nat} (h : v.ownBlock = some b) : base ≤ b := by
  rcases hr.2 with ⟨rfl, _⟩ | ⟨g, cap, cur, rfl, hb, _⟩
  · simp [Value.ownBlock] at h
  · obtain rfl : g = b := by simpa [Value.ownBlock] using h
    exact hb
theorem cell_one (W : World) (x : Value) (e : TypeId) : ∀ (j : Nat) u, [x][j]? = some u → (W.alloc (.cells #[x] e (0, 0))).cell? ((⟨W.heap.size, 0, none⟩ : Addr).add j) = some u := by
  intro j u hu
  match j, hu with
  | 0, hu =>
    cases hu
    exact cell_of_heap (heap_alloc_last _ _) rfl
theorem bapp1 {W : World} {base k : Nat} {v : Value} {xs : List Value} (hown : W.ownsRow base 5 1 v k xs) (hb : base ≤ W.heap.size) (hk : k ≤ 1000) (x : Int) :
    ∃ v' w1, (bAppB #[v, .slice (some ⟨W.heap.size, 0, none⟩) 1 1]).run Tryd.prog (W.alloc (.cells #[.int .u8 x] 5 (0, 0))) = .ok v' w1 ∧ w1.ownsRow base 5 1 v' (k + 1) (xs ++ [.int .u8 x]) ∧ Below base W w1 := by
  obtain ⟨i0, hi, hz0, hz1, hz2⟩ := info_parts info5
  obtain ⟨v', w1, hrun, hown', hg, _⟩ := run_append_own (P := Tryd.prog) (W.alloc (.cells #[.int .u8 x] 5 (0, 0))) base 79 79 5 i0 (.int .u8 0) 1 1 Tryd.underlying79 hi hz0 hz1 hz2 rfl (by decide) v k xs (hown.alloc _) ⟨W.heap.size, 0, none⟩ 1 1 [.int .u8 x] rfl (cell_one _ _ _) (by simp [Value.oneCell']) (by unfold maxLen; omega) (by omega) (by simp; omega)
  refine ⟨v', w1, hrun, hown', ?_⟩
  have h0 : Below base W (W.alloc (.cells #[.int .u8 x] 5 (0, 0))) := (Below.refl _ _).alloc hb _
  exact h0.grown hg (by simp; omega) (fun b hb' => row_ge hown hb')
/-- the bytes of a word. -/
def bw (x n : Nat) : List UInt8 := (List.range n).map fun i => UInt8.ofNat (x / 2 ^ (8 * (n - 1 - i)) % 256)
def byts (a : Ad) : List UInt8 := if a.v6 then bw a.hi 8 ++ bw a.lo 8 else bw a.lo 4
theorem bw_len (x n : Nat) : (bw x n).length = n := by simp [bw]
theorem bw_take (x n m : Nat) (h : m < n) : (bw x n).take (m + 1) = (bw x n).take m ++ [UInt8.ofNat (x / 2 ^ (8 * (n - 1 - m)) % 256)] := by
  rw [List.take_add_one]
  congr 1
  unfold bw
  rw [List.getElem?_map, List.getElem?_range h]
  rfl
theorem bv_app (a b : List UInt8) : bv (a ++ b) = bv a ++ bv b := by simp [bv]
def ByRel (V : World) (P Q : List UInt8) (N : Nat) (v i : Value) (wr : World) : Prop :=
  ∃ (m : Nat) (x : Int) (L : List UInt8), m ≤ N ∧ x = (N : Int) - 1 - m ∧ L = P ++ Q.take m ∧ i = .int .i64 x ∧ wr.ownsRow V.heap.size 5 1 v L.length (bv L) ∧ Below V.heap.size V wr
theorem ofNat_div (x k : Nat) : ((UInt8.ofNat (x / 2 ^ k % 256)).toNat : Int) = (x : Int) / 2 ^ k % 256 := by
  rw [UInt8.toNat_ofNat', show (x : Int) / 2 ^ k = ((x / 2 ^ k : Nat) : Int) by rw [Int.natCast_ediv, Int.natCast_pow]; rfl]
  omega
theorem ofNat_mod (x : Nat) : ((UInt8.ofNat (x % 256)).toNat : Int) = (x : Int) % 256 := by
  rw [UInt8.toNat_ofNat']
  omega
theorem row_sh {W : World} {base e size k : Nat} {v : Value} {xs : List Value} (h : W.ownsRow base e size v k xs) : ∃ q cap, v = .slice q k cap := by
  rcases h.2 with ⟨rfl, rfl⟩ | ⟨g, cap, cur, hv, _⟩
  · exact ⟨none, 0, rfl⟩
  · exact ⟨_, _, hv⟩
theorem row_conv {W : World} {base : Nat} {q : Option Addr} {cq : Nat} {L : List UInt8} (h : W.ownsRow base 5 1 (.slice q L.length cq) L.length (bv L)) (hne : L ≠ []) : (convert 79 9 (.slice q L.length cq)).run Tryd.prog W = .ok (.string ⟨L.toArray⟩) W := by
  rcases h.2 with ⟨_, h0⟩ | ⟨g, cap, cur, hv, hb, hg, hc, hm, hs, ht⟩
  · exact absurd (List.eq_nil_of_length_eq_zero h0) hne
  · cases hv
    refine run_convert_bytes_back (P := Tryd.prog) W 79 9 5 ⟨g, 0, none⟩ cq L Tryd.underlying79 Tryd.underlying5 Tryd.underlying9 (fun j hj => ?_)
    rw [Lib.add_plain, Nat.zero_add]
    have h1 : (bv L)[j]? = some (.int .u8 (L[j].toNat : Int)) := by simp [bv, hj]
    rw [← ht, List.getElem?_take, if_pos (by omega)] at h1
    exact cell_of_heap hg (by simpa using h1)
section
attribute [local go_sem ↓] app_b
set_option maxRecDepth 100000 in
set_option maxHeartbeats 4000000 in
theorem bytes4_in (W : World) (h l : Nat) : Calls Tryd.prog 36 #[adV false h l] W fun e w' => e = .returned (.string ⟨(bw l 4).toArray⟩) ∧ Below W.heap.size W w' := by
  obtain ⟨V, hV, HB⟩ : ∃ V, W.alloc (adO false h l) = V ∧ Hid (Below W.heap.size W V) := ⟨_, rfl, by unfold Hid; go_grown⟩
  have HV : Hid (W.heap.size < V.heap.size) := by rw [← hV]; unfold Hid; simp
  have HC2 : Hid (V.cell? ⟨W.heap.size, 2, none⟩ = some (.int .u64 (l : Int))) := by rw [← hV]; exact (ad_cells W false h l).2.2
  have HL : Hid (([] : List UInt8).length ≤ 16 ∧ (bw l 4).length ≤ 16) := ⟨by simp, by rw [bw_len]; omega⟩
  have HZ : Hid ([] ++ bw l 4 = bw l 4) := rfl
  have hc0 : V.cell? ⟨W.heap.size, 0, none⟩ = some (.bool false) := by rw [← hV]; exact (ad_cells W false h l).1
  go_enter Tryd.func36, Tryd.ntmps36
  go_wp2
  try rw [hV]
  clear hV
  go_loopw [3, 6] (fun v i wr => ByRel V [] (bw l 4) 4 v i wr) (fun _ i _ => (intOf i + 1).toNat)
  case atStart => exact ⟨0, 3, [], by omega, rfl, rfl, rfl, World.ownsRow_nil .., Below.refl _ _⟩
  case round =>
    obtain ⟨m, x, L, hm, hx, hLe, rfl, hrow, hbl⟩ := hrel
    have hcc := (hbl.cell (p := ⟨W.heap.size, 2, none⟩) HV.out).trans HC2.out
    have hLl : L.length ≤ 32 := by
      have := HL.out
      rw [hLe, List.length_append, List.length_take]
      omega
    by_cases hlt : m < 4
    · obtain ⟨q, cq, hq⟩ := row_sh hrow
      subst hq
      obtain ⟨K, hK⟩ : ∃ K, 4 - 1 - m = K := ⟨_, rfl⟩
      obtain rfl : x = (K : Int) := by omega
      obtain ⟨v', w1, r1, hr1, hb1⟩ := bapp1 hrow hbl.size (by omega) ((UInt8.ofNat (l / 2 ^ (8 * K) % 256)).toNat : Int)
      obtain ⟨q2, cq2, hq2⟩ := row_sh hr1
      subst hq2
      have HE : Hid (ByRel V [] (bw l 4) 4 (.slice q2 (L.length + 1) cq2) (.int .i64 ((K : Int) - 1)) w1) := by
        refine ⟨m + 1, _, L ++ [UInt8.ofNat (l / 2 ^ (8 * K) % 256)], by omega, by omega, ?_, rfl, ?_, hbl.trans hb1⟩
        · rw [bw_take _ _ _ hlt, hLe, List.append_assoc, hK]
        · rw [bv_app, List.length_append]
          exact hr1
      rw [ofNat_div] at r1
      have hK8 : K ≤ 7 := by omega
      have hmn : min (8 * K) 64 = 8 * K := by omega
      obtain ⟨E8, hE8⟩ : ∃ E8, 8 * K = E8 := ⟨_, rfl⟩
      rw [hE8] at r1 hmn
      have hwm : IntKind.i64.wrap (8 * (K : Int)) = (E8 : Int) := by rw [wrapI (by omega) (by omega)]; omega
      have hE8b : E8 ≤ 56 := by omega
      clear hr1 hb1 hbl hlt hrow hx hLe hK hE8
      go_wp2
      exact ⟨HE.out, by first | (simp [intOf]; done) | (simp [intOf]; omega)⟩
    · obtain rfl : m = 4 := by omega
      obtain rfl : x = -1 := by omega
      rw [List.take_of_length_le (by rw [bw_len]; exact Nat.le_refl _)] at hLe
      obtain ⟨q, cq, hq⟩ := row_sh hrow
      subst hq
      have hcv : (convert 79 9 (.slice q L.length cq)).run Tryd.prog wr = .ok (.string ⟨L.toArray⟩) wr := row_conv hrow (by rw [hLe]; simp [bw])
      have HLE := Hid.mk hLe
      clear hrow hLe
      go_wp2
      go_ret
      exact ⟨by rw [← HZ.out, ← HLE.out]; rfl, HB.out.trans (hbl.mono HB.out.size)⟩
set_option maxRecDepth 100000 in
set_option maxHeartbeats 4000000 in
theorem bytes6_in (W : World) (h l : Nat) : Calls Tryd.prog 36 #[adV true h l] W fun e w' => e = .returned (.string ⟨(bw h 8 ++ bw l 8).toArray⟩) ∧ Below W.heap.size W w' := by
  obtain ⟨V, hV, HB⟩ : ∃ V, W.alloc (adO true h l) = V ∧ Hid (Below W.heap.size W V) := ⟨_, rfl, by unfold Hid; go_grown⟩
  have HV : Hid (W.heap.size < V.heap.size) := by rw [← hV]; unfold Hid; simp
  have HC1 : Hid (V.cell? ⟨W.heap.size, 1, none⟩ = some (.int .u64 (h : Int))) := by rw [← hV]; exact (ad_cells W true h l).2.1
  have HC2 : Hid (V.cell? ⟨W.heap.size, 2, none⟩ = some (.int .u64 (l : Int))) := by rw [← hV]; exact (ad_cells W true h l).2.2
  have HL : Hid ((bw h 8).length ≤ 16 ∧ ([] : List UInt8).length ≤ 16 ∧ (bw h 8).length ≤ 16 ∧ (bw l 8).length ≤ 16) := ⟨by rw [bw_len]; omega, by simp, by rw [bw_len]; omega, by rw [bw_len]; omega⟩
  have HZ : Hid ([] ++ bw h 8 = bw h 8) := rfl
  have HZ2 : Hid (bw h 8 ++ bw l 8 = bw h 8 ++ bw l 8) := rfl
  have hc0 : V.cell? ⟨W.heap.size, 0, none⟩ = some (.bool true) := by rw [← hV]; exact (ad_cells W true h l).1
  go_enter Tryd.func36, Tryd.ntmps36
  go_wp2
  try rw [hV]
  clear hV
  go_loopw [3, 4] (fun v i wr => ByRel V [] (bw h 8) 8 v i wr) (fun _ i _ => (intOf i + 1).toNat)
  case atStart => exact ⟨0, 7, [], by omega, rfl, rfl, rfl, World.ownsRow_nil .., Below.refl _ _⟩
  case round =>
    obtain ⟨m, x, L, hm, hx, hLe, rfl, hrow, hbl⟩ := hrel
    have hcc := (hbl.cell (p := ⟨W.heap.size, 1, none⟩) HV.out).trans HC1.out
    have hLl : L.length ≤ 32 := by
      have := HL.out
      rw [hLe, List.length_append, List.length_take]
      omega
    by_cases hlt : m < 8
    · obtain ⟨q, cq, hq⟩ := row_sh hrow
      subst hq
      obtain ⟨K, hK⟩ : ∃ K, 8 - 1 - m = K := ⟨_, rfl⟩
      obtain rfl : x = (K : Int) := by omega
      obtain ⟨v', w1, r1, hr1, hb1⟩ := bapp1 hrow hbl.size (by omega) ((UInt8.ofNat (h / 2 ^ (8 * K) % 256)).toNat : Int)
      obtain ⟨q2, cq2, hq2⟩ := row_sh hr1
      subst hq2
      have HE : Hid (ByRel V [] (bw h 8) 8 (.slice q2 (L.length + 1) cq2) (.int .i64 ((K : Int) - 1)) w1) := by
        refine ⟨m + 1, _, L ++ [UInt8.ofNat (h / 2 ^ (8 * K) % 256)], by omega, by omega, ?_, rfl, ?_, hbl.trans hb1⟩
        · rw [bw_take _ _ _ hlt, hLe, List.append_assoc, hK]
        · rw [bv_app, List.length_append]
          exact hr1
      rw [ofNat_div] at r1
      have hK8 : K ≤ 7 := by omega
      have hmn : min (8 * K) 64 = 8 * K := by omega
      obtain ⟨E8, hE8⟩ : ∃ E8, 8 * K = E8 := ⟨_, rfl⟩
      rw [hE8] at r1 hmn
      have hwm : IntKind.i64.wrap (8 * (K : Int)) = (E8 : Int) := by rw [wrapI (by omega) (by omega)]; omega
      have hE8b : E8 ≤ 56 := by omega
      clear hr1 hb1 hbl hlt hrow hx hLe hK hE8
      go_wp2
      exact ⟨HE.out, by first | (simp [intOf]; done) | (simp [intOf]; omega)⟩
    · obtain rfl : m = 8 := by omega
      obtain rfl : x = -1 := by omega
      rw [List.take_of_length_le (by rw [bw_len]; exact Nat.le_refl _)] at hLe
      obtain ⟨q, cq, hq⟩ := row_sh hrow
      subst hq
      have HST : Hid (ByRel V (bw h 8) (bw l 8) 8 (.slice q L.length cq) (.int .i64 7) wr) := ⟨0, 7, L, by omega, rfl, by rw [hLe]; rfl, rfl, hrow, hbl⟩
      clear hrow hbl hLe
      go_wp2
      go_loopw [3, 5] (fun v i wr => ByRel V (bw h 8) (bw l 8) 8 v i wr) (fun _ i _ => (intOf i + 1).toNat)
      case atStart => exact HST.out
      case round =>
        obtain ⟨m, x, L, hm, hx, hLe, rfl, hrow, hbl⟩ := hrel
        have hcc := (hbl.cell (p := ⟨W.heap.size, 2, none⟩) HV.out).trans HC2.out
        have hLl : L.length ≤ 32 := by
          have := HL.out
          rw [hLe, List.length_append, List.length_take]
          omega
        by_cases hlt : m < 8
        · obtain ⟨q, cq, hq⟩ := row_sh hrow
          subst hq
          obtain ⟨K, hK⟩ : ∃ K, 8 - 1 - m = K := ⟨_, rfl⟩
          obtain rfl : x = (K : Int) := by omega
          obtain ⟨v', w1, r1, hr1, hb1⟩ := bapp1 hrow hbl.size (by omega) ((UInt8.ofNat (l / 2 ^ (8 * K) % 256)).toNat : Int)
          obtain ⟨q2, cq2, hq2⟩ := row_sh hr1
          subst hq2
          have HE : Hid (ByRel V (bw h 8) (bw l 8) 8 (.slice q2 (L.length + 1) cq2) (.int .i64 ((K : Int) - 1)) w1) := by
            refine ⟨m + 1, _, L ++ [UInt8.ofNat (l / 2 ^ (8 * K) % 256)], by omega, by omega, ?_, rfl, ?_, hbl.trans hb1⟩
            · rw [bw_take _ _ _ hlt, hLe, List.append_assoc, hK]
            · rw [bv_app, List.length_append]
              exact hr1
          rw [ofNat_div] at r1
          have hK8 : K ≤ 7 := by omega
          have hmn : min (8 * K) 64 = 8 * K := by omega
          obtain ⟨E8, hE8⟩ : ∃ E8, 8 * K = E8 := ⟨_, rfl⟩
          rw [hE8] at r1 hmn
          have hwm : IntKind.i64.wrap (8 * (K : Int)) = (E8 : Int) := by rw [wrapI (by omega) (by omega)]; omega
          have hE8b : E8 ≤ 56 := by omega
          clear hr1 hb1 hbl hlt hrow hx hLe hK hE8
          go_wp2
          exact ⟨HE.out, by first | (simp [intOf]; done) | (simp [intOf]; omega)⟩
        · obtain rfl : m = 8 := by omega
          obtain rfl : x = -1 := by omega
          rw [List.take_of_length_le (by rw [bw_len]; exact Nat.le_refl _)] at hLe
          obtain ⟨q, cq, hq⟩ := row_sh hrow
          subst hq
          have hcv : (convert 79 9 (.slice q L.length cq)).run Tryd.prog wr = .ok (.string ⟨L.toArray⟩) wr := row_conv hrow (by rw [hLe]; simp [bw])
          have HLE := Hid.mk hLe
          clear hrow hLe
          go_wp2
          go_ret
          exact ⟨by rw [← HLE.out]; rfl, HB.out.trans (hbl.mono HB.out.size)⟩
end
theorem bytes_in (W : World) (v : Bool) (h l : Nat) : Calls Tryd.prog 36 #[adV v h l] W fun e w' => e = .returned (.string ⟨(byts ⟨v, h, l⟩).toArray⟩) ∧ Below W.heap.size W w' := by
  cases v
  · exact bytes4_in W h l
  · exact bytes6_in W h l
end Go.Proofs.YtpognbkdafnfjaaDoor
