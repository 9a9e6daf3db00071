/- The document's Unhex. -/
import Derived.Test.YtdecmbpmgnoelaaDoorGRHex
namespace Go.Proofs.YtdecmbpmgnoelaaDoor
set_option linter.unusedVariables false
open Go.RowKit
/-- the k-th pair of letters. -/
def prs (l : List UInt8) (k : Nat) : UInt8 := UInt8.ofNat (16 * (cnt (l[2 * k]?.getD 0)).toNat + (cnt (l[2 * k + 1]?.getD 0)).toNat)
/-- what the document's Unhex answers. -/
def RunE (l : List UInt8) (e : Ending) : Prop :=
  ((∃ j, j < 2 * (l.length / 2) ∧ 16 ≤ (cnt (l[j]?.getD 0)).toNat) ∧ e = .returned (.tuple #[.string ⟨#[]⟩, .bool false])) ∨
  ((∀ j, j < 2 * (l.length / 2) → (cnt (l[j]?.getD 0)).toNat < 16) ∧ l.length % 2 = 1 ∧ e = .returned (.tuple #[.string ⟨#[]⟩, .bool false])) ∨
  ((∀ j, j < 2 * (l.length / 2) → (cnt (l[j]?.getD 0)).toNat < 16) ∧ l.length % 2 = 0 ∧ e = .returned (.tuple #[.string ⟨((List.range (l.length / 2)).map (prs l)).toArray⟩, .bool true]))
theorem vl_bad (c : UInt8) (h : 16 ≤ (cnt c).toNat) : vl c 16 = 99 := if_neg (by omega)
theorem vl_good (c : UInt8) (h : (cnt c).toNat < 16) : vl c 16 = cnt c := if_pos h
set_option maxRecDepth 100000 in
set_option maxHeartbeats 2000000 in
theorem runhex_in (s : ByteArray) (hs : s.size ≤ 1048576) (W : World) : Calls Tryd.prog 12 #[.string s] W fun e w' => RunE s.data.toList e ∧ Below W.heap.size W w' := by
  obtain ⟨i0, hi, hz0, hz1, hz2⟩ := info_of info5
  obtain ⟨n, hn⟩ : ∃ n, s.size = n := ⟨_, rfl⟩
  obtain ⟨l, hl⟩ : ∃ l, s.data.toList = l := ⟨_, rfl⟩
  have HLN : Hid (l.length = n) := by rw [Hid, ← hl, size_list]; exact hn
  have HIX : Hid (∀ m, m < n → ∀ W : World, (Instr.index 9 (.string s) (.int .i64 (m : Int))).run Tryd.prog W = .ok (.int .u8 ((l[m]?.getD 0).toNat : Int)) W) := fun m hm W => index_get s m _ (by omega) (by rw [hl]) W
  rw [hl]
  have hn2 : n ≤ 1048576 := by omega
  clear hl hs
  go_enter Tryd.func12, Tryd.ntmps12
  go_wp2_with fail
  go_loopw [4, 5] (fun v i wr => ∃ k p : Nat, Hid (p = 2 * k) ∧ p ≤ n ∧ i = .int .i64 (p : Int) ∧ Hid (∀ j, j < p → (cnt (l[j]?.getD 0)).toNat < 16) ∧ wr.ownsRow W.heap.size 5 1 v k (bcl ((List.range k).map (prs l))) ∧ Below W.heap.size W wr) (fun _ i _ => n - (intOf i).toNat)
  case atStart => exact ⟨0, 0, rfl, by omega, rfl, fun j hj => absurd hj (by omega), ⟨rfl, .inl ⟨rfl, rfl⟩⟩, Below.refl _ _⟩
  case round =>
    obtain ⟨k, p, HPK, hpn, rfl, HALL, hown, hbl⟩ := hrel
    have HO := Hid.mk hown
    have hsz := hbl.size
    have hk2 : k ≤ 1048576 := by have := HPK.out; omega
    clear hown
    by_cases hlt : p + 1 < n
    · have j0 := HIX.out p (by omega)
      have j1 : ∀ W : World, (Instr.index 9 (.string s) (.int .i64 ((p : Int) + 1))).run Tryd.prog W = .ok (.int .u8 ((l[p + 1]?.getD 0).toNat : Int)) W := fun W => by have := HIX.out (p + 1) hlt W; rwa [Int.natCast_add] at this
      have V0 := Hid.mk (value_in (l[p]?.getD 0) 16 (by omega))
      have V1 := Hid.mk (value_in (l[p + 1]?.getD 0) 16 (by omega))
      have hi1 : (p : Int) + 1 < (n : Int) := by omega
      by_cases h0 : (cnt (l[p]?.getD 0)).toNat < 16
      · by_cases h1 : (cnt (l[p + 1]?.getD 0)).toNat < 16
        · rw [vl_good _ h0] at V0
          rw [vl_good _ h1] at V1
          have HNX : Hid (∀ j, j < p + 2 → (cnt (l[j]?.getD 0)).toNat < 16) := fun j hj => by
            by_cases e1 : j = p
            · rw [e1]; exact h0
            · by_cases e2 : j = p + 1
              · rw [e2]; exact h1
              · exact HALL.out j (by omega)
          have HPR : Hid (prs l k = UInt8.ofNat (16 * (cnt (l[p]?.getD 0)).toNat + (cnt (l[p + 1]?.getD 0)).toNat)) := by rw [Hid, HPK.out]; rfl
          generalize l[p]?.getD 0 = ca at j0 V0 h0 HPR
          generalize l[p + 1]?.getD 0 = cb at j1 V1 h1 HPR
          generalize cnt ca = a at V0 h0 HPR
          generalize cnt cb = b at V1 h1 HPR
          have na : ((a.toNat : Int) == 99) = false := by rw [beq_eq_false_iff_ne]; omega
          have nb' : ((b.toNat : Int) == 99) = false := by rw [beq_eq_false_iff_ne]; omega
          obtain ⟨y, HY⟩ : ∃ y, Hid (prs l k = y) := ⟨_, rfl⟩
          have hy : 16 * (a.toNat : Int) + (b.toNat : Int) = (y.toNat : Int) := by rw [← HY.out, HPR.out, UInt8.toNat_ofNat']; omega
          have hy8 := y.toNat_lt
          clear HPR
          go_wp2_with fail
          refine (V0.out _).mono ?_
          rintro e w2 ⟨rfl, rfl⟩
          go_wp2_with fail
          refine (V1.out _).mono ?_
          rintro e w3 ⟨rfl, rfl⟩
          go_wp2_with (at_builtin; refine wpList_append_own _ rfl _ _ 47 rfl W.heap.size 5 i0 (.int .u8 0) 1 1 Tryd.underlying47 hi hz0 hz1 hz2 rfl (by decide) _ _ _ rfl (HO.out.alloc _) ⟨w3.heap.size, 0, none⟩ 1 1 [.int .u8 (y.toNat : Int)] rfl rfl (cell_one_new _ _ _) (by simp [Value.oneCell']) (by unfold maxLen; omega) (by omega) (by simp; omega) ?_; intro v1 w1 hown1 hgrow1 _)
          have B2 : Below W.heap.size W w1 := (hbl.alloc hbl.size _).grown hgrow1 (Nat.le_trans hbl.size (by simp)) (fun k hk => (HO.out.lt k hk).1)
          go_roundw
          case rel =>
            refine ⟨k + 1, p + 2, by rw [Hid, HPK.out]; omega, by omega, by go_num, HNX, ?_, B2⟩
            rw [List.range_succ, List.map_append, bcl_app, List.map_singleton, HY.out]
            exact hown1
          case measure => simp [intOf]; omega
        · rw [vl_good _ h0] at V0
          rw [vl_bad _ (by omega)] at V1
          have HBD : Hid (∃ j, j < 2 * (l.length / 2) ∧ 16 ≤ (cnt (l[j]?.getD 0)).toNat) := ⟨p + 1, by rw [HLN.out]; have := HPK.out; omega, by omega⟩
          generalize l[p]?.getD 0 = ca at j0 V0 h0
          generalize l[p + 1]?.getD 0 = cb at j1 V1 h1
          generalize cnt ca = a at V0 h0
          have na : ((a.toNat : Int) == 99) = false := by rw [beq_eq_false_iff_ne]; omega
          go_wp2_with fail
          refine (V0.out _).mono ?_
          rintro e w2 ⟨rfl, rfl⟩
          go_wp2_with fail
          refine (V1.out _).mono ?_
          rintro e w3 ⟨rfl, rfl⟩
          go_wp2
          go_ret2
          exact ⟨.inl ⟨HBD.out, rfl⟩, hbl⟩
      · rw [vl_bad _ (by omega)] at V0
        have HBD : Hid (∃ j, j < 2 * (l.length / 2) ∧ 16 ≤ (cnt (l[j]?.getD 0)).toNat) := ⟨p, by rw [HLN.out]; have := HPK.out; omega, by omega⟩
        generalize l[p]?.getD 0 = ca at j0 V0 h0
        generalize l[p + 1]?.getD 0 = cb at j1 V1
        go_wp2_with fail
        refine (V0.out _).mono ?_
        rintro e w2 ⟨rfl, rfl⟩
        go_wp2_with fail
        refine (V1.out _).mono ?_
        rintro e w3 ⟨rfl, rfl⟩
        go_wp2
        go_ret2
        exact ⟨.inl ⟨HBD.out, rfl⟩, hbl⟩
    · have hge : (n : Int) ≤ (p : Int) + 1 := by omega
      have hkn : n / 2 = k := by have := HPK.out; omega
      have HA2 : Hid (∀ j, j < 2 * (l.length / 2) → (cnt (l[j]?.getD 0)).toNat < 16) := fun j hj => HALL.out j (by rw [HLN.out, hkn] at hj; have := HPK.out; omega)
      by_cases hod : n % 2 = 0
      · have r1 : (n : Int).tmod 2 = 0 := by rw [Int.tmod_eq_emod_of_nonneg (by omega)]; omega
        have r2 : (n : Int) % 2 = 0 := by omega
        have hcv := own_back_any HO.out (by simp)
        have HOD : Hid (l.length % 2 = 0) := by rw [Hid, HLN.out]; exact hod
        have HKN : Hid (k = l.length / 2) := by rw [Hid, HLN.out, hkn]
        clear hod hkn
        go_wp2
        go_ret2
        exact ⟨.inr (.inr ⟨HA2.out, HOD.out, by rw [← HKN.out]; rfl⟩), hbl⟩
      · have r1 : (n : Int).tmod 2 = 1 := by rw [Int.tmod_eq_emod_of_nonneg (by omega)]; omega
        have r2 : (n : Int) % 2 = 1 := by omega
        have HOD : Hid (l.length % 2 = 1) := by rw [Hid, HLN.out]; omega
        clear hod hkn
        go_wp2
        go_ret2
        exact ⟨.inr (.inl ⟨HA2.out, HOD.out, rfl⟩), hbl⟩
end Go.Proofs.YtdecmbpmgnoelaaDoor
