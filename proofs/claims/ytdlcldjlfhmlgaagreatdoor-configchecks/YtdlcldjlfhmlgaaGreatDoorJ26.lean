/- Texts of this proof, joined: LfK, DBytes, DRefF. -/
import Derived.Deep.RegionHeld3
import Derived.Test.YtdlcldjlfhmlgaaGreatDoorJ24
import Derived.Test.YtdlcldjlfhmlgaaGreatDoorJ20
import Derived.Test.YtdlcldjlfhmlgaaGreatDoorJ25
import Derived.Test.YtdlcldjlfhmlgaaGreatDoorJ6
import Derived.Test.YtdlcldjlfhmlgaaGreatDoorJ9
import Derived.Test.YtdlcldjlfhmlgaaGreatDoorJ7
set_option linter.unusedVariables false
set_option linter.unusedSimpArgs false
/- Layer 15: the document's servers, number, Anchors, upstreams (guidepostref15). -/
namespace Go.Proofs.YtdlcldjlfhmlgaaGreatDoor
open Go.RowKit
set_option maxRecDepth 100000 in
set_option maxHeartbeats 2000000 in
theorem rsrv_in (W : World) (q : Option Addr) (cap : Nat) (l : List A.Ad) (hat : A.AdsAt W q l) :
  Calls Tryz.prog 36 #[.slice q l.length cap] W fun e w' => e = .returned (.bool (srvR l)) ∧ Below W.heap.size W w' := by
 have HNo : Hid (l.length < 1 ∨ 20 < l.length → srvR l = false) := srvR_len
 have HBad : Hid (∀ a ∈ l, okA a = false → srvR l = false) := fun a ha h => srvR_no ha h
 have HYes : Hid (1 ≤ l.length → l.length ≤ 20 → (∀ j (hj : j < l.length), okA l[j] = true) → srvR l = true) := fun h1 h2 h => srvR_yes h1 h2 fun a ha => by
  obtain ⟨j, hj, rfl⟩ := List.getElem_of_mem ha
  exact h j hj
 obtain ⟨n, hn⟩ : ∃ n, l.length = n := ⟨_, rfl⟩
 have HN := Hid.mk hn
 have HC := ads_cells hat hn
 obtain ⟨N, hNe⟩ : ∃ N, W.heap.size = N := ⟨_, rfl⟩
 have HNN := Hid.mk hNe
 obtain ⟨R, hR⟩ : ∃ R, srvR l = R := ⟨_, rfl⟩
 rw [hR] at HNo HBad HYes ⊢
 rw [hn] at HNo ⊢
 rw [hNe] at HC ⊢
 clear hat hn hNe hR
 by_cases h1 : n < 1
 ·have hR := HNo.out (.inl h1)
  subst hR
  have h1z : (n : Int) < 1 := by omega
  have h2z : ¬ (20 : Int) < (n : Int) := by omega
  go_enter Tryz.func36, Tryz.ntmps36
  go_wp2
  go_ret
  exact ⟨rfl, Below.refl _ _⟩
 by_cases h2 : 20 < n
 ·have hR := HNo.out (.inr h2)
  subst hR
  have h1z : ¬ (n : Int) < 1 := by omega
  have h2z : (20 : Int) < (n : Int) := by omega
  go_enter Tryz.func36, Tryz.ntmps36
  go_wp2
  go_ret
  exact ⟨rfl, Below.refl _ _⟩
 have h1z : ¬ (n : Int) < 1 := by omega
 have h2z : ¬ (20 : Int) < (n : Int) := by omega
 go_enter Tryz.func36, Tryz.ntmps36
 go_wp2
 go_loopw [3] (fun iv wr => ∃ (i : Nat) (u : World), u = wr ∧ i ≤ n ∧ iv = .int .i64 (i : Int) ∧ Hid (∀ j (hj : j < l.length), j < i → okA l[j] = true) ∧ Hid (Below N W u)) (fun iv _ => n - (intOf iv).toNat)
 case atStart => exact ⟨0, _, rfl, Nat.zero_le _, rfl, fun j hj h => absurd h (Nat.not_lt_zero _), Below.refl _ _⟩
 case round =>
  obtain ⟨i, u, rfl, hi, rfl, HA, HU⟩ := hrel
  have hNu : N ≤ u.heap.size := by rw [← HNN.out]; exact HU.out.size
  by_cases hlt : i < n
  ·have hlz : (i : Int) < (n : Int) := by omega
   have hlz0 : (0 : Int) ≤ (i : Int) := by omega
   have wi : IntKind.i64.wrap ((i : Int) + 1) = ((i + 1 : Nat) : Int) := by rw [IntKind.wrap_i64]; omega
   obtain ⟨b, off, rfl, v, h, lo, HI, HX⟩ := HC.out i hlt
   obtain ⟨c0, c1, c2⟩ := HX.out _ HU.out
   have HRi := Hid.mk (fun w => A.rright_in w v h lo)
   cases hok : okA ⟨v, h, lo⟩ with
   | false =>
    have hd : decide (A.Ad.right ⟨v, h, lo⟩) = false := hok
    rw [hd] at HRi
    have hR : R = false := by
     obtain ⟨a, ha, e, _⟩ := HI.out
     exact HBad.out a ha (by rw [e]; exact hok)
    subst hR
    clear hd hok HYes HNo HBad
    go_wp2_with fail
    refine (HRi.out _).mono ?_
    rintro e w2 ⟨rfl, hb2⟩
    have HE : Hid (Below N W w2) := HU.out.trans (hb2.mono hNu)
    clear hb2 c0 c1 c2
    go_wp2
    go_ret
    exact ⟨rfl, HE.out⟩
   | true =>
    have hd : decide (A.Ad.right ⟨v, h, lo⟩) = true := hok
    rw [hd] at HRi
    have HA2 : Hid (∀ j (hj : j < l.length), j < i + 1 → okA l[j] = true) := fun j hj hji => by
     rcases Nat.lt_succ_iff_lt_or_eq.1 hji with h5 | h5
     ·exact HA.out j hj h5
     ·subst h5
      obtain ⟨a, ha, e, hi', e2⟩ := HI.out
      rw [e2, e]; exact hok
    clear hd hok HYes HNo HBad HA
    go_wp2_with fail
    refine (HRi.out _).mono ?_
    rintro e w2 ⟨rfl, hb2⟩
    have HE : Hid (Below N W w2) := HU.out.trans (hb2.mono hNu)
    clear hb2 c0 c1 c2
    go_wp2
    go_roundw
    case rel => exact ⟨i + 1, _, rfl, by omega, by first | rfl | go_num, HA2, HE⟩
    case measure => simp [intOf]; omega
  ·have hlz : ¬ (i : Int) < (n : Int) := by omega
   have hR : R = true := HYes.out (by have := HN.out; omega) (by have := HN.out; omega) fun j hj => HA.out j hj (by have := HN.out; omega)
   subst hR
   go_wp2
   go_ret
   exact ⟨rfl, HU.out⟩
set_option maxRecDepth 100000 in
theorem rnum_in (W : World) (n : Int) : Calls Tryz.prog 40 #[.int .i64 n] W fun e w' => e = .returned (.bool (numR n)) ∧ w' = W := by
 unfold numR
 by_cases h1 : 1 ≤ n
 ·by_cases h2 : n ≤ 10000
  ·rw [decide_eq_true h1, decide_eq_true h2]
   go_enter Tryz.func40, Tryz.ntmps40
   go_wp2
   go_ret
   exact ⟨rfl, rfl⟩
  ·rw [decide_eq_true h1, decide_eq_false h2]
   go_enter Tryz.func40, Tryz.ntmps40
   go_wp2
   go_ret
   exact ⟨rfl, rfl⟩
 ·rw [decide_eq_false h1]
  go_enter Tryz.func40, Tryz.ntmps40
  go_wp2
  go_ret
  exact ⟨rfl, rfl⟩
theorem dsR_cases (a : An) : (dsR a = false ∧ a.tg < 0) ∨ (dsR a = false ∧ ¬ a.tg < 0 ∧ 65535 < a.tg) ∨ (dsR a = false ∧ ¬ a.tg < 0 ∧ ¬ 65535 < a.tg ∧ (a.al != 8) = true ∧ (a.al != 13) = true) ∨
  (∃ f, dsR a = f ∧ ¬ a.tg < 0 ∧ ¬ 65535 < a.tg ∧ (a.al = 8 ∨ a.al = 13) ∧ ((a.kd = 1 ∧ f = decide ((a.dg.size : Int) = 20)) ∨ (a.kd = 2 ∧ f = decide ((a.dg.size : Int) = 32)) ∨ ((a.kd == 1) = false ∧ (a.kd == 2) = false ∧ f = false))) := by
 unfold dsR
 by_cases h1 : a.tg < 0
 ·exact .inl ⟨by rw [show decide (0 ≤ a.tg) = false from decide_eq_false (by omega)]; rfl, h1⟩
 by_cases h2 : 65535 < a.tg
 ·exact .inr (.inl ⟨by rw [show decide (a.tg ≤ 65535) = false from decide_eq_false (by omega)]; simp, h1, h2⟩)
 rw [show decide (0 ≤ a.tg) = true from decide_eq_true (by omega), show decide (a.tg ≤ 65535) = true from decide_eq_true (by omega)]
 by_cases h3 : a.al = 8 ∨ a.al = 13
 ·refine .inr (.inr (.inr ⟨_, rfl, h1, h2, h3, ?_⟩))
  rw [show (a.al == 8 || a.al == 13) = true by simpa using h3]
  simp only [Bool.true_and]
  by_cases k1 : a.kd = 1
  ·refine .inl ⟨k1, ?_⟩
   rw [k1, Bool.eq_iff_iff]
   simp
   omega
  ·by_cases k2 : a.kd = 2
   ·refine .inr (.inl ⟨k2, ?_⟩)
    rw [k2, Bool.eq_iff_iff]
    simp
    omega
   ·refine .inr (.inr ⟨by simpa using k1, by simpa using k2, ?_⟩)
    rw [show (a.kd == 1) = false by simpa using k1, show (a.kd == 2) = false by simpa using k2]
    rfl
 ·refine .inr (.inr (.inl ⟨?_, h1, h2, by simp; omega, by simp; omega⟩))
  rw [show (a.al == 8 || a.al == 13) = false by simpa using h3]
  rfl
set_option maxRecDepth 100000 in
set_option maxHeartbeats 8000000 in
theorem ranchors_in (W : World) (q : Option Addr) (cap : Nat) (l : List An) (hat : AnsAt W q l) (hin : ∀ a ∈ l, AnIn a) (hsh : ShC l.length cap q) :
  Calls Tryz.prog 39 #[.slice q l.length cap] W fun e w' => e = .returned (.bool (ansOk l)) ∧ Below W.heap.size W w' := by
 have HBad : Hid (∀ a ∈ l, anOk a = false → ansOk l = false) := fun a ha h => ansOk_no ha h
 have HYes : Hid ((∀ j (hj : j < l.length), anOk l[j] = true) → ansOk l = true) := fun h => ansOk_yes fun a ha => by
  obtain ⟨j, hj, rfl⟩ := List.getElem_of_mem ha
  exact h j hj
 obtain ⟨R, hR⟩ : ∃ R, ansOk l = R := ⟨_, rfl⟩
 rw [hR]
 rw [hR] at HBad HYes
 obtain ⟨n, hn⟩ : ∃ n, l.length = n := ⟨_, rfl⟩
 have HNL := Hid.mk hn
 have HC := ans_cells hat hin hn
 obtain ⟨N, hN⟩ : ∃ N, W.heap.size = N := ⟨_, rfl⟩
 have HNN := Hid.mk hN
 rw [hn] at hsh ⊢
 rw [hN] at HC ⊢
 have hnx : n ≤ maxLen := by
  have h1 := hsh.1
  have h2 := hsh.2.1
  omega
 clear hat hin hsh hR hn hN
 go_enter Tryz.func39, Tryz.ntmps39
 go_wp2
 go_loopw [3] (fun iv wr => ∃ (i : Nat) (u : World), u = wr ∧ i ≤ n ∧ iv = .int .i64 (i : Int) ∧ Hid (∀ j (hj : j < l.length), j < i → anOk l[j] = true) ∧ Hid (Below N W u)) (fun iv _ => n - (intOf iv).toNat)
 case atStart => exact ⟨0, _, rfl, Nat.zero_le _, rfl, fun j hj h => absurd h (Nat.not_lt_zero _), Below.refl _ _⟩
 case round =>
  obtain ⟨i, u, rfl, hi, rfl, HA, HU⟩ := hrel
  have hNu : N ≤ u.heap.size := by rw [← HNN.out]; exact HU.out.size
  by_cases hlt : i < n
  ·have hlz : (i : Int) < (n : Int) := by omega
   have hlz0 : (0 : Int) ≤ (i : Int) := by omega
   have wi : IntKind.i64.wrap ((i : Int) + 1) = ((i + 1 : Nat) : Int) := by rw [IntKind.wrap_i64]; unfold maxLen at hnx; omega
   obtain ⟨b, off, rfl, a, HI, HX⟩ := HC.out i hlt
   have HOk : Hid (anOk a = true → ∀ j (hj : j < l.length), j < i + 1 → anOk l[j] = true) := fun h j hj hji => by
    rcases Nat.lt_succ_iff_lt_or_eq.1 hji with h5 | h5
    ·exact HA.out j hj h5
    ·subst h5
     obtain ⟨⟨hi', e⟩, _⟩ := HI.out
     rw [e]; exact h
   have HNk : Hid (anOk a = false → R = false) := fun h => HBad.out a HI.out.2.1 h
   have hns := HI.out.2.2.1
   have HDc := Hid.mk (dsR_cases a)
   obtain ⟨nm0, tg, al, kd, dg⟩ := a
   (try simp only at hns)
   (try simp only at HDc)
   have HRi := Hid.mk (rright_in nm0 hns)
   obtain ⟨d0, _⟩ := HX.out _ HU.out
   (try simp only at d0)
   go_wp2_with fail
   refine (HRi.out _).mono ?_
   rintro e w2 ⟨rfl, hb2⟩
   have HB2 : Hid (Below N W w2) := HU.out.trans (hb2.mono hNu)
   have hN2 : N ≤ w2.heap.size := Nat.le_trans hNu hb2.size
   obtain ⟨_, e1, e2, e3, e4⟩ := HX.out _ HB2.out
   (try simp only at e1 e2 e3 e4)
   have HB3 : Hid (∀ o : Obj, Below N W (w2.alloc o)) := fun o => HB2.out.alloc hN2 o
   clear hb2 d0 hns
   cases hi1 : isN nm0 with
   | false =>
    have hR : R = false := HNk.out (by unfold anOk; simp only; rw [hi1]; rfl)
    subst hR
    go_wp2
    go_ret
    exact ⟨rfl, HB3.out _⟩
   | true =>
    have HN0 : Hid (dsR ⟨nm0, tg, al, kd, dg⟩ = false → R = false) := fun h => HNk.out (by unfold anOk; simp only; rw [h, Bool.and_false])
    have HY0 : Hid (dsR ⟨nm0, tg, al, kd, dg⟩ = true → ∀ j (hj : j < l.length), j < i + 1 → anOk l[j] = true) := fun h => HOk.out (by unfold anOk; simp only; rw [hi1, h]; rfl)
    clear HNk HOk hi1
    rcases HDc.out with ⟨hd, h1⟩ | ⟨hd, h1, h2⟩ | ⟨hd, h1, h2, h3, h4⟩ | ⟨f, hd, h1, h2, h3, hf⟩
    ·have hR : R = false := HN0.out hd
     subst hR
     clear hd HDc
     go_wp2
     go_ret
     exact ⟨rfl, HB3.out _⟩
    ·have hR : R = false := HN0.out hd
     subst hR
     clear hd HDc
     go_wp2
     go_ret
     exact ⟨rfl, HB3.out _⟩
    ·have hR : R = false := HN0.out hd
     subst hR
     clear hd HDc
     go_wp2
     go_ret
     exact ⟨rfl, HB3.out _⟩
    ·cases f with
     | false =>
      have hR : R = false := HN0.out hd
      subst hR
      clear hd HDc HY0
      rcases hf with ⟨rfl, hf⟩ | ⟨rfl, hf⟩ | ⟨k1, k2, _⟩
      ·have hz : ((dg.size : Int) == 20) = false := by have := of_decide_eq_false hf.symm; simpa using this
       clear hf
       rcases h3 with rfl | rfl
       all_goals
        go_wp2
        go_ret
        exact ⟨rfl, HB3.out _⟩
      ·have hz : ((dg.size : Int) == 32) = false := by have := of_decide_eq_false hf.symm; simpa using this
       clear hf
       rcases h3 with rfl | rfl
       all_goals
        go_wp2
        go_ret
        exact ⟨rfl, HB3.out _⟩
      ·rcases h3 with rfl | rfl
       all_goals
        go_wp2
        go_ret
        exact ⟨rfl, HB3.out _⟩
     | true =>
      have HA2 := Hid.mk (HY0.out hd)
      clear hd HDc HN0 HY0
      rcases hf with ⟨rfl, hf⟩ | ⟨rfl, hf⟩ | ⟨k1, k2, hf⟩
      ·have hz : ((dg.size : Int) == 20) = true := by have := of_decide_eq_true hf.symm; simpa using this
       clear hf
       rcases h3 with rfl | rfl
       all_goals
        go_wp2
        go_roundw
        case rel => exact ⟨i + 1, _, rfl, by omega, by first | rfl | go_num, HA2, HB3.out _⟩
        case measure => simp [intOf]; omega
      ·have hz : ((dg.size : Int) == 32) = true := by have := of_decide_eq_true hf.symm; simpa using this
       clear hf
       rcases h3 with rfl | rfl
       all_goals
        go_wp2
        go_roundw
        case rel => exact ⟨i + 1, _, rfl, by omega, by first | rfl | go_num, HA2, HB3.out _⟩
        case measure => simp [intOf]; omega
      ·cases hf
  ·have hlz : ¬ (i : Int) < (n : Int) := by omega
   have hR : R = true := HYes.out fun j hj => HA.out j hj (by have := HNL.out; omega)
   subst hR
   go_wp2
   go_ret
   exact ⟨rfl, HU.out⟩
set_option maxRecDepth 100000 in
set_option maxHeartbeats 8000000 in
theorem rups_in (W : World) (q : Option Addr) (cap : Nat) (l : List Up) (hat : UpsAt W q l) (hin : ∀ u ∈ l, UpIn u) (hsh : ShC l.length cap q) :
  Calls Tryz.prog 38 #[.slice q l.length cap] W fun e w' => e = .returned (.bool (upsR l)) ∧ Below W.heap.size W w' := by
 obtain ⟨N, hN⟩ : ∃ N, W.heap.size = N := ⟨_, rfl⟩
 have HNN := Hid.mk hN
 have HBL : Hid (∀ n, l.length = n → ∀ i, i < n → ∃ b off, q = some ⟨b, off, none⟩ ∧ ∃ (nm0 : ByteArray) (sv : List A.Ad) (fw : Bool) (qs : Option Addr) (cs : Nat), Hid ((∃ hi : i < l.length, l[i] = ⟨nm0, sv, fw⟩) ∧ nm0.size ≤ maxLen) ∧ Hid (∀ w, Below N W w → A.AdsAt w qs sv) ∧ Hid (∀ w, Below N W w → w.cell? ⟨b, off + i * 3, none⟩ = some (.string nm0) ∧ w.cell? ⟨b, off + i * 3 + 1, none⟩ = some (.slice qs sv.length cs))) := by
  intro n hn i hi0
  have hi : i < l.length := by omega
  obtain ⟨b, off, qs, cs, e, hlt, c0, c1, c2, hr, hs⟩ := hat i hi
  have key : ∀ w, Below N W w → ∀ j, w.cell? ⟨b, j, none⟩ = W.cell? ⟨b, j, none⟩ := fun w hb j => by rw [← hN] at hb; exact hb.cell (p := ⟨b, j, none⟩) hlt
  exact ⟨b, off, e, l[i].nm, l[i].sv, l[i].fw, qs, cs, ⟨⟨hi, rfl⟩, (hin _ (List.getElem_mem hi)).1⟩, fun w hb => by rw [← hN] at hb; exact hr.blk hb, fun w hb => ⟨(key w hb _).trans c0, (key w hb _).trans c1⟩⟩
 have HBad : Hid (∀ i (hi : i < l.length), upOk l[i] = false → upsR l = false) := fun i hi h => upsR_no (List.getElem_mem hi) h
 have HTwo : Hid (∀ i k (hi : i < l.length) (hk : k < i), eqF (l[k]'(by omega)).nm l[i].nm = true → upsR l = false) := fun i k hi hk h => upsR_two hi hk h
 have HYes : Hid ((∀ j (hj : j < l.length), upOk l[j] = true) → (∀ a b (ha : a < l.length) (hb : b < l.length), a < b → eqF l[a].nm l[b].nm = false) → upsR l = true) := fun h1 h2 => upsR_yes (fun u hu => by
  obtain ⟨j, hj, rfl⟩ := List.getElem_of_mem hu
  exact h1 j hj) (List.pairwise_iff_getElem.2 fun a b ha hb hab => h2 a b ha hb hab)
 obtain ⟨R, hR⟩ : ∃ R, upsR l = R := ⟨_, rfl⟩
 rw [hR] at HBad HTwo HYes ⊢
 obtain ⟨n, hn⟩ : ∃ n, l.length = n := ⟨_, rfl⟩
 have HNL := Hid.mk hn
 have HBI := Hid.mk (HBL.out n hn)
 rw [hn] at hsh ⊢
 rw [hN]
 have hnx : n ≤ 9223372036854775807 := by
  have h1 := hsh.1
  have h2 := hsh.2.1
  unfold maxLen at h2
  omega
 clear hat hin hsh hN hR hn HBL
 go_enter Tryz.func38, Tryz.ntmps38
 go_wp2
 go_loopw [3] (fun iv wr => ∃ (i : Nat) (u : World), u = wr ∧ i ≤ n ∧ iv = .int .i64 (i : Int) ∧ Hid ((∀ j (hj : j < l.length), j < i → upOk l[j] = true) ∧ ∀ a b (ha : a < l.length) (hb : b < l.length), a < b → b < i → eqF l[a].nm l[b].nm = false) ∧ Hid (Below N W u)) (fun iv _ => n - (intOf iv).toNat)
 case atStart => exact ⟨0, _, rfl, Nat.zero_le _, rfl, ⟨fun j hj h => absurd h (Nat.not_lt_zero _), fun a b ha hb h1 h2 => absurd h2 (Nat.not_lt_zero _)⟩, Below.refl _ _⟩
 case round =>
  obtain ⟨i, u, rfl, hi, rfl, HA, HU⟩ := hrel
  have hNu : N ≤ u.heap.size := by rw [← HNN.out]; exact HU.out.size
  by_cases hlt : i < n
  ·have hlz : (i : Int) < (n : Int) := by omega
   have hlz0 : (0 : Int) ≤ (i : Int) := by omega
   have wi : IntKind.i64.wrap ((i : Int) + 1) = ((i + 1 : Nat) : Int) := by rw [IntKind.wrap_i64]; omega
   obtain ⟨b, off, rfl, nm0, sv, fw, qs, cs, HI, HSv, HX⟩ := HBI.out i hlt
   have hns := HI.out.2
   have HRi := Hid.mk (rright_in nm0 hns)
   have HSr : Hid (∀ w, Below N W w → Calls Tryz.prog 36 #[.slice qs sv.length cs] w fun e w' => e = .returned (.bool (srvR sv)) ∧ Below w.heap.size w w') := fun w hb => rsrv_in w qs cs sv (HSv.out w hb)
   have HNk : Hid (isN nm0 = false ∨ srvR sv = false → R = false) := fun h => by
    obtain ⟨⟨hi', e⟩, _⟩ := HI.out
    refine HBad.out i hi' ?_
    rw [e]
    unfold upOk
    simp only
    rcases h with h | h
    ·rw [h]; rfl
    ·rw [h, Bool.and_false]
   have HOk : Hid (isN nm0 = true → srvR sv = true → ∀ j (hj : j < l.length), j < i + 1 → upOk l[j] = true) := fun h1 h2 j hj hji => by
    rcases Nat.lt_succ_iff_lt_or_eq.1 hji with h5 | h5
    ·exact HA.out.1 j hj h5
    ·subst h5
     obtain ⟨⟨hi', e⟩, _⟩ := HI.out
     rw [e]; unfold upOk
     simp only
     rw [h1, h2]; rfl
   have HAp : Hid ((∀ a (ha : a < l.length), a < i → eqF l[a].nm nm0 = false) → ∀ a b (ha : a < l.length) (hb : b < l.length), a < b → b < i + 1 → eqF l[a].nm l[b].nm = false) := fun h a b ha hb hab hbi => by
    rcases Nat.lt_succ_iff_lt_or_eq.1 hbi with h5 | h5
    ·exact HA.out.2 a b ha hb hab h5
    ·subst h5
     obtain ⟨⟨hi', e⟩, _⟩ := HI.out
     rw [e]
     exact h a ha hab
   have HTw : Hid (∀ k (hk : k < l.length), k < i → eqF l[k].nm nm0 = true → R = false) := fun k hk hki h => by
    obtain ⟨⟨hi', e⟩, _⟩ := HI.out
    exact HTwo.out i k hi' hki (by rw [e]; exact h)
   obtain ⟨d0, _⟩ := HX.out _ HU.out
   clear HBad HTwo hns
   go_wp2_with fail
   refine (HRi.out _).mono ?_
   rintro e w2 ⟨rfl, hb2⟩
   have HB2 : Hid (Below N W w2) := HU.out.trans (hb2.mono hNu)
   have hN2 : N ≤ w2.heap.size := Nat.le_trans hNu hb2.size
   obtain ⟨_, d1⟩ := HX.out _ HB2.out
   clear hb2 d0
   go_wp2_with fail
   refine (HSr.out _ HB2.out).mono ?_
   rintro e w3 ⟨rfl, hb3⟩
   have HB3 : Hid (Below N W w3) := HB2.out.trans (hb3.mono hN2)
   have hN3 : N ≤ w3.heap.size := Nat.le_trans hN2 hb3.size
   clear hb3 d1
   cases hi1 : isN nm0 with
   | false =>
    have hR : R = false := HNk.out (.inl hi1)
    subst hR
    clear hi1
    go_wp2
    go_ret
    exact ⟨rfl, HB3.out⟩
   | true =>
   cases hs1 : srvR sv with
   | false =>
    have hR : R = false := HNk.out (.inr hs1)
    subst hR
    clear hi1 hs1
    go_wp2
    go_ret
    exact ⟨rfl, HB3.out⟩
   | true =>
   have HOk2 := Hid.mk (HOk.out hi1 hs1)
   clear hi1 hs1 HOk HNk
   go_wp2
   go_loopw [6] (fun kv wr => ∃ (k : Nat) (u2 : World), u2 = wr ∧ k ≤ i ∧ kv = .int .i64 (k : Int) ∧ Hid (∀ j (hj : j < l.length), j < k → eqF l[j].nm nm0 = false) ∧ Hid (Below N W u2)) (fun kv _ => i - (intOf kv).toNat)
   case atStart => exact ⟨0, _, rfl, Nat.zero_le _, rfl, fun j _ hj => absurd hj (Nat.not_lt_zero _), HB3.out⟩
   case round =>
    obtain ⟨k, u2, rfl, hk, rfl, HJ, HU2⟩ := hrel
    have hNu2 : N ≤ u2.heap.size := by rw [← HNN.out]; exact HU2.out.size
    by_cases hki : k < i
    ·have hkz : (k : Int) < (i : Int) := by omega
     have hkz0 : (0 : Int) ≤ (k : Int) := by omega
     have hkn : (k : Int) < (n : Int) := by omega
     have wk : IntKind.i64.wrap ((k : Int) + 1) = ((k + 1 : Nat) : Int) := by rw [IntKind.wrap_i64]; omega
     have HKB : Hid (∃ (nmk : ByteArray), Hid ((∃ hk : k < l.length, l[k].nm = nmk) ∧ nmk.size ≤ maxLen) ∧ Hid (∀ w, Below N W w → w.cell? ⟨b, off + k * 3, none⟩ = some (.string nmk))) := by
      obtain ⟨b2, off2, e2, nmk, _, _, _, _, h1, _, h2⟩ := HBI.out k (by omega)
      cases e2
      obtain ⟨⟨hk', e⟩, h3⟩ := h1.out
      exact ⟨nmk, ⟨⟨hk', by rw [e]⟩, h3⟩, fun w hb => (h2.out w hb).1⟩
     obtain ⟨nmk, HYi, HYc⟩ := HKB.out
     have HXS : Hid (∀ w', Below N W w' → (fun w' : World => w'.cell? ⟨b, off + k * 3, none⟩ = some (.string nmk) ∧ w'.cell? ⟨b, off + i * 3, none⟩ = some (.string nm0)) w') := fun w' hb => ⟨HYc.out w' hb, (HX.out w' hb).1⟩
     have HEQ := Hid.mk (requal_in nmk nm0 HYi.out.2 HI.out.2)
     have h0d : Below N W u2.drew := HU2.out.drew
     clear HKB
     go_upto_region 11 with fail
     refine wp_region_held_drew (S := (fun w' : World => w'.cell? ⟨b, off + k * 3, none⟩ = some (.string nmk) ∧ w'.cell? ⟨b, off + i * 3, none⟩ = some (.string nm0))) (by kernel_rfl) (HXS.out _ h0d) (fun hHeld => ?_)
     refine wU (i := 0) (v := ?va_0) rfl ?ya_0 (by assumption) ?_
     case ya_0 => (intro w hSw; (try dsimp only at hSw); go_simp; try with_reducible rfl)
     refine wU (i := 1) (v := ?va_1) rfl ?ya_1 (by assumption) ?_
     case ya_1 => (intro w hSw; (try dsimp only at hSw); go_simp; try with_reducible rfl)
     refine wU (i := 2) (v := ?va_2) rfl ?ya_2 (by assumption) ?_
     case ya_2 => (intro w hSw; (try dsimp only at hSw); go_simp; try with_reducible rfl)
     refine wU (i := 3) (v := ?va_3) rfl ?ya_3 (by assumption) ?_
     case ya_3 => (intro w hSw; (try dsimp only at hSw); go_simp; try with_reducible rfl)
     refine wU (i := 4) (v := ?va_4) rfl ?ya_4 (by assumption) ?_
     case ya_4 => (intro w hSw; (try dsimp only at hSw); go_simp; try with_reducible rfl)
     refine wU (i := 5) (v := ?va_5) rfl ?ya_5 (by assumption) ?_
     case ya_5 => (intro w hSw; (try dsimp only at hSw); go_simp; try with_reducible rfl)
     refine wU (i := 6) (v := ?va_6) rfl ?ya_6 (by assumption) ?_
     case ya_6 => (intro w hSw; (try dsimp only at hSw); go_simp; try with_reducible rfl)
     refine wU (i := 7) (v := ?va_7) rfl ?ya_7 (by assumption) ?_
     case ya_7 => (intro w hSw; (try dsimp only at hSw); go_simp; try with_reducible rfl)
     refine wU (i := 8) (v := ?va_8) rfl ?ya_8 (by assumption) ?_
     case ya_8 => (intro w hSw; (try dsimp only at hSw); go_simp; try with_reducible rfl)
     refine wU (i := 9) (v := ?va_9) rfl ?ya_9 (by assumption) ?_
     case ya_9 => (intro w hSw; (try dsimp only at hSw); go_simp; try with_reducible rfl)
     try simp only [Act.put, List.getElem_toArray, List.getElem_cons_succ, List.getElem_cons_zero, List.setIfInBounds_toArray, List.set_cons_zero, List.set_cons_succ]
     refine wpAnyH_ready (rs := [10]) (by kernel_rfl) (by simp) ?_
     refine AllReadyH.cons rfl (fun K hK => ?_) AllReadyH.nil
     go_simp
     go_at_call 29
     refine (HEQ.out _).mono ?_
     rintro e w4 ⟨rfl, hb4'⟩
     have hb4 : Below N W w4 := h0d.trans (hb4'.mono hNu2)
     refine hK.out _ _ (HXS.out _ hb4) (fun hHeld => ?_)
     clear hK K
     try simp only [Act.put, List.getElem_toArray, List.getElem_cons_succ, List.getElem_cons_zero, List.setIfInBounds_toArray, List.set_cons_zero, List.set_cons_succ]
     refine wU (i := 11) (v := ?vb_11) rfl ?yb_11 (by assumption) ?_
     case yb_11 => (intro w hSw; (try dsimp only at hSw); go_simp; try with_reducible rfl)
     try simp only [Act.put, List.getElem_toArray, List.getElem_cons_succ, List.getElem_cons_zero, List.setIfInBounds_toArray, List.set_cons_zero, List.set_cons_succ]
     refine wpAnyH_done (by kernel_rfl) ?_ _
     clear hHeld
     have HB4 := Hid.mk hb4
     clear hb4 hb4'
     cases hq : eqF nmk nm0 with
     | true =>
      obtain rfl : R = false := by
       obtain ⟨⟨hk', e⟩, _⟩ := HYi.out
       exact HTw.out k hk' hki (by rw [e]; exact hq)
      clear hq
      go_wp2
      go_ret
      exact ⟨rfl, HB4.out⟩
     | false =>
      have HJ2 : Hid (∀ j (hj : j < l.length), j < k + 1 → eqF l[j].nm nm0 = false) := fun j hj hji => by
       rcases Nat.lt_succ_iff_lt_or_eq.1 hji with h1 | rfl
       ·exact HJ.out j hj h1
       ·obtain ⟨⟨hk', e⟩, _⟩ := HYi.out
        rw [e]; exact hq
      clear hq
      go_wp2
      go_roundw
      case rel => exact ⟨k + 1, _, rfl, by omega, by first | rfl | go_num, HJ2, HB4⟩
      case measure => simp [intOf]; omega
    ·have hkz : ¬ (k : Int) < (i : Int) := by omega
     have HE : Hid ((∀ j (hj : j < l.length), j < i + 1 → upOk l[j] = true) ∧ ∀ a b (ha : a < l.length) (hb : b < l.length), a < b → b < i + 1 → eqF l[a].nm l[b].nm = false) := ⟨HOk2.out, HAp.out fun a ha hai => HJ.out a ha (by omega)⟩
     go_wp2
     go_roundw
     case rel => exact ⟨i + 1, _, rfl, by omega, by first | rfl | go_num, HE, HU2⟩
     case measure => simp [intOf]; omega
  ·have hlz : ¬ (i : Int) < (n : Int) := by omega
   have hR : R = true := HYes.out (fun j hj => HA.out.1 j hj (by have := HNL.out; omega)) (fun a b ha hb hab => HA.out.2 a b ha hb hab (by have := HNL.out; omega))
   subst hR
   go_wp2
   go_ret
   exact ⟨rfl, HU.out⟩
end Go.Proofs.YtdlcldjlfhmlgaaGreatDoor
/- bytesOf: a number as one, two or four bytes. -/
namespace Go.Proofs.YtdlcldjlfhmlgaaGreatDoor
open Go.RowKit
def bytesB (n w : Nat) : List UInt8 := (List.range w).map fun i => UInt8.ofNat (n / 256 ^ (w - 1 - i))
theorem bytesB_len (n w : Nat) : (bytesB n w).length = w := by simp [bytesB]
theorem byte_back (q : Nat) (b : UInt8) (h : q % 256 = b.toNat) : UInt8.ofNat q = b := by
 apply UInt8.toNat_inj.1
 rw [UInt8.toNat_ofNat']
 exact h
theorem bytesB1 (n : Nat) : bytesB n 1 = [UInt8.ofNat n] := by simp [bytesB, List.range_succ]
theorem bytesB2 (n : Nat) : bytesB n 2 = [UInt8.ofNat (n / 256), UInt8.ofNat n] := by simp [bytesB, List.range_succ]
theorem bytesB4 (n : Nat) : bytesB n 4 = [UInt8.ofNat (n / 16777216), UInt8.ofNat (n / 65536), UInt8.ofNat (n / 256), UInt8.ofNat n] := by simp [bytesB, List.range_succ]
theorem bytesB_num (l : List UInt8) (h : l.length = 1 ∨ l.length = 2 ∨ l.length = 4) : bytesB (numB l) l.length = l := by
 rcases h with h | h | h
 ·match l, h with
  | [a], _ =>
   have ha := a.toNat_lt
   rw [show [a].length = 1 from rfl, bytesB1, byte_back (numB [a]) a (by simp only [numB, List.foldl]; omega)]
 ·match l, h with
  | [a, b], _ =>
   have ha := a.toNat_lt
   have hb := b.toNat_lt
   rw [show [a, b].length = 2 from rfl, bytesB2, byte_back (numB [a, b] / 256) a (by simp only [numB, List.foldl]; omega), byte_back (numB [a, b]) b (by simp only [numB, List.foldl]; omega)]
 ·match l, h with
  | [a, b, c, d], _ =>
   have ha := a.toNat_lt
   have hb := b.toNat_lt
   have hc := c.toNat_lt
   have hd := d.toNat_lt
   rw [show [a, b, c, d].length = 4 from rfl, bytesB4, byte_back (numB [a, b, c, d] / 16777216) a (by simp only [numB, List.foldl]; omega), byte_back (numB [a, b, c, d] / 65536) b (by simp only [numB, List.foldl]; omega), byte_back (numB [a, b, c, d] / 256) c (by simp only [numB, List.foldl]; omega), byte_back (numB [a, b, c, d]) d (by simp only [numB, List.foldl]; omega)]
theorem cells_put {W : World} {b j : Nat} {cs : Array Value} {t : TypeId} (h : W.heap[b]? = some (.cells cs t (0, 0))) (u : Value) : (W.setCell ⟨b, j, none⟩ u).heap[b]? = some (.cells (cs.setIfInBounds j u) t (0, 0)) := by
 simp only [World.setCell, Array.getElem?_modify, h]
 rfl
theorem cells_at {W : World} {b j : Nat} {cs : Array Value} {t : TypeId} {v : Value} (h : W.heap[b]? = some (.cells cs t (0, 0))) (hj : cs[j]? = some v) : W.cell? ⟨b, j, none⟩ = some v ∧ W.frozen? ⟨b, j, none⟩ = false := by
 simp [World.cell?, World.frozen?, h, hj]
theorem wrapu8 (x : Int) (q : Nat) (h : x = (q : Int)) : IntKind.u8.wrap x = (((UInt8.ofNat q).toNat : Nat) : Int) := by
 rw [IntKind.wrap_u8, UInt8.toNat_ofNat', h]
 omega
def BytPost (n : Int) (w : Nat) (W : World) (e : Ending) (w' : World) : Prop := (if 0 ≤ n ∧ n < 256 ^ w then e = .returned (.string ⟨(bytesB n.toNat w).toArray⟩) else e = .panicked mustV) ∧ Below W.heap.size W w'
set_option maxRecDepth 100000 in
set_option maxHeartbeats 2000000 in
theorem bytes1_yes (n : Nat) (hn : n < 256) (w : World) :
  Calls Tryz.prog 203 #[.int .i64 (n : Int), .int .i64 1] w fun e w' => e = .returned (.string ⟨(bytesB n 1).toArray⟩) ∧ Below w.heap.size w w' := by
 obtain ⟨i0, hi, hz0, hz1, hz2⟩ := info_parts info5
 have hsh : (n : Int) / 256 = 0 := by omega
 have HBB : Hid ((⟨(bytesB n 1).toArray⟩ : ByteArray) = ⟨([UInt8.ofNat (n)] : List UInt8).toArray⟩) := by
  rw [Hid]
  simp [bytesB, List.range_succ]
 go_enter Tryz.func203, Tryz.ntmps203
 go_wp2_with fail
 refine (must_yes _).mono ?_
 rintro e w1 ⟨rfl, rfl⟩
 obtain ⟨M, hM⟩ : ∃ M, M = madeCells (Value.int .u8 0).cells (((1 : Nat) : Int).toNat * i0.size) := ⟨_, rfl⟩
 have hMs : M.size = 1 := by rw [hM, size_madeCells, hz1]; simp
 have hmk : ∀ W : World, (Instr.makeSlice 143 (.int .i64 1) (.int .i64 1)).run Tryz.prog W = .ok (.slice (some ⟨W.heap.size, 0, none⟩) 1 1) (W.alloc (.cells M 5)) := fun W => by
  have h := run_make (P := Tryz.prog) W 143 5 i0 (.int .u8 0) Tryz.underlying143 hi hz0 .i64 .i64 ((1 : Nat) : Int) ((1 : Nat) : Int) (by omega) (by omega) (by rw [hz2]; omega) (by omega)
  rw [← hM] at h
  simpa using h
 obtain ⟨v0, hv0⟩ : ∃ v0, M = #[v0] := by
  match M, hMs with
  | ⟨[v0]⟩, _ => exact ⟨v0, rfl⟩
 subst hv0
 clear hM hMs
 go_wp2
 clear hmk
 go_loopw [21] (fun i wr => ∃ (j : Nat) (v0 : Value), j ≤ 1 ∧ i = .int .i64 j ∧ (1 ≤ j → v0 = .int .u8 (((UInt8.ofNat (n)).toNat : Nat) : Int)) ∧ wr.heap[w1.heap.size]? = some (.cells #[v0] 5 (0, 0)) ∧ Below w1.heap.size w1 wr) (fun i _ => 1 - (intOf i).toNat)
 case atStart => exact ⟨0, v0, by omega, rfl, fun h => absurd h (by omega), heap_new _ _, (Below.refl _ _).alloc (Nat.le_refl _) _⟩
 case round =>
  obtain ⟨j, v0, hj, rfl, hv0, hh, hbl⟩ := hrel
  rcases (show j = 0 ∨ j = 1 by omega) with rfl | rfl
  ·obtain ⟨hc, hf⟩ := cells_at (j := 0) hh rfl
   have hbs := Hid.mk (cells_put (j := 0) hh (.int .u8 (((UInt8.ofNat (n)).toNat : Nat) : Int)))
   have hwr := wrapu8 ((n : Int)) (n) (by omega)
   go_wp2
   exact ⟨⟨1, (.int .u8 (((UInt8.ofNat (n)).toNat : Nat) : Int)), by omega, rfl, fun _ => rfl, hbs.out, hbl.setCell (p := ⟨w1.heap.size, 0, none⟩) (Nat.le_refl _) _⟩, by simp [intOf]⟩
  ·obtain rfl := hv0 (by omega)
   have hcv := run_convert_bytes_back (P := Tryz.prog) wr 143 9 5 ⟨w1.heap.size, 0, none⟩ 1 [UInt8.ofNat (n)] Tryz.underlying143 Tryz.underlying5 Tryz.underlying9 (fun j hj => by
    simp only [List.length_cons, List.length_nil] at hj
    rw [add_at]
    rcases (show j = 0 by omega) with rfl
    all_goals exact (cells_at hh rfl).1)
   simp only [List.length_cons, List.length_nil, Nat.zero_add, Nat.reduceAdd] at hcv
   clear hv0
   go_wp2
   go_ret
   exact ⟨by rw [HBB.out]; rfl, hbl⟩
set_option maxRecDepth 100000 in
set_option maxHeartbeats 2000000 in
theorem bytes2_yes (n : Nat) (hn : n < 65536) (w : World) :
  Calls Tryz.prog 203 #[.int .i64 (n : Int), .int .i64 2] w fun e w' => e = .returned (.string ⟨(bytesB n 2).toArray⟩) ∧ Below w.heap.size w w' := by
 obtain ⟨i0, hi, hz0, hz1, hz2⟩ := info_parts info5
 have hsh : (n : Int) / 65536 = 0 := by omega
 have HBB : Hid ((⟨(bytesB n 2).toArray⟩ : ByteArray) = ⟨([UInt8.ofNat (n / 256), UInt8.ofNat (n)] : List UInt8).toArray⟩) := by
  rw [Hid]
  simp [bytesB, List.range_succ]
 go_enter Tryz.func203, Tryz.ntmps203
 go_wp2_with fail
 refine (must_yes _).mono ?_
 rintro e w1 ⟨rfl, rfl⟩
 obtain ⟨M, hM⟩ : ∃ M, M = madeCells (Value.int .u8 0).cells (((2 : Nat) : Int).toNat * i0.size) := ⟨_, rfl⟩
 have hMs : M.size = 2 := by rw [hM, size_madeCells, hz1]; simp
 have hmk : ∀ W : World, (Instr.makeSlice 143 (.int .i64 2) (.int .i64 2)).run Tryz.prog W = .ok (.slice (some ⟨W.heap.size, 0, none⟩) 2 2) (W.alloc (.cells M 5)) := fun W => by
  have h := run_make (P := Tryz.prog) W 143 5 i0 (.int .u8 0) Tryz.underlying143 hi hz0 .i64 .i64 ((2 : Nat) : Int) ((2 : Nat) : Int) (by omega) (by omega) (by rw [hz2]; omega) (by omega)
  rw [← hM] at h
  simpa using h
 obtain ⟨v0, v1, hv0⟩ : ∃ v0 v1, M = #[v0, v1] := by
  match M, hMs with
  | ⟨[v0, v1]⟩, _ => exact ⟨v0, v1, rfl⟩
 subst hv0
 clear hM hMs
 go_wp2
 clear hmk
 go_loopw [21] (fun i wr => ∃ (j : Nat) (v0 v1 : Value), j ≤ 2 ∧ i = .int .i64 j ∧ (1 ≤ j → v0 = .int .u8 (((UInt8.ofNat (n / 256)).toNat : Nat) : Int)) ∧ (2 ≤ j → v1 = .int .u8 (((UInt8.ofNat (n)).toNat : Nat) : Int)) ∧ wr.heap[w1.heap.size]? = some (.cells #[v0, v1] 5 (0, 0)) ∧ Below w1.heap.size w1 wr) (fun i _ => 2 - (intOf i).toNat)
 case atStart => exact ⟨0, v0, v1, by omega, rfl, fun h => absurd h (by omega), fun h => absurd h (by omega), heap_new _ _, (Below.refl _ _).alloc (Nat.le_refl _) _⟩
 case round =>
  obtain ⟨j, v0, v1, hj, rfl, hv0, hv1, hh, hbl⟩ := hrel
  rcases (show j = 0 ∨ j = 1 ∨ j = 2 by omega) with rfl | rfl | rfl
  ·obtain ⟨hc, hf⟩ := cells_at (j := 0) hh rfl
   have hbs := Hid.mk (cells_put (j := 0) hh (.int .u8 (((UInt8.ofNat (n / 256)).toNat : Nat) : Int)))
   have hwr := wrapu8 ((n : Int) / 256) (n / 256) (by omega)
   go_wp2
   exact ⟨⟨1, (.int .u8 (((UInt8.ofNat (n / 256)).toNat : Nat) : Int)), v1, by omega, rfl, fun _ => rfl, fun h => absurd h (by omega), hbs.out, hbl.setCell (p := ⟨w1.heap.size, 0, none⟩) (Nat.le_refl _) _⟩, by simp [intOf]⟩
  ·obtain ⟨hc, hf⟩ := cells_at (j := 1) hh rfl
   have hbs := Hid.mk (cells_put (j := 1) hh (.int .u8 (((UInt8.ofNat (n)).toNat : Nat) : Int)))
   have hwr := wrapu8 ((n : Int)) (n) (by omega)
   go_wp2
   exact ⟨⟨2, v0, (.int .u8 (((UInt8.ofNat (n)).toNat : Nat) : Int)), by omega, rfl, fun _ => hv0 (by omega), fun _ => rfl, hbs.out, hbl.setCell (p := ⟨w1.heap.size, 1, none⟩) (Nat.le_refl _) _⟩, by simp [intOf]⟩
  ·obtain rfl := hv0 (by omega)
   obtain rfl := hv1 (by omega)
   have hcv := run_convert_bytes_back (P := Tryz.prog) wr 143 9 5 ⟨w1.heap.size, 0, none⟩ 2 [UInt8.ofNat (n / 256), UInt8.ofNat (n)] Tryz.underlying143 Tryz.underlying5 Tryz.underlying9 (fun j hj => by
    simp only [List.length_cons, List.length_nil] at hj
    rw [add_at]
    rcases (show j = 0 ∨ j = 1 by omega) with rfl | rfl
    all_goals exact (cells_at hh rfl).1)
   simp only [List.length_cons, List.length_nil, Nat.zero_add, Nat.reduceAdd] at hcv
   clear hv0 hv1
   go_wp2
   go_ret
   exact ⟨by rw [HBB.out]; rfl, hbl⟩
set_option maxRecDepth 100000 in
set_option maxHeartbeats 2000000 in
theorem bytes4_yes (n : Nat) (hn : n < 4294967296) (w : World) :
  Calls Tryz.prog 203 #[.int .i64 (n : Int), .int .i64 4] w fun e w' => e = .returned (.string ⟨(bytesB n 4).toArray⟩) ∧ Below w.heap.size w w' := by
 obtain ⟨i0, hi, hz0, hz1, hz2⟩ := info_parts info5
 have hsh : (n : Int) / 4294967296 = 0 := by omega
 have HBB : Hid ((⟨(bytesB n 4).toArray⟩ : ByteArray) = ⟨([UInt8.ofNat (n / 16777216), UInt8.ofNat (n / 65536), UInt8.ofNat (n / 256), UInt8.ofNat (n)] : List UInt8).toArray⟩) := by
  rw [Hid]
  simp [bytesB, List.range_succ]
 go_enter Tryz.func203, Tryz.ntmps203
 go_wp2_with fail
 refine (must_yes _).mono ?_
 rintro e w1 ⟨rfl, rfl⟩
 obtain ⟨M, hM⟩ : ∃ M, M = madeCells (Value.int .u8 0).cells (((4 : Nat) : Int).toNat * i0.size) := ⟨_, rfl⟩
 have hMs : M.size = 4 := by rw [hM, size_madeCells, hz1]; simp
 have hmk : ∀ W : World, (Instr.makeSlice 143 (.int .i64 4) (.int .i64 4)).run Tryz.prog W = .ok (.slice (some ⟨W.heap.size, 0, none⟩) 4 4) (W.alloc (.cells M 5)) := fun W => by
  have h := run_make (P := Tryz.prog) W 143 5 i0 (.int .u8 0) Tryz.underlying143 hi hz0 .i64 .i64 ((4 : Nat) : Int) ((4 : Nat) : Int) (by omega) (by omega) (by rw [hz2]; omega) (by omega)
  rw [← hM] at h
  simpa using h
 obtain ⟨v0, v1, v2, v3, hv0⟩ : ∃ v0 v1 v2 v3, M = #[v0, v1, v2, v3] := by
  match M, hMs with
  | ⟨[v0, v1, v2, v3]⟩, _ => exact ⟨v0, v1, v2, v3, rfl⟩
 subst hv0
 clear hM hMs
 go_wp2
 clear hmk
 go_loopw [21] (fun i wr => ∃ (j : Nat) (v0 v1 v2 v3 : Value), j ≤ 4 ∧ i = .int .i64 j ∧ (1 ≤ j → v0 = .int .u8 (((UInt8.ofNat (n / 16777216)).toNat : Nat) : Int)) ∧ (2 ≤ j → v1 = .int .u8 (((UInt8.ofNat (n / 65536)).toNat : Nat) : Int)) ∧ (3 ≤ j → v2 = .int .u8 (((UInt8.ofNat (n / 256)).toNat : Nat) : Int)) ∧ (4 ≤ j → v3 = .int .u8 (((UInt8.ofNat (n)).toNat : Nat) : Int)) ∧ wr.heap[w1.heap.size]? = some (.cells #[v0, v1, v2, v3] 5 (0, 0)) ∧ Below w1.heap.size w1 wr) (fun i _ => 4 - (intOf i).toNat)
 case atStart => exact ⟨0, v0, v1, v2, v3, by omega, rfl, fun h => absurd h (by omega), fun h => absurd h (by omega), fun h => absurd h (by omega), fun h => absurd h (by omega), heap_new _ _, (Below.refl _ _).alloc (Nat.le_refl _) _⟩
 case round =>
  obtain ⟨j, v0, v1, v2, v3, hj, rfl, hv0, hv1, hv2, hv3, hh, hbl⟩ := hrel
  rcases (show j = 0 ∨ j = 1 ∨ j = 2 ∨ j = 3 ∨ j = 4 by omega) with rfl | rfl | rfl | rfl | rfl
  ·obtain ⟨hc, hf⟩ := cells_at (j := 0) hh rfl
   have hbs := Hid.mk (cells_put (j := 0) hh (.int .u8 (((UInt8.ofNat (n / 16777216)).toNat : Nat) : Int)))
   have hwr := wrapu8 ((n : Int) / 16777216) (n / 16777216) (by omega)
   go_wp2
   exact ⟨⟨1, (.int .u8 (((UInt8.ofNat (n / 16777216)).toNat : Nat) : Int)), v1, v2, v3, by omega, rfl, fun _ => rfl, fun h => absurd h (by omega), fun h => absurd h (by omega), fun h => absurd h (by omega), hbs.out, hbl.setCell (p := ⟨w1.heap.size, 0, none⟩) (Nat.le_refl _) _⟩, by simp [intOf]⟩
  ·obtain ⟨hc, hf⟩ := cells_at (j := 1) hh rfl
   have hbs := Hid.mk (cells_put (j := 1) hh (.int .u8 (((UInt8.ofNat (n / 65536)).toNat : Nat) : Int)))
   have hwr := wrapu8 ((n : Int) / 65536) (n / 65536) (by omega)
   go_wp2
   exact ⟨⟨2, v0, (.int .u8 (((UInt8.ofNat (n / 65536)).toNat : Nat) : Int)), v2, v3, by omega, rfl, fun _ => hv0 (by omega), fun _ => rfl, fun h => absurd h (by omega), fun h => absurd h (by omega), hbs.out, hbl.setCell (p := ⟨w1.heap.size, 1, none⟩) (Nat.le_refl _) _⟩, by simp [intOf]⟩
  ·obtain ⟨hc, hf⟩ := cells_at (j := 2) hh rfl
   have hbs := Hid.mk (cells_put (j := 2) hh (.int .u8 (((UInt8.ofNat (n / 256)).toNat : Nat) : Int)))
   have hwr := wrapu8 ((n : Int) / 256) (n / 256) (by omega)
   go_wp2
   exact ⟨⟨3, v0, v1, (.int .u8 (((UInt8.ofNat (n / 256)).toNat : Nat) : Int)), v3, by omega, rfl, fun _ => hv0 (by omega), fun _ => hv1 (by omega), fun _ => rfl, fun h => absurd h (by omega), hbs.out, hbl.setCell (p := ⟨w1.heap.size, 2, none⟩) (Nat.le_refl _) _⟩, by simp [intOf]⟩
  ·obtain ⟨hc, hf⟩ := cells_at (j := 3) hh rfl
   have hbs := Hid.mk (cells_put (j := 3) hh (.int .u8 (((UInt8.ofNat (n)).toNat : Nat) : Int)))
   have hwr := wrapu8 ((n : Int)) (n) (by omega)
   go_wp2
   exact ⟨⟨4, v0, v1, v2, (.int .u8 (((UInt8.ofNat (n)).toNat : Nat) : Int)), by omega, rfl, fun _ => hv0 (by omega), fun _ => hv1 (by omega), fun _ => hv2 (by omega), fun _ => rfl, hbs.out, hbl.setCell (p := ⟨w1.heap.size, 3, none⟩) (Nat.le_refl _) _⟩, by simp [intOf]⟩
  ·obtain rfl := hv0 (by omega)
   obtain rfl := hv1 (by omega)
   obtain rfl := hv2 (by omega)
   obtain rfl := hv3 (by omega)
   have hcv := run_convert_bytes_back (P := Tryz.prog) wr 143 9 5 ⟨w1.heap.size, 0, none⟩ 4 [UInt8.ofNat (n / 16777216), UInt8.ofNat (n / 65536), UInt8.ofNat (n / 256), UInt8.ofNat (n)] Tryz.underlying143 Tryz.underlying5 Tryz.underlying9 (fun j hj => by
    simp only [List.length_cons, List.length_nil] at hj
    rw [add_at]
    rcases (show j = 0 ∨ j = 1 ∨ j = 2 ∨ j = 3 by omega) with rfl | rfl | rfl | rfl
    all_goals exact (cells_at hh rfl).1)
   simp only [List.length_cons, List.length_nil, Nat.zero_add, Nat.reduceAdd] at hcv
   clear hv0 hv1 hv2 hv3
   go_wp2
   go_ret
   exact ⟨by rw [HBB.out]; rfl, hbl⟩
theorem bytes4_in (n : Int) (w : World) : Calls Tryz.prog 203 #[.int .i64 n, .int .i64 4] w fun e w' => BytPost n 4 w e w' := by
 by_cases h0 : 0 ≤ n
 ·by_cases h1 : n < 4294967296
  ·obtain ⟨m, rfl⟩ : ∃ m : Nat, n = m := ⟨n.toNat, by omega⟩
   refine (bytes4_yes m (by omega) w).mono ?_
   rintro e w' ⟨rfl, hb⟩
   refine ⟨?_, hb⟩
   rw [if_pos ⟨h0, by omega⟩]
   rfl
  ·have hsh : ¬ n / 4294967296 = 0 := by omega
   have hsb : (n / 4294967296 == 0) = false := by simpa using hsh
   go_enter Tryz.func203, Tryz.ntmps203
   go_wp2_with fail
   refine (must_no _).mono ?_
   rintro e w1 ⟨rfl, rfl⟩
   go_wp2
   refine ⟨rfl, ?_, Below.refl _ _⟩
   rw [if_neg (by omega)]
 ·go_enter Tryz.func203, Tryz.ntmps203
  go_wp2_with fail
  refine (must_no _).mono ?_
  rintro e w1 ⟨rfl, rfl⟩
  go_wp2
  refine ⟨rfl, ?_, Below.refl _ _⟩
  rw [if_neg (by omega)]
end Go.Proofs.YtdlcldjlfhmlgaaGreatDoor
/- The document's own reader, on bytes alone: what its steps say of data in pieces. -/
namespace Go.Proofs.YtdlcldjlfhmlgaaGreatDoor
open Go.RowKit
def tkS (n : Nat) (s : ByteArray) : ByteArray := if n ≤ s.size then s.extract 0 n else ⟨#[]⟩
def tkR (n : Nat) (s : ByteArray) : ByteArray := if n ≤ s.size then s.extract n s.size else ⟨#[]⟩
theorem tkR_le (n : Nat) (s : ByteArray) : (tkR n s).size ≤ s.size := by
 unfold tkR
 split
 ·rw [ByteArray.size_extract]; omega
 ·exact Nat.zero_le _
theorem tkS_le (n : Nat) (s : ByteArray) : (tkS n s).size ≤ n ∧ (tkS n s).size ≤ s.size := by
 unfold tkS
 split
 ·rw [ByteArray.size_extract]; omega
 ·exact ⟨Nat.zero_le _, Nat.zero_le _⟩
structure Stp (p : PK) (r : ByteArray) (b : Bool) (s r' : ByteArray) (b' : Bool) : Prop where
 none : passK p r = none → b' = true
 keep : b = true → b' = true
 some : ∀ m, passK p r = some m → b = false → s = r.extract 0 m ∧ r' = r.extract m r.size ∧ b' = false
theorem Stp.or {p : PK} {r s r' : ByteArray} {b b' : Bool} (h : Stp p r b s r' b') (c : Bool) : Stp p r (b || c) s r' (b' || c) := by
 refine ⟨fun e => by rw [h.none e]; rfl, fun e => ?_, fun m e hb => ?_⟩
 ·cases c with
  | true => simp
  | false => rw [Bool.or_false] at e ⊢; exact h.keep e
 ·cases c with
  | true => simp at hb
  | false =>
   rw [Bool.or_false] at hb ⊢
   exact h.some m e hb
inductive Chn : List PK → ByteArray → Bool → List ByteArray → ByteArray → Bool → Prop
 | nil {r : ByteArray} {b : Bool} : Chn [] r b [] r b
 | cons {p : PK} {ps : List PK} {r s r1 r' : ByteArray} {b b1 b' : Bool} {ss : List ByteArray} : Stp p r b s r1 b1 → Chn ps r1 b1 ss r' b' → Chn (p :: ps) r b (s :: ss) r' b'
theorem Chn.keep {ps : List PK} {r r' : ByteArray} {b b' : Bool} {ss : List ByteArray} (h : Chn ps r b ss r' b') : b = true → b' = true := by
 induction h with
 | nil => exact id
 | cons h1 _ ih => exact fun e => ih (h1.keep e)
theorem Chn.cut {ps : List PK} {r r' : ByteArray} {b b' : Bool} {ss : List ByteArray} (h : Chn ps r b ss r' b') (hb : b = false) : (b' = false ∧ cutF ps r = Option.some (ss, r')) ∨ (b' = true ∧ cutF ps r = Option.none) := by
 induction h with
 | nil => exact .inl ⟨hb, rfl⟩
 | @cons p ps r s r1 r' b b1 b' ss h1 h2 ih =>
  cases hp : passK p r with
  | none =>
   right
   refine ⟨h2.keep (h1.none hp), ?_⟩
   rw [cutF, hp]
  | some m =>
   obtain ⟨e1, e2, e3⟩ := h1.some m hp hb
   rcases ih e3 with ⟨k1, k2⟩ | ⟨k1, k2⟩
   ·left
    refine ⟨k1, ?_⟩
    rw [cutF, hp]
    simp only
    rw [← e2, k2, ← e1]
    rfl
   ·right
    refine ⟨k1, ?_⟩
    rw [cutF, hp]
    simp only
    rw [← e2, k2]
    rfl
theorem Chn.split {k : Int} {d r' : ByteArray} {b' : Bool} {ss : List ByteArray} (hk : 0 ≤ k ∧ k ≤ 65535) (h : Chn (formOf k) d false ss r' b') :
  (b' = false ∧ r'.size = 0 ∧ d.size ≤ 2000 ∧ splitR k d = Option.some ss) ∨ ((b' = true ∨ 0 < r'.size ∨ 2000 < d.size) ∧ splitR k d = Option.none) := by
 by_cases hd : d.size ≤ 2000
 ·have e : splitR k d = fin (pfK (formOf k)) (formOf k).length d := if_pos ⟨hk, hd⟩
  rw [fin_eq] at e
  rcases h.cut rfl with ⟨h1, h2⟩ | ⟨h1, h2⟩
  ·rw [h2] at e
   simp only at e
   by_cases h0 : r'.size = 0
   ·left
    rw [if_pos h0] at e
    exact ⟨h1, h0, hd, e⟩
   ·right
    rw [if_neg h0] at e
    exact ⟨.inr (.inl (by omega)), e⟩
  ·right
   rw [h2] at e
   exact ⟨.inl h1, e⟩
 ·right
  exact ⟨.inr (.inr (by omega)), split_none k d (fun h => hd h.2)⟩
theorem stp_take (p : PK) (n : Nat) (hp : ∀ x, passK p x = takeK n x) (s : ByteArray) (b : Bool) : Stp p s b (tkS n s) (tkR n s) (b || decide (s.size < n)) := by
 refine ⟨fun e => ?_, fun e => by rw [e]; rfl, fun m e hb => ?_⟩
 ·rw [hp, takeK] at e
  split at e
  ·cases e
  ·rw [decide_eq_true (by omega)]; simp
 ·rw [hp, takeK] at e
  split at e
  ·rename_i h
   cases e
   refine ⟨by rw [tkS, if_pos h], by rw [tkR, if_pos h], ?_⟩
   rw [hb, decide_eq_false (by omega)]; rfl
  ·cases e
theorem stp_all (s : ByteArray) (b : Bool) : Stp .hex s b s ⟨#[]⟩ (b || decide (s.size < 1)) := by
 refine ⟨fun e => ?_, fun e => by rw [e]; rfl, fun m e hb => ?_⟩
 ·simp only [passK] at e
  split at e
  ·cases e
  ·rw [decide_eq_true (by omega)]; simp
 ·simp only [passK] at e
  split at e
  ·cases e
   refine ⟨by rw [cut_all], by rw [end_cut], ?_⟩
   rw [hb, decide_eq_false (by omega)]; rfl
  ·cases e
def OnWay (r : ByteArray) (n : Nat) : Prop := ∀ ls t, OkN ls → r = nm ls ++ t → ∃ p q, ls = p ++ q ∧ n = (flat p).length
theorem onWay_first (r : ByteArray) : OnWay r 0 := fun ls t _ _ => ⟨[], ls, rfl, rfl⟩
theorem at_way {p q : List (List UInt8)} {t : ByteArray} : (nm (p ++ q) ++ t).data.toList[(flat p).length]? = some (match q with | [] => 0 | l :: _ => UInt8.ofNat l.length) := by
 rw [app_list, nm_list, nmL, flat_append]
 cases q with
 | nil => simp [flat]
 | cons l q => simp [flat]
theorem onWay_at {r : ByteArray} {n : Nat} (h : OnWay r n) {ls : List (List UInt8)} {t : ByteArray} (ho : OkN ls) (e : r = nm ls ++ t) : ∃ hn : n < r.size, (r[n].toNat ≤ 63 ∧ (r[n].toNat = 0 → n = (flat ls).length)) := by
 obtain ⟨p, q, rfl, rfl⟩ := h ls t ho e
 have ha := at_way (p := p) (q := q) (t := t)
 rw [← e] at ha
 obtain ⟨hl, hx⟩ := List.getElem?_eq_some_iff.1 ha
 have hl' : (flat p).length < r.size := by rw [← size_list]; exact hl
 refine ⟨hl', ?_⟩
 rw [getElem_list _ _ hl'] at hx
 rw [hx]
 cases q with
 | nil => exact ⟨by simp, fun _ => by rw [List.append_nil]⟩
 | cons l q =>
  have hm := ho.lab l (by simp)
  have hu : (UInt8.ofNat l.length).toNat = l.length := by rw [UInt8.toNat_ofNat']; omega
  simp only
  rw [hu]
  exact ⟨hm.2, fun h0 => by omega⟩
theorem onWay_next {r : ByteArray} {n : Nat} (h : OnWay r n) (hn : n < r.size) (h0 : r[n].toNat ≠ 0) : OnWay r (n + 1 + r[n].toNat) := by
 intro ls t ho e
 obtain ⟨p, q, rfl, rfl⟩ := h ls t ho e
 have ha := at_way (p := p) (q := q) (t := t)
 rw [← e] at ha
 obtain ⟨hl, hx⟩ := List.getElem?_eq_some_iff.1 ha
 rw [getElem_list _ _ hn] at hx
 cases q with
 | nil => rw [hx] at h0; exact absurd rfl h0
 | cons l q =>
  have hm := ho.lab l (by simp)
  have hu : (UInt8.ofNat l.length).toNat = l.length := by rw [UInt8.toNat_ofNat']; omega
  refine ⟨p ++ [l], q, by simp, ?_⟩
  rw [hx]
  simp only
  rw [hu, flat_append]
  simp [flat]; omega
theorem stp_name {r : ByteArray} {n : Nat} (h : OnWay r n) (hend : ∀ hn : n < r.size, r[n].toNat = 0 ∨ 63 < r[n].toNat) (b c : Bool) (hc : c = true ↔ IsName (tkS (n + 1) r)) :
  Stp .name r b (tkS (n + 1) r) (tkR (n + 1) r) ((b || decide (r.size < n + 1)) || !c) := by
 have key : ∀ m, nameK r = Option.some m → m = n + 1 ∧ n + 1 ≤ r.size ∧ c = true := by
  intro m hm
  obtain ⟨h1, ls, ho, e⟩ := nameK_ok hm
  have hr := split_at r m h1
  rw [e] at hr
  obtain ⟨hn, h2, h3⟩ := onWay_at h ho hr
  have hn0 := hend hn
  have hfl := h3 (by omega)
  have hsz : m = (nm ls).size := by
   rw [← e, ByteArray.size_extract]; omega
  rw [nm_size, ← hfl] at hsz
  subst hsz
  refine ⟨rfl, h1, hc.2 ?_⟩
  rw [tkS, if_pos h1, e]
  exact ⟨ls, ho, rfl⟩
 refine ⟨fun e => ?_, fun e => by rw [e]; rfl, fun m e hb => ?_⟩
 ·cases c with
  | false => simp
  | true =>
   have hn := hc.1 rfl
   by_cases hs : n + 1 ≤ r.size
   ·exfalso
    rw [tkS, if_pos hs] at hn
    have := name_app hn (r.extract (n + 1) r.size)
    rw [← split_at r (n + 1) hs] at this
    have e' : nameK r = Option.none := e
    rw [e'] at this
    cases this
   ·rw [decide_eq_true (by omega)]; simp
 ·obtain ⟨rfl, h2, h3⟩ := key m e
  refine ⟨by rw [tkS, if_pos h2], by rw [tkR, if_pos h2], ?_⟩
  rw [hb, h3, decide_eq_false (by omega)]; rfl
theorem stp_salt (r : ByteArray) (b : Bool) : Stp .salt r b (⟨(UInt8.ofNat (numB (tkS 1 r).data.toList) :: (tkS (numB (tkS 1 r).data.toList) (tkR 1 r)).data.toList).toArray⟩) (tkR (numB (tkS 1 r).data.toList) (tkR 1 r)) ((b || decide (r.size < 1)) || decide ((tkR 1 r).size < numB (tkS 1 r).data.toList)) := by
 refine ⟨fun e => ?_, fun e => by rw [e]; rfl, fun m e hb => ?_⟩
 ·have e' : cntK r = Option.none := e
  rcases list_cases r with rfl | ⟨x, l, rfl⟩
  ·simp [ba_size]
  ·rw [cnt_cons] at e'
   split at e'
   ·cases e'
   ·rename_i hx
    have h1 : (tkS 1 ⟨(x :: l).toArray⟩).data.toList = [x] := by
     rw [tkS, if_pos (by rw [ba_size]; simp), Lib.extract_data]; simp
    have h2 : (tkR 1 ⟨(x :: l).toArray⟩).size = l.length := by
     rw [tkR, if_pos (by rw [ba_size]; simp), ByteArray.size_extract, ba_size]; simp
    rw [h1, h2, show numB [x] = x.toNat by simp [numB], decide_eq_true (show l.length < x.toNat by omega)]
    simp
 ·have e' : cntK r = Option.some m := e
  obtain ⟨x, l, rfl, hx, rfl⟩ := cnt_pos e'
  have hsz : (⟨(x :: l).toArray⟩ : ByteArray).size = l.length + 1 := by rw [ba_size]; simp
  have h1 : (tkS 1 ⟨(x :: l).toArray⟩).data.toList = [x] := by
   rw [tkS, if_pos (by omega), Lib.extract_data]; simp
  have h2 : tkR 1 ⟨(x :: l).toArray⟩ = ⟨l.toArray⟩ := by
   rw [tkR, if_pos (by omega)]
   apply ba_ext
   rw [Lib.extract_data, hsz]; simp
  have h3 : numB [x] = x.toNat := by simp [numB]
  have h4 : (⟨l.toArray⟩ : ByteArray).size = l.length := ba_size l
  rw [h1, h2, h3, tkS, tkR, if_pos (by omega), if_pos (by omega), hb, decide_eq_false (by omega), decide_eq_false (by omega)]
  refine ⟨?_, ?_, rfl⟩
  ·apply ba_ext
   rw [Lib.extract_data, Lib.extract_data, UInt8.ofNat_toNat, show 1 + x.toNat - 0 = x.toNat + 1 by omega]
   simp
  ·apply ba_ext
   rw [Lib.extract_data, Lib.extract_data, hsz, h4, Nat.add_comm 1]
   simp
theorem cnt_num {r : ByteArray} {m : Nat} (h : cntK r = Option.some m) : m = 1 + numB (tkS 1 r).data.toList := by
 obtain ⟨x, l, rfl, hx, rfl⟩ := cnt_pos h
 have h1 : (tkS 1 ⟨(x :: l).toArray⟩).data.toList = [x] := by
  rw [tkS, if_pos (by rw [ba_size]; simp), Lib.extract_data]; simp
 rw [h1]
 simp [numB]
theorem stp_hash {r s r' : ByteArray} {b b' : Bool} (H : Stp .salt r b s r' b') : Stp .hash r b s r' (b' || decide (numB (tkS 1 r).data.toList = 0)) := by
 refine ⟨fun e => ?_, fun e => by rw [H.keep e]; rfl, fun m e hb => ?_⟩
 ·have e' : hashK r = Option.none := e
  unfold hashK at e'
  cases hc : cntK r with
  | none => rw [H.none hc]; rfl
  | some m =>
   rw [hc] at e'
   simp only at e'
   split at e'
   ·cases e'
   ·have := cnt_num hc
    rw [decide_eq_true (by omega), Bool.or_true]
 ·have e' : hashK r = Option.some m := e
  unfold hashK at e'
  cases hc : cntK r with
  | none => rw [hc] at e'; cases e'
  | some j =>
   rw [hc] at e'
   simp only at e'
   split at e'
   ·cases e'
    have := cnt_num hc
    obtain ⟨k1, k2, k3⟩ := H.some m hc hb
    exact ⟨k1, k2, by rw [k3, decide_eq_false (by omega)]; rfl⟩
   ·cases e'
end Go.Proofs.YtdlcldjlfhmlgaaGreatDoor
