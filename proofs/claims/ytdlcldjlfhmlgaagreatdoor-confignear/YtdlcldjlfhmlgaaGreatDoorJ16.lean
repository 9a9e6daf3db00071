/- Texts of this proof, joined: So7, So8, So9, LdB, LdC. -/
import Derived.Test.YtdlcldjlfhmlgaaGreatDoorJ15
import Derived.Test.YtdlcldjlfhmlgaaGreatDoorJ13
set_option linter.unusedVariables false
set_option linter.unusedSimpArgs false
/- slices.symMergeCmpFunc at sets: it does not. -/
namespace Go.Proofs.YtdlcldjlfhmlgaaGreatDoor.So
open Go.RowKit
attribute [local go_sem ↓] loadAt_st storeAt_st
set_option maxRecDepth 100000 in
set_option maxHeartbeats 4000000 in
theorem symC2 (W : World) (g cap : Nat) (A U V B : List El) (h : SRow W g (A ++ U ++ V ++ B)) (ho : ∀ e ∈ A ++ U ++ V ++ B, e.ok) (hU : Ris lt U) (hV : Ris lt V) (n a m b : Nat) (HR : Sym g cap n (b - a)) (hn : (A ++ U ++ V ++ B).length = n) (ha : A.length = a) (hm : a + U.length = m) (hb : m + V.length = b) (hl : n ≤ 1000) (hu : 2 ≤ U.length) (hv : 2 ≤ V.length) (mid : Nat) (hmid : (a + b) / 2 = mid) (hw : m ≤ mid) :
  Calls Tryz.prog 121 #[rowV g n cap, .int .i64 (a : Int), .int .i64 (m : Int), .int .i64 (b : Int), cmpV] W fun e w' => e = .returned (.tuple #[]) ∧ Did g W (A ++ mrg lt U V ++ B) w' := by
 have hbn : b ≤ n := by rw [← hn]; simp only [List.length_append]; omega
 obtain ⟨nn, hnn⟩ : ∃ nn, mid + m = nn := ⟨_, rfl⟩
 obtain ⟨p, hp⟩ : ∃ p, p + 1 = nn := ⟨nn - 1, by omega⟩
 obtain ⟨lo, hlo⟩ : ∃ lo, lo = a := ⟨_, rfl⟩
 obtain ⟨hi, hhi⟩ : ∃ hi, hi = m := ⟨_, rfl⟩
 have f1 : lo ≤ hi ∧ a ≤ lo ∧ hi ≤ m ∧ hi ≤ mid ∧ nn ≤ lo + b ∧ (lo = a ∨ lo + b = nn) ∧ (hi = m ∨ hi = mid) ∧ a < mid ∧ mid < b := by omega
 obtain ⟨l, hle⟩ : ∃ l, A ++ U ++ V ++ B = l := ⟨_, rfl⟩
 have hlu : ∀ i, i < U.length → l[a + i]? = U[i]? := by
  subst hle; intro i hi
  rw [List.getElem?_append_left (by simp; omega), List.getElem?_append_left (by simp; omega), List.getElem?_append_right (by omega)]
  congr 1; omega
 have hlv : ∀ i, i < V.length → l[m + i]? = V[i]? := by
  subst hle; intro i hi
  rw [List.getElem?_append_left (by simp; omega), List.getElem?_append_right (by simp; omega)]
  congr 1
  simp; omega
 obtain ⟨T, hT⟩ : ∃ T, A ++ mrg lt U V ++ B = T := ⟨_, rfl⟩
 have FIN : Hid (∀ s, lo ≤ s → s ≤ hi → (s = lo ∨ (lo < s ∧ ∃ x y, U[s - 1 - a]? = some x ∧ V[p - (s - 1) - m]? = some y ∧ lt y x = false)) → (s = hi ∨ ∃ x y, U[s - a]? = some x ∧ V[p - s - m]? = some y ∧ lt y x = true) → ∀ e, s + e = nn → (m ≤ e ∧ e ≤ b ∧ (m < e ↔ s < mid) ∧ (mid < e ↔ s < m)) ∧ ∃ l2 l3 : List El, Hid (s < m ∧ m < e → ∀ w, Did g W l w → Calls Tryz.prog 148 #[rowV g n cap, .int .i64 (s : Int), .int .i64 (m : Int), .int .i64 (e : Int), cmpV] w fun r w' => r = .returned (.tuple #[]) ∧ Did g W l2 w') ∧ Hid (¬ (s < m ∧ m < e) → l = l2) ∧
   Hid (a < s ∧ s < mid → ∀ w, Did g W l2 w → Calls Tryz.prog 121 #[rowV g n cap, .int .i64 (a : Int), .int .i64 (s : Int), .int .i64 (mid : Int), cmpV] w fun r w' => r = .returned (.tuple #[]) ∧ Did g W l3 w') ∧ Hid (¬ (a < s ∧ s < mid) → l2 = l3) ∧
   Hid (mid < e ∧ e < b → ∀ w, Did g W l3 w → Calls Tryz.prog 121 #[rowV g n cap, .int .i64 (mid : Int), .int .i64 (e : Int), .int .i64 (b : Int), cmpV] w fun r w' => r = .returned (.tuple #[]) ∧ Did g W T w') ∧ Hid (¬ (mid < e ∧ e < b) → l3 = T)) := by
  intro s s1 s2 s3 s4 e he
  have C := cut_of (A := A) (B := B) hU hV ha hm hb hnn hp he s1 s2 (by omega) (by omega) (by omega) (by omega) (by omega) (by omega) s3 s4
  have := steps_of (W := W) C HR hl ho hU hV hn ha hm hb hu hv (by omega) (by omega) (by omega) (by omega) (by omega) (by omega)
  rw [hle, hT] at this
  exact ⟨⟨by omega, by omega, by omega, by omega⟩, this⟩
 rw [hT]
 rw [hle] at h ho hn
 have H0 := Hid.mk (Did.refl h)
 have HL : Hid ((∀ e ∈ l, e.ok) ∧ l.length = n ∧ A.length = a ∧ a + U.length = m ∧ m + V.length = b ∧ (∀ i, i < U.length → l[a + i]? = U[i]?) ∧ (∀ i, i < V.length → l[m + i]? = V[i]?) ∧ mid + m = nn ∧ p + 1 = nn) := ⟨ho, hn, ha, hm, hb, hlu, hlv, hnn, hp⟩
 have hma2 : IntKind.i64.wrap ((m : Int) - (a : Int)) = ((m - a : Nat) : Int) := by rw [IntKind.wrap_i64]; omega
 have hma3 : (((m - a : Nat) : Int) == 1) = false := by simp; omega
 have hbm2 : IntKind.i64.wrap ((b : Int) - (m : Int)) = ((b - m : Nat) : Int) := by rw [IntKind.wrap_i64]; omega
 have hbm3 : (((b - m : Nat) : Int) == 1) = false := by simp; omega
 generalize m - a = ma at hma2 hma3
 generalize b - m = bm at hbm2 hbm3
 obtain ⟨ab, hab⟩ : ∃ ab, a + b = ab := ⟨_, rfl⟩
 have hq := halves a b mid hmid (by omega)
 rw [hab] at hq
 obtain ⟨q1, q2, q3, q4, q5⟩ := hq
 have wnn : IntKind.i64.wrap ((mid : Int) + (m : Int)) = (nn : Int) := by rw [IntKind.wrap_i64]; omega
 have wp : IntKind.i64.wrap ((nn : Int) - 1) = (p : Int) := by rw [IntKind.wrap_i64]; omega
 have wlo : IntKind.i64.wrap ((nn : Int) - (b : Int)) = ((nn - b : Nat) : Int) ∨ nn < b := by by_cases c : nn < b; exact .inr c; left; rw [IntKind.wrap_i64]; omega
 have hwz : ¬ (mid : Int) < (m : Int) := by omega
 have HHI : Hid (lo = a ∧ hi = m) := ⟨hlo, hhi⟩
 have HW := Hid.mk hw
 clear hlo hhi
 have HF1 := Hid.mk f1
 have ham0 : a < m := by omega
 have hnl : nn ≤ 3000 := by omega
 clear h ho hn ha hm hb hlu hlv hle hU hV hT hu hv HR hnn hp hab hmid hw wlo f1
 go_enter Tryz.func121, Tryz.ntmps121
 go_wp2
 go_loopw [20, 21] (fun sv rv wr => ∃ s r : Nat, sv = .int .i64 (s : Int) ∧ rv = .int .i64 (r : Int) ∧ lo ≤ s ∧ s ≤ r ∧ r ≤ hi ∧ Hid ((s = lo ∨ (lo < s ∧ ∃ x y, U[s - 1 - a]? = some x ∧ V[p - (s - 1) - m]? = some y ∧ lt y x = false)) ∧ (r = hi ∨ ∃ x y, U[r - a]? = some x ∧ V[p - r - m]? = some y ∧ lt y x = true) ∧ Did g W l wr)) (fun sv rv _ => (intOf rv).toNat - (intOf sv).toNat)
 case atStart => exact ⟨lo, hi, by rw [HHI.out.1], by rw [HHI.out.2], Nat.le_refl _, HF1.out.1, Nat.le_refl _, .inl rfl, .inl rfl, H0.out⟩
 case round =>
  obtain ⟨s, r, rfl, rfl, hls, hsr, hrh, HD⟩ := hrel
  by_cases hlt : s < r
  ·have hlz : (s : Int) < (r : Int) := by omega
   obtain ⟨hd1, hd2, hd⟩ := HD.out
   obtain ⟨ho, hn, ha, hm, hb, hlu, hlv, hnn, hp⟩ := HL.out
   have f1 := HF1.out
   obtain ⟨cc, hcc⟩ : ∃ cc, (s + r) / 2 = cc := ⟨_, rfl⟩
   obtain ⟨sr, hsre⟩ : ∃ sr, s + r = sr := ⟨_, rfl⟩
   have hv := halves s r cc hcc (by omega)
   rw [hsre] at hv
   obtain ⟨v1, v2, v3, v4, v5⟩ := hv
   have hcb : s ≤ cc ∧ cc < r := by omega
   obtain ⟨pc, hpc⟩ : ∃ pc, p - cc = pc := ⟨_, rfl⟩
   have wpc : IntKind.i64.wrap ((p : Int) - (cc : Int)) = (pc : Int) := by rw [IntKind.wrap_i64]; omega
   obtain ⟨K, cx, cp, KD, KI, kd, kb, HS2, HC⟩ := two_held (g := g) (W := W) (l := l) (p := pc) (q := cc) (by omega) (by omega) ho
   have eu : U[cc - a]? = some (l[cc]'(by omega)) := by
    rw [← hlu (cc - a) (by omega), show a + (cc - a) = cc by omega]; exact List.getElem?_eq_getElem _
   have ev : V[p - cc - m]? = some (l[pc]'(by omega)) := by
    rw [← hlv (p - cc - m) (by omega), show m + (p - cc - m) = pc by omega]; exact List.getElem?_eq_getElem _
   obtain ⟨x, hx⟩ : ∃ x, l[cc]'(by omega) = x := ⟨_, rfl⟩
   obtain ⟨y, hy⟩ : ∃ y, l[pc]'(by omega) = y := ⟨_, rfl⟩
   rw [hx] at HC eu
   rw [hy] at HC ev
   obtain ⟨c, hc⟩ : ∃ c, cmpN y.ls x.ls = c := ⟨_, rfl⟩
   rw [hc] at HC
   have HF : Hid (cmpN y.ls x.ls = c ∧ U[cc - a]? = some x ∧ V[p - cc - m]? = some y ∧ (s = lo ∨ (lo < s ∧ ∃ x y, U[s - 1 - a]? = some x ∧ V[p - (s - 1) - m]? = some y ∧ lt y x = false)) ∧ (r = hi ∨ ∃ x y, U[r - a]? = some x ∧ V[p - r - m]? = some y ∧ lt y x = true)) := ⟨hc, eu, ev, hd1, hd2⟩
   have cz : (cc : Int) < (n : Int) := by omega
   have pz : (pc : Int) < (n : Int) := by omega
   have hK := KI.out _ hd
   have hS0 := HS2.out _ hK
   have hcn : cc < 1000 := by omega
   clear hx hy hc hd1 hd2 hd HD ho hn ha hm hb hlu hlv eu ev hcc hsre hnn hp f1 hpc
   by_cases hcz : c < 0
   ·have hcd : decide (c < 0) = true := decide_eq_true hcz
    go_wp2_with fail
    go_region_held3 (fun w => K w ∧ (stLoad (.pointer (some ⟨g, pc * 6, none⟩))).run Tryz.prog w = .ok (.agg cx) w ∧ (stLoad (.pointer (some ⟨g, cc * 6, none⟩))).run Tryz.prog w = .ok (.agg cp) w)
     (first | assumption | (apply HS2.out; repeat (first | assumption | apply kd.out)))
     ((go_at_call 56; refine (HC.out _).mono ?_; rintro e w2 ⟨rfl, hb2⟩; have K2 := kb.out _ _ (by repeat (first | assumption | apply kd.out)) hb2; have hs2 := HS2.out _ K2))
    have HG : Hid ((s = lo ∨ (lo < s ∧ ∃ x y, U[s - 1 - a]? = some x ∧ V[p - (s - 1) - m]? = some y ∧ lt y x = false)) ∧ (cc = hi ∨ ∃ x y, U[cc - a]? = some x ∧ V[p - cc - m]? = some y ∧ lt y x = true) ∧ Did g W l w2) := by
     obtain ⟨g1, g2, g3, g4, g5⟩ := HF.out
     exact ⟨g4, .inr ⟨x, y, g2, g3, lt_true.2 (by rw [g1]; exact hcz)⟩, KD.out _ K2⟩
    clear hs2 hS0
    go_wp2
    go_roundw
    case rel => exact ⟨s, cc, rfl, rfl, by omega, by omega, by omega, HG⟩
    case measure => simp [intOf]; omega
   ·have hcd : decide (c < 0) = false := decide_eq_false hcz
    go_wp2_with fail
    go_region_held3 (fun w => K w ∧ (stLoad (.pointer (some ⟨g, pc * 6, none⟩))).run Tryz.prog w = .ok (.agg cx) w ∧ (stLoad (.pointer (some ⟨g, cc * 6, none⟩))).run Tryz.prog w = .ok (.agg cp) w)
     (first | assumption | (apply HS2.out; repeat (first | assumption | apply kd.out)))
     ((go_at_call 56; refine (HC.out _).mono ?_; rintro e w2 ⟨rfl, hb2⟩; have K2 := kb.out _ _ (by repeat (first | assumption | apply kd.out)) hb2; have hs2 := HS2.out _ K2))
    have HG : Hid ((cc + 1 = lo ∨ (lo < cc + 1 ∧ ∃ x y, U[cc + 1 - 1 - a]? = some x ∧ V[p - (cc + 1 - 1) - m]? = some y ∧ lt y x = false)) ∧ (r = hi ∨ ∃ x y, U[r - a]? = some x ∧ V[p - r - m]? = some y ∧ lt y x = true) ∧ Did g W l w2) := by
     obtain ⟨g1, g2, g3, g4, g5⟩ := HF.out
     exact ⟨.inr ⟨by omega, x, y, by rw [Nat.add_sub_cancel]; exact g2, by rw [Nat.add_sub_cancel]; exact g3, lt_false.2 (by have := cmpN_nt y.ls x.ls; omega)⟩, g5, KD.out _ K2⟩
    have wh : IntKind.i64.wrap ((cc : Int) + 1) = ((cc + 1 : Nat) : Int) := by rw [IntKind.wrap_i64]; omega
    clear hs2 hS0
    go_wp2
    go_roundw
    case rel => exact ⟨cc + 1, r, by first | rfl | go_num, rfl, by omega, by omega, by omega, HG⟩
    case measure => simp [intOf]; omega
  ·obtain rfl : s = r := by omega
   obtain ⟨e, he⟩ : ∃ e, s + e = nn := ⟨nn - s, by have := HF1.out; have := HL.out; omega⟩
   obtain ⟨⟨k1, k2, k3, k4⟩, l2, l3, R1, R2, S1, S2, S3, S4⟩ := FIN.out s hls hrh HD.out.1 HD.out.2.1 e he
   have HDD := Hid.mk HD.out.2.2
   have we : IntKind.i64.wrap ((nn : Int) - (s : Int)) = (e : Int) := by rw [IntKind.wrap_i64]; omega
   have hsm : s ≤ m := by have := HF1.out; omega
   have hsi : s ≤ mid := by have := HF1.out; omega
   have has : a ≤ s := by have := HF1.out; omega
   have hwm : m ≤ mid := HW.out
   clear FIN H0 HL HF1 HD he
   by_cases c0 : s < m
   ·by_cases c1 : m < e
    ·by_cases c2 : a < s
     ·by_cases c3 : e < b
      ·have zsm : (s : Int) < (m : Int) := by omega
       have zme : (m : Int) < (e : Int) := by omega
       have zas : (a : Int) < (s : Int) := by omega
       have zsmid : (s : Int) < (mid : Int) := by omega
       have zmide : (mid : Int) < (e : Int) := by omega
       have zeb : (e : Int) < (b : Int) := by omega
       clear k3 k4
       have C1 := Hid.mk (R1.out ⟨by omega, by omega⟩ _ HDD.out)
       clear R2
       go_wp2_with fail
       refine C1.out.mono ?_
       rintro _ w1 ⟨rfl, hw1⟩
       have hd1 := Hid.mk hw1
       clear hw1 C1
       have C2 := Hid.mk (S1.out ⟨by omega, by omega⟩ _ hd1.out)
       go_wp2_with fail
       refine C2.out.mono ?_
       rintro _ w2 ⟨rfl, hw2⟩
       have hd2 := Hid.mk hw2
       clear hw2 C2
       have C3 := Hid.mk (S3.out ⟨by omega, by omega⟩ _ hd2.out)
       go_wp2_with fail
       refine C3.out.mono ?_
       rintro _ w3 ⟨rfl, hw3⟩
       have hd3 := Hid.mk hw3
       clear hw3 C3
       go_wp2
       exact bodyPost_end (results_none rfl _ _ _) rfl ⟨rfl, hd3.out⟩
      ·have zsm : (s : Int) < (m : Int) := by omega
       have zme : (m : Int) < (e : Int) := by omega
       have zas : (a : Int) < (s : Int) := by omega
       have zsmid : (s : Int) < (mid : Int) := by omega
       have zmide : (mid : Int) < (e : Int) := by omega
       have zeb : ¬ (e : Int) < (b : Int) := by omega
       clear k3 k4
       have C1 := Hid.mk (R1.out ⟨by omega, by omega⟩ _ HDD.out)
       clear R2
       go_wp2_with fail
       refine C1.out.mono ?_
       rintro _ w1 ⟨rfl, hw1⟩
       have hd1 := Hid.mk hw1
       clear hw1 C1
       have C2 := Hid.mk (S1.out ⟨by omega, by omega⟩ _ hd1.out)
       go_wp2_with fail
       refine C2.out.mono ?_
       rintro _ w2 ⟨rfl, hw2⟩
       have hd2 := Hid.mk hw2
       clear hw2 C2
       have hd3 := Hid.mk (S4.out (by omega) ▸ hd2.out)
       go_wp2
       exact bodyPost_end (results_none rfl _ _ _) rfl ⟨rfl, hd3.out⟩
     ·by_cases c3 : e < b
      ·have zsm : (s : Int) < (m : Int) := by omega
       have zme : (m : Int) < (e : Int) := by omega
       have zas : ¬ (a : Int) < (s : Int) := by omega
       have zsmid : (s : Int) < (mid : Int) := by omega
       have zmide : (mid : Int) < (e : Int) := by omega
       have zeb : (e : Int) < (b : Int) := by omega
       clear k3 k4
       have C1 := Hid.mk (R1.out ⟨by omega, by omega⟩ _ HDD.out)
       clear R2
       go_wp2_with fail
       refine C1.out.mono ?_
       rintro _ w1 ⟨rfl, hw1⟩
       have hd1 := Hid.mk hw1
       clear hw1 C1
       have hd2 := Hid.mk (S2.out (by omega) ▸ hd1.out)
       have C3 := Hid.mk (S3.out ⟨by omega, by omega⟩ _ hd2.out)
       go_wp2_with fail
       refine C3.out.mono ?_
       rintro _ w3 ⟨rfl, hw3⟩
       have hd3 := Hid.mk hw3
       clear hw3 C3
       go_wp2
       exact bodyPost_end (results_none rfl _ _ _) rfl ⟨rfl, hd3.out⟩
      ·have zsm : (s : Int) < (m : Int) := by omega
       have zme : (m : Int) < (e : Int) := by omega
       have zas : ¬ (a : Int) < (s : Int) := by omega
       have zsmid : (s : Int) < (mid : Int) := by omega
       have zmide : (mid : Int) < (e : Int) := by omega
       have zeb : ¬ (e : Int) < (b : Int) := by omega
       clear k3 k4
       have C1 := Hid.mk (R1.out ⟨by omega, by omega⟩ _ HDD.out)
       clear R2
       go_wp2_with fail
       refine C1.out.mono ?_
       rintro _ w1 ⟨rfl, hw1⟩
       have hd1 := Hid.mk hw1
       clear hw1 C1
       have hd2 := Hid.mk (S2.out (by omega) ▸ hd1.out)
       have hd3 := Hid.mk (S4.out (by omega) ▸ hd2.out)
       go_wp2
       exact bodyPost_end (results_none rfl _ _ _) rfl ⟨rfl, hd3.out⟩
    ·exfalso; omega
   ·by_cases c1 : m < e
    ·by_cases c2 : a < s
     ·by_cases c3 : e < b
      ·have zsm : ¬ (s : Int) < (m : Int) := by omega
       have zme : (m : Int) < (e : Int) := by omega
       have zas : (a : Int) < (s : Int) := by omega
       have zsmid : (s : Int) < (mid : Int) := by omega
       have zmide : ¬ (mid : Int) < (e : Int) := by omega
       have zeb : (e : Int) < (b : Int) := by omega
       clear k3 k4
       have hd1 := Hid.mk (R2.out (by omega) ▸ HDD.out)
       clear R2
       have C2 := Hid.mk (S1.out ⟨by omega, by omega⟩ _ hd1.out)
       go_wp2_with fail
       refine C2.out.mono ?_
       rintro _ w2 ⟨rfl, hw2⟩
       have hd2 := Hid.mk hw2
       clear hw2 C2
       have hd3 := Hid.mk (S4.out (by omega) ▸ hd2.out)
       go_wp2
       exact bodyPost_end (results_none rfl _ _ _) rfl ⟨rfl, hd3.out⟩
      ·have zsm : ¬ (s : Int) < (m : Int) := by omega
       have zme : (m : Int) < (e : Int) := by omega
       have zas : (a : Int) < (s : Int) := by omega
       have zsmid : (s : Int) < (mid : Int) := by omega
       have zmide : ¬ (mid : Int) < (e : Int) := by omega
       have zeb : ¬ (e : Int) < (b : Int) := by omega
       clear k3 k4
       have hd1 := Hid.mk (R2.out (by omega) ▸ HDD.out)
       clear R2
       have C2 := Hid.mk (S1.out ⟨by omega, by omega⟩ _ hd1.out)
       go_wp2_with fail
       refine C2.out.mono ?_
       rintro _ w2 ⟨rfl, hw2⟩
       have hd2 := Hid.mk hw2
       clear hw2 C2
       have hd3 := Hid.mk (S4.out (by omega) ▸ hd2.out)
       go_wp2
       exact bodyPost_end (results_none rfl _ _ _) rfl ⟨rfl, hd3.out⟩
     ·exfalso; omega
    ·by_cases c2 : a < s
     ·by_cases c3 : e < b
      ·have zsm : ¬ (s : Int) < (m : Int) := by omega
       have zme : ¬ (m : Int) < (e : Int) := by omega
       have zas : (a : Int) < (s : Int) := by omega
       have zsmid : ¬ (s : Int) < (mid : Int) := by omega
       have zmide : ¬ (mid : Int) < (e : Int) := by omega
       have zeb : (e : Int) < (b : Int) := by omega
       clear k3 k4
       have hd1 := Hid.mk (R2.out (by omega) ▸ HDD.out)
       clear R2
       have hd2 := Hid.mk (S2.out (by omega) ▸ hd1.out)
       have hd3 := Hid.mk (S4.out (by omega) ▸ hd2.out)
       go_wp2
       exact bodyPost_end (results_none rfl _ _ _) rfl ⟨rfl, hd3.out⟩
      ·have zsm : ¬ (s : Int) < (m : Int) := by omega
       have zme : ¬ (m : Int) < (e : Int) := by omega
       have zas : (a : Int) < (s : Int) := by omega
       have zsmid : ¬ (s : Int) < (mid : Int) := by omega
       have zmide : ¬ (mid : Int) < (e : Int) := by omega
       have zeb : ¬ (e : Int) < (b : Int) := by omega
       clear k3 k4
       have hd1 := Hid.mk (R2.out (by omega) ▸ HDD.out)
       clear R2
       have hd2 := Hid.mk (S2.out (by omega) ▸ hd1.out)
       have hd3 := Hid.mk (S4.out (by omega) ▸ hd2.out)
       go_wp2
       exact bodyPost_end (results_none rfl _ _ _) rfl ⟨rfl, hd3.out⟩
     ·exfalso; omega
end Go.Proofs.YtdlcldjlfhmlgaaGreatDoor.So
/- slices.symMergeCmpFunc at sets, whole. -/
namespace Go.Proofs.YtdlcldjlfhmlgaaGreatDoor.So
open Go.RowKit
theorem sym_in (g cap n : Nat) (hl : n ≤ 1000) : ∀ N, Sym g cap n N := by
 intro N
 induction N with
 | zero => intro W A U V B h ho hU hV a m b hn ha hm hb hu hv hN; omega
 | succ N ih =>
  intro W A U V B h ho hU hV a m b hn ha hm hb hu hv hN
  by_cases h1 : U.length = 1
  ·obtain ⟨x, rfl⟩ := List.length_eq_one_iff.1 h1
   exact symA W g cap A V B x h ho hV n a m b hn ha (by simpa using hm) hb hl
  ·by_cases h2 : V.length = 1
   ·obtain ⟨x, rfl⟩ := List.length_eq_one_iff.1 h2
    exact symB W g cap A U B x h ho hU n a m b hn ha hm (by simpa using hb) hl (by omega)
   ·have HR : Sym g cap n (b - a) := fun W A U V B h ho hU hV a' m' b' hn ha hm hb hu hv hN' => ih W A U V B h ho hU hV a' m' b' hn ha hm hb hu hv (by omega)
    by_cases hw : (a + b) / 2 < m
    ·exact symC1 W g cap A U V B h ho hU hV n a m b HR hn ha hm hb hl (by omega) (by omega) _ rfl hw
    ·exact symC2 W g cap A U V B h ho hU hV n a m b HR hn ha hm hb hl (by omega) (by omega) _ rfl (by omega)
end Go.Proofs.YtdlcldjlfhmlgaaGreatDoor.So
/- slices.stableCmpFunc, slices.SortStableFunc at sets. -/
namespace Go.Proofs.YtdlcldjlfhmlgaaGreatDoor.So
open Go.RowKit
theorem chk_ok {l : List El} (h : ∀ e ∈ l, e.ok) (s : Nat) : ∀ e ∈ chk lt s l, e.ok := by
 generalize hn : l.length = n
 induction n using Nat.strongRecOn generalizing l with
 | _ n ih =>
  by_cases hc : l.length ≤ s ∨ s = 0
  ·rw [chk, dif_pos hc]
   intro e he
   exact h e ((isort_perm l).mem_iff.1 he)
  ·rw [chk, dif_neg hc]
   intro e he
   rcases List.mem_append.1 he with he | he
   ·exact h e (List.mem_of_mem_take ((isort_perm _).mem_iff.1 he))
   ·exact ih (l.drop s).length (by simp; omega) (fun e he => h e (List.mem_of_mem_drop he)) rfl e he
theorem isort_ok {l : List El} (h : ∀ e ∈ l, e.ok) : ∀ e ∈ isort lt l, e.ok := fun e he => h e ((isort_perm l).mem_iff.1 he)
set_option maxRecDepth 100000 in
set_option maxHeartbeats 2000000 in
theorem stable_in (W : World) (g cap : Nat) (l : List El) (h : SRow W g l) (ho : ∀ e ∈ l, e.ok) (n : Nat) (hn : l.length = n) (hl : n ≤ 1000) :
  Calls Tryz.prog 90 #[rowV g n cap, .int .i64 (n : Int), cmpV] W fun e w' => e = .returned (.tuple #[]) ∧ Did g W (isort lt l) w' := by
 have H0 : Hid (∃ k, k * 20 = 0 ∧ Did g W (chk lt 20 (l.take 0) ++ l.drop 0) W) := ⟨0, rfl, by rw [List.take_zero, chk_nil, List.drop_zero, List.nil_append]; exact Did.refl h⟩
 have HI : Hid (∀ (w : World) (a b k : Nat), k * 20 = a → a ≤ b → b ≤ n → (b = a + 20 ∨ (b = n ∧ n ≤ a + 20)) → Did g W (chk lt 20 (l.take a) ++ l.drop a) w → Calls Tryz.prog 120 #[rowV g n cap, .int .i64 (a : Int), .int .i64 (b : Int), cmpV] w fun e w' => e = .returned (.tuple #[]) ∧ Did g W (chk lt 20 (l.take b) ++ l.drop b) w') := by
  intro w a b k hk hab hbn hc hd
  have e0 : chk lt 20 (l.take a) ++ l.drop a = chk lt 20 (l.take a) ++ (l.drop a).take (b - a) ++ l.drop b := by
   rw [List.append_assoc]
   congr 1
   have e := List.take_append_drop (b - a) (l.drop a)
   rw [List.drop_drop, show a + (b - a) = b by omega] at e
   exact e.symm
  rw [e0] at hd
  have okA : ∀ e ∈ chk lt 20 (l.take a) ++ (l.drop a).take (b - a) ++ l.drop b, e.ok := by
   intro e he
   rcases List.mem_append.1 he with he | he
   ·rcases List.mem_append.1 he with he | he
    ·exact chk_ok (fun e he => ho e (List.mem_of_mem_take he)) 20 e he
    ·exact ho e (List.mem_of_mem_drop (List.mem_of_mem_take he))
   ·exact ho e (List.mem_of_mem_drop he)
  refine (insertion_in w g cap _ _ _ hd.1 okA n a b (by simp only [List.length_append, chk_len, List.length_take, List.length_drop]; omega) (by rw [chk_len, List.length_take]; omega) (by rw [List.length_take, List.length_drop]; omega) hl).mono ?_
  rintro e w' ⟨rfl, hd'⟩
  refine ⟨rfl, ?_⟩
  have e1 : chk lt 20 (l.take b) = chk lt 20 (l.take a) ++ isort lt ((l.drop a).take (b - a)) := by
   have e2 : l.take b = l.take a ++ (l.drop a).take (b - a) := by
    rw [← List.take_add, show a + (b - a) = b by omega]
   rw [e2, chk_app (by omega) k _ _ (by rw [List.length_take]; omega), chk_small (l := (l.drop a).take (b - a)) (by rw [List.length_take, List.length_drop]; omega)]
  rw [e1]
  exact hd.trans hd'
 have HM : Hid (∀ (w : World) (s a b k : Nat), 0 < s → k * (2 * s) = a → a + s < b → b ≤ n → (b = a + 2 * s ∨ (b = n ∧ n ≤ a + 2 * s)) → Did g W (chk lt (2 * s) (l.take a) ++ chk lt s (l.drop a)) w → Calls Tryz.prog 121 #[rowV g n cap, .int .i64 (a : Int), .int .i64 ((a + s : Nat) : Int), .int .i64 (b : Int), cmpV] w fun e w' => e = .returned (.tuple #[]) ∧ Did g W (chk lt (2 * s) (l.take b) ++ chk lt s (l.drop b)) w') := by
  intro w s a b k hs hk hab hbn hc hd
  obtain ⟨P, hP⟩ : ∃ P, (l.drop a).take (b - a) = P := ⟨_, rfl⟩
  have hPl : P.length = b - a := by rw [← hP, List.length_take, List.length_drop]; omega
  have eD : l.drop a = P ++ l.drop b := by
   have e := List.take_append_drop (b - a) (l.drop a)
   rw [hP, List.drop_drop, show a + (b - a) = b by omega] at e
   exact e.symm
  have eT : l.take b = l.take a ++ P := by rw [← hP, ← List.take_add, show a + (b - a) = b by omega]
  obtain ⟨c1, c2⟩ := chk_two wo (l := P) hs (by omega) (by omega)
  have e1 : chk lt s (l.drop a) = isort lt (P.take s) ++ isort lt (P.drop s) ++ chk lt s (l.drop b) := by
   rcases hc with hc | ⟨hc1, hc2⟩
   ·rw [eD, chk_app hs 2 P _ (by omega), c1]
   ·have : l.drop b = [] := List.drop_of_length_le (by omega)
    rw [eD, this, List.append_nil, c1, chk_nil, List.append_nil]
  have e2 : chk lt (2 * s) (l.take b) = chk lt (2 * s) (l.take a) ++ mrg lt (isort lt (P.take s)) (isort lt (P.drop s)) := by
   rw [eT, chk_app (by omega) k _ _ (by rw [List.length_take]; omega), c2]
  have okP : ∀ e ∈ P, e.ok := fun e he => ho e (by rw [← hP] at he; exact List.mem_of_mem_drop (List.mem_of_mem_take he))
  have e3 : chk lt (2 * s) (l.take a) ++ chk lt s (l.drop a) = chk lt (2 * s) (l.take a) ++ isort lt (P.take s) ++ isort lt (P.drop s) ++ chk lt s (l.drop b) := by rw [e1]; simp only [List.append_assoc]
  rw [e3] at hd
  refine (sym_in g cap n hl (b + 1) w _ _ _ _ hd.1 ?_ (isort_ris wo _) (isort_ris wo _) a (a + s) b ?_ ?_ ?_ ?_ ?_ ?_ ?_).mono ?_
  ·intro e he
   simp only [List.mem_append] at he
   rcases he with ((he | he) | he) | he
   ·exact chk_ok (fun e he => ho e (List.mem_of_mem_take he)) _ e he
   ·exact isort_ok (fun e he => okP e (List.mem_of_mem_take he)) e he
   ·exact isort_ok (fun e he => okP e (List.mem_of_mem_drop he)) e he
   ·exact chk_ok (fun e he => ho e (List.mem_of_mem_drop he)) _ e he
  ·simp only [List.length_append, chk_len, isort_len, List.length_take, List.length_drop]; omega
  ·rw [chk_len, List.length_take]; omega
  ·rw [isort_len, List.length_take]; omega
  ·rw [isort_len, List.length_drop]; omega
  ·rw [isort_len, List.length_take]; omega
  ·rw [isort_len, List.length_drop]; omega
  ·rw [isort_len, isort_len, List.length_take, List.length_drop]; omega
  ·rintro e w' ⟨rfl, hd'⟩
   refine ⟨rfl, ?_⟩
   rw [e2]
   exact hd.trans hd'
 have HE : Hid (∀ (w : World) (s a : Nat), 0 < s → a ≤ n → n ≤ a + s → Did g W (chk lt (2 * s) (l.take a) ++ chk lt s (l.drop a)) w → (∃ k, k * (2 * s) = a) → Did g W (chk lt (2 * s) l) w) := by
  intro w s a hs han h1 hd ⟨k, hk⟩
  have e : chk lt s (l.drop a) = chk lt (2 * s) (l.drop a) := by rw [chk_small (by rw [List.length_drop]; omega), chk_small (by rw [List.length_drop]; omega)]
  rw [e, ← chk_app (by omega) k _ _ (by rw [List.length_take]; omega), List.take_append_drop] at hd
  exact hd
 have HN := Hid.mk hn
 clear h ho hn
 go_enter Tryz.func90, Tryz.ntmps90
 go_wp2
 go_loopw [7, 8] (fun av bv wr => ∃ a b : Nat, av = .int .i64 (a : Int) ∧ bv = .int .i64 (b : Int) ∧ a ≤ n ∧ b ≤ n + 20 ∧ Hid (b = a + 20 ∧ ∃ k, k * 20 = a ∧ Did g W (chk lt 20 (l.take a) ++ l.drop a) wr)) (fun av bv _ => n + 20 - (intOf bv).toNat)
 case atStart => exact ⟨0, 20, rfl, rfl, Nat.zero_le _, by omega, rfl, H0.out⟩
 case round =>
  obtain ⟨a, b, rfl, rfl, han, hbn, HD⟩ := hrel
  obtain ⟨hb, k, hk, hd⟩ := HD.out
  by_cases hle : b ≤ n
  ·have hlz : (b : Int) ≤ (n : Int) := by omega
   have HC := Hid.mk (HI.out _ a b k hk (by omega) hle (.inl hb) hd)
   have HK : Hid ((k + 1) * 20 = b) := by show _ = _; omega
   have wb : IntKind.i64.wrap ((b : Int) + 20) = ((b + 20 : Nat) : Int) := by rw [IntKind.wrap_i64]; omega
   clear hb hk hd HD
   go_wp2_with fail
   refine HC.out.mono ?_
   rintro e w1 ⟨rfl, hd1⟩
   have HD1 := Hid.mk hd1
   clear hd1
   go_wp2
   go_roundw
   case rel => exact ⟨b, b + 20, rfl, by first | rfl | go_num, hle, by omega, rfl, k + 1, HK.out, HD1.out⟩
   case measure => simp [intOf]; omega
  ·have hlz : ¬ (b : Int) ≤ (n : Int) := by omega
   have HC := Hid.mk (HI.out _ a n k hk han (Nat.le_refl _) (.inr ⟨rfl, by omega⟩) hd)
   clear hb hk hd HD
   go_wp2_with fail
   refine HC.out.mono ?_
   rintro e w1 ⟨rfl, hd1⟩
   have HD1 : Hid (Did g W (chk lt 20 l) w1) := by
    have := HN.out
    rw [List.take_of_length_le (by omega), List.drop_of_length_le (by omega), List.append_nil] at hd1
    exact hd1
   clear hd1 H0 HC HI
   go_wp2
   go_loopw [6] (fun sv wr => ∃ s : Nat, sv = .int .i64 (s : Int) ∧ 20 ≤ s ∧ s ≤ 2000 ∧ Hid (Did g W (chk lt s l) wr)) (fun sv _ => n - (intOf sv).toNat)
   case atStart => exact ⟨20, rfl, by omega, by omega, HD1.out⟩
   case round =>
    obtain ⟨s, rfl, hs20, hs2, HD⟩ := hrel
    by_cases hsn : s < n
    ·have hsz : (s : Int) < (n : Int) := by omega
     obtain ⟨s2, hs2e⟩ : ∃ s2, 2 * s = s2 := ⟨_, rfl⟩
     have ws2 : IntKind.i64.wrap (2 * (s : Int)) = (s2 : Int) := by rw [IntKind.wrap_i64]; omega
     have ws2' : IntKind.i64.wrap ((s : Int) * 2) = (s2 : Int) := by rw [IntKind.wrap_i64]; omega
     have hs2b : 40 ≤ s2 ∧ s2 ≤ 2000 ∧ s < s2 := by omega
     have H1 : Hid (∃ k, k * s2 = 0 ∧ Did g W (chk lt s2 (l.take 0) ++ chk lt s (l.drop 0)) wr) := ⟨0, by omega, by rw [List.take_zero, chk_nil, List.drop_zero, List.nil_append]; exact HD.out⟩
     have HS2 := Hid.mk hs2e
     clear hs2e HD HD1
     go_wp2
     go_loopw [7, 8] (fun av bv wr => ∃ a b : Nat, av = .int .i64 (a : Int) ∧ bv = .int .i64 (b : Int) ∧ a ≤ n ∧ b ≤ n + s2 ∧ Hid (b = a + s2 ∧ ∃ k, k * s2 = a ∧ Did g W (chk lt s2 (l.take a) ++ chk lt s (l.drop a)) wr)) (fun av bv _ => n + s2 - (intOf bv).toNat)
     case atStart => exact ⟨0, s2, rfl, rfl, Nat.zero_le _, by omega, by omega, H1.out⟩
     case round =>
      obtain ⟨a, b, rfl, rfl, han, hbn, HD⟩ := hrel
      obtain ⟨hb, k, hk, hd⟩ := HD.out
      have h2s := HS2.out
      obtain ⟨m, hm⟩ : ∃ m, a + s = m := ⟨_, rfl⟩
      have wm : IntKind.i64.wrap ((a : Int) + (s : Int)) = (m : Int) := by rw [IntKind.wrap_i64]; omega
      by_cases hle : b ≤ n
      ·have hlz : (b : Int) ≤ (n : Int) := by omega
       have hC := HM.out _ s a b k (by omega) (by rw [h2s]; exact hk) (by omega) hle (.inl (by omega)) (by rw [h2s]; exact hd)
       rw [h2s, hm] at hC
       have HC := Hid.mk hC
       have HK : Hid ((k + 1) * s2 = b) := by show _ = _; rw [Nat.add_mul]; omega
       have wb : IntKind.i64.wrap ((b : Int) + (s2 : Int)) = ((b + s2 : Nat) : Int) := by rw [IntKind.wrap_i64]; omega
       clear hb hk hd HD hC h2s hm
       go_wp2_with fail
       refine HC.out.mono ?_
       rintro e w2 ⟨rfl, hd2⟩
       have HD2 := Hid.mk hd2
       clear hd2
       go_wp2
       go_roundw
       case rel => exact ⟨b, b + s2, rfl, by first | rfl | go_num, hle, by omega, rfl, k + 1, HK.out, HD2.out⟩
       case measure => simp [intOf]; omega
      ·have hlz : ¬ (b : Int) ≤ (n : Int) := by omega
       by_cases hmn : m < n
       ·have hmz : (m : Int) < (n : Int) := by omega
        have hC := HM.out _ s a n k (by omega) (by rw [h2s]; exact hk) (by omega) (Nat.le_refl _) (.inr ⟨rfl, by omega⟩) (by rw [h2s]; exact hd)
        rw [h2s, hm] at hC
        have HC := Hid.mk hC
        clear hb hk hd HD hC h2s hm
        go_wp2_with fail
        refine HC.out.mono ?_
        rintro e w2 ⟨rfl, hd2⟩
        have HD2 : Hid (Did g W (chk lt s2 l) w2) := by
         have := HN.out
         rw [List.take_of_length_le (by omega), List.drop_of_length_le (by omega), chk_nil, List.append_nil] at hd2
         exact hd2
        clear hd2
        go_wp2
        go_roundw
        case rel => exact ⟨s2, by first | rfl | go_num, by omega, by omega, HD2⟩
        case measure => simp [intOf]; omega
       ·have hmz : ¬ (m : Int) < (n : Int) := by omega
        have hC := HE.out _ s a (by omega) han (by omega) (by rw [h2s]; exact hd) ⟨k, by rw [h2s]; exact hk⟩
        rw [h2s] at hC
        have HD2 := Hid.mk hC
        clear hb hk hd HD hC h2s hm
        go_wp2
        go_roundw
        case rel => exact ⟨s2, by first | rfl | go_num, by omega, by omega, HD2⟩
        case measure => simp [intOf]; omega
    ·have hsz : ¬ (s : Int) < (n : Int) := by omega
     have HF : Hid (Did g W (isort lt l) wr) := by
      have := HD.out
      rw [chk_small (by have := HN.out; omega)] at this
      exact this
     clear HD
     go_wp2
     exact bodyPost_end (results_none rfl _ _ _) rfl ⟨rfl, HF.out⟩
set_option maxRecDepth 100000 in
theorem sort_in (W : World) (g cap : Nat) (l : List El) (h : SRow W g l) (ho : ∀ e ∈ l, e.ok) (hl : l.length ≤ 1000) :
  Calls Tryz.prog 55 #[rowV g l.length cap, cmpV] W fun e w' => e = .returned (.tuple #[]) ∧ Did g W (isort lt l) w' := by
 have HS := Hid.mk (stable_in W g cap l h ho _ rfl hl)
 generalize l.length = n at HS hl ⊢
 clear h ho
 go_enter Tryz.func55, Tryz.ntmps55
 go_wp2_with fail
 refine HS.out.mono ?_
 rintro e w1 ⟨rfl, hd⟩
 go_wp2
 exact bodyPost_end (results_none rfl _ _ _) rfl ⟨rfl, hd⟩
set_option maxRecDepth 100000 in
set_option maxHeartbeats 1000000 in
theorem sort_nil (W : World) : Calls Tryz.prog 55 #[.slice none 0 0, cmpV] W fun e w' => e = .returned (.tuple #[]) ∧ w' = W := by
 have HI : Hid (∀ w, Calls Tryz.prog 120 #[.slice none 0 0, .int .i64 0, .int .i64 0, cmpV] w fun e w' => e = .returned (.tuple #[]) ∧ w' = w) := by
  intro w
  go_enter Tryz.func120, Tryz.ntmps120
  go_wp2
  go_loopw [8] (fun iv wr => iv = .int .i64 1 ∧ wr = w) (fun _ _ => 0)
  case atStart => exact ⟨by first | rfl | go_num, rfl⟩
  case round =>
   obtain ⟨rfl, rfl⟩ := hrel
   go_wp2
   exact bodyPost_end (results_none rfl _ _ _) rfl ⟨rfl, rfl⟩
 have HS : Hid (∀ w, Calls Tryz.prog 90 #[.slice none 0 0, .int .i64 0, cmpV] w fun e w' => e = .returned (.tuple #[]) ∧ w' = w) := by
  intro w
  go_enter Tryz.func90, Tryz.ntmps90
  go_wp2
  go_loopw [7, 8] (fun av bv wr => av = .int .i64 0 ∧ bv = .int .i64 20 ∧ wr = w) (fun _ _ _ => 0)
  case atStart => exact ⟨rfl, rfl, rfl⟩
  case round =>
   obtain ⟨rfl, rfl, rfl⟩ := hrel
   go_wp2_with fail
   refine (HI.out _).mono ?_
   rintro e w1 ⟨rfl, rfl⟩
   go_wp2
   go_loopw [6] (fun sv wr => sv = .int .i64 20 ∧ wr = w1) (fun _ _ => 0)
   case atStart => exact ⟨rfl, rfl⟩
   case round =>
    obtain ⟨rfl, rfl⟩ := hrel
    go_wp2
    exact bodyPost_end (results_none rfl _ _ _) rfl ⟨rfl, rfl⟩
 go_enter Tryz.func55, Tryz.ntmps55
 go_wp2_with fail
 refine (HS.out _).mono ?_
 rintro e w1 ⟨rfl, rfl⟩
 go_wp2
 exact bodyPost_end (results_none rfl _ _ _) rfl ⟨rfl, rfl⟩
end Go.Proofs.YtdlcldjlfhmlgaaGreatDoor.So
/- Layer 14: right. -/
namespace Go.Proofs.YtdlcldjlfhmlgaaGreatDoor
open Go.RowKit
theorem Bx.cells3 {W w : World} {b : Nat} {x0 x1 x2 : Value} {t : TypeId} (h : Bx W b [x0, x1, x2] t w) : w.cell? ⟨b, 0, none⟩ = some x0 ∧ w.cell? ⟨b, 1, none⟩ = some x1 ∧ w.cell? ⟨b, 2, none⟩ = some x2 := ⟨h.cell 0 _ rfl, h.cell 1 _ rfl, h.cell 2 _ rfl⟩
set_option maxRecDepth 100000 in
set_option maxHeartbeats 2000000 in
theorem lright_in (z : Lc) (hz : z.nm.size ≤ maxLen) (hrs : RIn z.rs) (q : Option Addr) (cap : Nat) (W : World) (hat : RcsAt W q z.rs) (hlm : z.rs.length ≤ maxLen) : Calls Tryz.prog 25 #[.agg #[.string z.nm, .int .i64 z.kd, .slice q z.rs.length cap]] W fun e w' => e = .returned (.bool (rightR z)) ∧ Below W.heap.size W w' := by
 have HN := Hid.mk (nright_in z.nm hz)
 have X0 := Bx.new W [.string z.nm, .int .i64 z.kd, .slice q z.rs.length cap] 26
 obtain ⟨R, hR⟩ : ∃ R, rightR z = R := ⟨_, rfl⟩
 have HR : Hid (rightR z = R) := hR
 rw [hR]
 clear hR
 have HP : Hid (∀ r, r ∈ z.rs → ∀ w, Calls Tryz.prog 52 #[.string r.nm, .agg #[.string z.nm, .int .i64 z.kd, .slice q z.rs.length cap]] w fun e w' => e = .returned (.bool (plcR r.nm z)) ∧ Below w.heap.size w w') := fun r hr w => lplc_in r.nm (hrs r hr).1 z hz _ w
 have HC : Hid (∀ r, r ∈ z.rs → ∀ w, Calls Tryz.prog 51 #[.agg #[.string r.nm, .int .i64 r.ty, .int .i64 r.cl, .int .i64 r.tl, .string r.dat]] w fun e w' => e = .returned (.bool (rcR r)) ∧ Below w.heap.size w w') := fun r hr w => lrec_in r (fun x hx => by obtain rfl := List.mem_singleton.1 hx; exact hrs x hr) w
 have HBL : Hid (∀ w i, i < z.rs.length → Below W.heap.size W w → ∃ b off, q = some ⟨b, off, none⟩ ∧ ∃ r : Rc, Hid (z.rs[i]? = some r ∧ r ∈ z.rs) ∧ w.cell? ⟨b, off + i * 5, none⟩ = some (.string r.nm) ∧ w.cell? ⟨b, off + i * 5 + 1, none⟩ = some (.int .i64 r.ty) ∧ w.cell? ⟨b, off + i * 5 + 2, none⟩ = some (.int .i64 r.cl) ∧ w.cell? ⟨b, off + i * 5 + 3, none⟩ = some (.int .i64 r.tl) ∧ w.cell? ⟨b, off + i * 5 + 4, none⟩ = some (.string r.dat)) := by
  intro w i hi hb
  obtain ⟨b, off, e, _, c⟩ := hat.blk hb i hi
  exact ⟨b, off, e, z.rs[i], ⟨List.getElem?_eq_getElem _, List.getElem_mem hi⟩, c⟩
 have hT : Hid (rightR z = (isN z.nm && decide (1 ≤ z.kd) && decide (z.kd ≤ 5) && decide (z.rs.length ≤ 200) && z.rs.all fun r => rcR r && plcR r.nm z)) := rfl
 obtain ⟨n, hn⟩ : ∃ n, z.rs.length = n := ⟨_, rfl⟩
 rw [hn] at X0 HP HBL hT hlm ⊢
 have HNN := Hid.mk hn
 clear hat hrs hz hn
 obtain ⟨V, hV⟩ : ∃ V, W.alloc (.cells #[.string z.nm, .int .i64 z.kd, .slice q n cap] 26) = V := ⟨_, rfl⟩
 have X1 : Bx W W.heap.size [.string z.nm, .int .i64 z.kd, .slice q n cap] 26 V := hV ▸ X0
 have HV := Hid.mk hV
 have x1 := X1.cells3
 clear hV X0
 cases h0 : isN z.nm with
 | false =>
  rw [h0] at HN
  obtain rfl : false = R := by rw [← HR.out, hT.out, h0]; rfl
  clear h0 HR hT
  go_enter Tryz.func25, Tryz.ntmps25
  go_upto_region 1 with fail
  rw [HV.out]
  go_wp2_with fail
  refine (HN.out _).mono ?_
  rintro e w1 ⟨rfl, hb1⟩
  have X2 := X1.blk hb1
  clear hb1
  go_wp2
  go_ret
  exact ⟨rfl, X2.bel⟩
 | true =>
  rw [h0] at HN
  have hT2 : Hid (rightR z = (decide (1 ≤ z.kd) && decide (z.kd ≤ 5) && decide (n ≤ 200) && z.rs.all fun r => rcR r && plcR r.nm z)) := by
   show _ = _
   rw [hT.out, h0, Bool.true_and]
  clear h0 hT
  by_cases hk : 1 ≤ z.kd ∧ z.kd ≤ 5 ∧ n ≤ 200
  ·obtain ⟨k1, k2, k3⟩ := hk
   have d1 : decide (z.kd < 1) = false := decide_eq_false (by omega)
   have d2 : decide (5 < z.kd) = false := decide_eq_false (by omega)
   have d3 : decide (200 < (n : Int)) = false := decide_eq_false (by omega)
   have d1' : ¬ z.kd < 1 := by omega
   have d2' : ¬ 5 < z.kd := by omega
   have d3' : ¬ 200 < (n : Int) := by omega
   have HAll : Hid (R = z.rs.all fun r => rcR r && plcR r.nm z) := by
    show _ = _
    rw [← HR.out, hT2.out, decide_eq_true k1, decide_eq_true k2, decide_eq_true k3]; rfl
   clear hT2 HR k1 k2
   go_enter Tryz.func25, Tryz.ntmps25
   go_upto_region 1 with fail
   rw [HV.out]
   go_wp2_with fail
   refine (HN.out _).mono ?_
   rintro e w1 ⟨rfl, hb1⟩
   have X2 := X1.blk hb1
   have x2 := X2.cells3
   clear hb1 x1 X1
   go_wp2
   go_loopw [28] (fun iv wr => ∃ i : Nat, i ≤ n ∧ iv = .int .i64 (i : Int) ∧ Hid ((∀ r ∈ z.rs.take i, (rcR r && plcR r.nm z) = true) ∧ Bx W W.heap.size [.string z.nm, .int .i64 z.kd, .slice q n cap] 26 wr)) (fun iv _ => n - (intOf iv).toNat)
   case atStart => exact ⟨0, Nat.zero_le _, rfl, by simp, X2⟩
   case round =>
    obtain ⟨i, hi, rfl, HM⟩ := hrel
    clear x2 X2
    by_cases hlt : i < n
    ·have hlz : (i : Int) < (n : Int) := by omega
     obtain ⟨b, off, rfl, r, hri, c0, c1, c2, c3, c4⟩ := HBL.out wr i hlt HM.out.2.bel
     have HCr := Hid.mk (HC.out r hri.out.2)
     have HPr := Hid.mk (HP.out r hri.out.2)
     have wi : IntKind.i64.wrap ((i : Int) + 1) = ((i + 1 : Nat) : Int) := by rw [IntKind.wrap_i64]; omega
     obtain ⟨U, hU⟩ : ∃ U, wr.alloc (.cells #[.string r.nm, .int .i64 r.ty, .int .i64 r.cl, .int .i64 r.tl, .string r.dat] 33) = U := ⟨_, rfl⟩
     have Y0 : Bx wr wr.heap.size (rcL r) 33 U := hU ▸ Bx.new wr _ _
     have HU := Hid.mk hU
     have y0 := Y0.cells5
     have Z0 := HM.out.2.blk Y0.bel
     obtain ⟨B, hB⟩ : ∃ B, wr.heap.size = B := ⟨_, rfl⟩
     have HB := Hid.mk hB
     rw [hB] at y0
     clear hU hB
     have HTk : Hid (z.rs.take (i + 1) = z.rs.take i ++ [r]) := by
      obtain ⟨g1, g2⟩ := List.getElem?_eq_some_iff.1 hri.out.1
      show _ = _
      rw [List.take_succ_eq_append_getElem g1, g2]
     cases h1 : rcR r with
     | false =>
      rw [h1] at HCr
      obtain rfl : false = R := by
       rw [HAll.out]
       symm
       rw [List.all_eq_false]
       exact ⟨r, hri.out.2, by rw [h1]; simp⟩
      clear h1 HPr
      go_upto_region 6 with fail
      rw [HU.out, HB.out]
      go_wp2_with fail
      refine (HCr.out _).mono ?_
      rintro e w3 ⟨rfl, hb3⟩
      have Z3 := Z0.blk hb3
      clear hb3
      go_wp2
      go_ret
      exact ⟨rfl, Z3.bel⟩
     | true =>
      rw [h1] at HCr
      cases h2 : plcR r.nm z with
      | false =>
       rw [h2] at HPr
       obtain rfl : false = R := by
        rw [HAll.out]
        symm
        rw [List.all_eq_false]
        exact ⟨r, hri.out.2, by rw [h2]; simp⟩
       clear h1 h2
       go_upto_region 6 with fail
       rw [HU.out, HB.out]
       go_wp2_with fail
       refine (HCr.out _).mono ?_
       rintro e w3 ⟨rfl, hb3⟩
       have Z3 := Z0.blk hb3
       have z3 := Z3.cells3
       have y3 := (Y0.blk hb3).cells5
       rw [HB.out] at y3
       clear hb3 y0
       go_wp2_with fail
       refine (HPr.out _).mono ?_
       rintro e w4 ⟨rfl, hb4⟩
       have Z4 := Z3.blk hb4
       clear hb4
       go_wp2
       go_ret
       exact ⟨rfl, Z4.bel⟩
      | true =>
       rw [h2] at HPr
       have HA1 : Hid ((rcR r && plcR r.nm z) = true) := by show _ = _; rw [h1, h2]; rfl
       clear h1 h2
       go_upto_region 6 with fail
       rw [HU.out, HB.out]
       go_wp2_with fail
       refine (HCr.out _).mono ?_
       rintro e w3 ⟨rfl, hb3⟩
       have Z3 := Z0.blk hb3
       have z3 := Z3.cells3
       have y3 := (Y0.blk hb3).cells5
       rw [HB.out] at y3
       clear hb3 y0
       go_wp2_with fail
       refine (HPr.out _).mono ?_
       rintro e w4 ⟨rfl, hb4⟩
       have Z4 := Z3.blk hb4
       clear hb4 z3 y3
       have HE : Hid ((∀ r ∈ z.rs.take (i + 1), (rcR r && plcR r.nm z) = true) ∧ Bx W W.heap.size [.string z.nm, .int .i64 z.kd, .slice (some ⟨b, off, none⟩) n cap] 26 w4) := by
        refine ⟨fun x hx => ?_, Z4⟩
        rw [HTk.out] at hx
        rcases List.mem_append.1 hx with hx | hx
        ·exact HM.out.1 x hx
        ·obtain rfl := List.mem_singleton.1 hx; exact HA1.out
       clear HM
       go_wp2
       go_roundw
       case rel => exact ⟨i + 1, by omega, by first | rfl | go_num, HE⟩
       case measure => simp [intOf]; omega
    ·have hlz : ¬ (i : Int) < (n : Int) := by omega
     obtain rfl : true = R := by
      rw [HAll.out]
      symm
      rw [List.all_eq_true]
      have := HM.out.1
      rwa [List.take_of_length_le (by rw [HNN.out]; omega)] at this
     have hbb := HM.out.2.bel
     go_wp2
     go_ret
     exact ⟨rfl, hbb⟩
  ·obtain rfl : false = R := by
    rw [← HR.out, hT2.out]
    symm
    by_cases k1 : 1 ≤ z.kd
    ·by_cases k2 : z.kd ≤ 5
     ·rw [decide_eq_true k1, decide_eq_true k2, decide_eq_false (p := n ≤ 200) (by omega)]; rfl
     ·rw [decide_eq_false k2]; simp
    ·rw [decide_eq_false k1]; simp
   clear HR hT2
   by_cases k1 : z.kd < 1
   ·have d1 : decide (z.kd < 1) = true := decide_eq_true k1
    go_enter Tryz.func25, Tryz.ntmps25
    go_upto_region 1 with fail
    rw [HV.out]
    go_wp2_with fail
    refine (HN.out _).mono ?_
    rintro e w1 ⟨rfl, hb1⟩
    have X2 := X1.blk hb1
    have x2 := X2.cells3
    clear hb1 x1
    go_wp2
    go_ret
    exact ⟨rfl, X2.bel⟩
   ·have d1 : decide (z.kd < 1) = false := decide_eq_false k1
    by_cases k2 : 5 < z.kd
    ·have d2 : decide (5 < z.kd) = true := decide_eq_true k2
     go_enter Tryz.func25, Tryz.ntmps25
     go_upto_region 1 with fail
     rw [HV.out]
     go_wp2_with fail
     refine (HN.out _).mono ?_
     rintro e w1 ⟨rfl, hb1⟩
     have X2 := X1.blk hb1
     have x2 := X2.cells3
     clear hb1 x1
     go_wp2
     go_ret
     exact ⟨rfl, X2.bel⟩
    ·have d2 : decide (5 < z.kd) = false := decide_eq_false k2
     have k3 : 200 < (n : Int) := by omega
     have d3 : decide (200 < (n : Int)) = true := decide_eq_true k3
     go_enter Tryz.func25, Tryz.ntmps25
     go_upto_region 1 with fail
     rw [HV.out]
     go_wp2_with fail
     refine (HN.out _).mono ?_
     rintro e w1 ⟨rfl, hb1⟩
     have X2 := X1.blk hb1
     have x2 := X2.cells3
     clear hb1 x1
     go_wp2
     go_ret
     exact ⟨rfl, X2.bel⟩
end Go.Proofs.YtdlcldjlfhmlgaaGreatDoor
/- Layer 14: a zone in memory; its sets sorted. -/
namespace Go.Proofs.YtdlcldjlfhmlgaaGreatDoor
open Go.RowKit
open So (El elC SRow cmpV Did Ofs)
structure ZSets (N : Nat) (w : World) (v : Value) (ss : List St) (els : List El) (q : Option Addr) (cap : Nat) : Prop where
 v : v = .slice q els.length cap
 le : els.length ≤ cap ∧ cap ≤ maxLen
 row : 0 < els.length → ∃ g, q = some ⟨g, 0, none⟩ ∧ N ≤ g ∧ SRow w g els
 rel : F2 (ElSt N w) els ss
theorem ZSets.blk {N : Nat} {w w' : World} {v : Value} {ss : List St} {els : List El} {q : Option Addr} {cap : Nat} (h : ZSets N w v ss els q cap) (hb : Below w.heap.size w w') : ZSets N w' v ss els q cap where
 v := h.v
 le := h.le
 row := fun h0 => by obtain ⟨g, e, hg, hr⟩ := h.row h0; exact ⟨g, e, hg, hr.blk hb⟩
 rel := h.rel.mono fun e s hs => hs.keep fun b c f _ hc => hb.block b (Array.getElem?_eq_some_iff.1 hc).1
theorem setsR_ok (l : List Rc) (h : RIn l) : SsOk (setsR l) l.length ∧ Apart (setsR l) := by
 have key : ∀ (n : Nat), n ≤ l.length → SsOk (setsR (l.take n)) n ∧ Apart (setsR (l.take n)) := by
  intro n
  induction n with
  | zero => intro _; rw [List.take_zero]; exact ⟨fun s hs => by simp [setsR] at hs, List.Pairwise.nil⟩
  | succ n ih =>
   intro hn
   obtain ⟨i1, i2⟩ := ih (by omega)
   have hlt : n < l.length := by omega
   rw [List.take_succ_eq_append_getElem hlt, setsR_snoc]
   obtain ⟨a, b, c, d⟩ := h l[n] (List.getElem_mem hlt)
   unfold stepR
   split
   ·rename_i hc
    simp only [Bool.and_eq_true] at hc
    exact ⟨i1.add _ hc.2 c d, addR_apart _ _ i2⟩
   ·exact ⟨i1.mono (Nat.le_succ _), i2⟩
 have := key l.length (Nat.le_refl _)
 rwa [List.take_length] at this
theorem lt_rel {N : Nat} {w : World} : ∀ (a a' : El) (b b' : St), ElSt N w a b → ElSt N w a' b' → So.lt a a' = ltS b b' := by
 intro a a' b b' h h'
 unfold So.lt ltS
 rw [h.ls, h'.ls]
theorem setsR_len (l : List Rc) : (setsR l).length ≤ l.length := by
 have key : ∀ (n : Nat), n ≤ l.length → (setsR (l.take n)).length ≤ n := by
  intro n
  induction n with
  | zero => intro _; rw [List.take_zero]; simp [setsR]
  | succ n ih =>
   intro hn
   have hlt : n < l.length := by omega
   rw [List.take_succ_eq_append_getElem hlt, setsR_snoc]
   have i1 := ih (by omega)
   have : ∀ (ss : List St) (r : Rc), (addR ss r).length ≤ ss.length + 1 := by
    intro ss r
    induction ss with
    | nil => simp [addR]
    | cons s ss ih2 => rw [addR]; split <;> simp; omega
   unfold stepR
   split
   ·exact Nat.le_trans (this _ _) (by omega)
   ·omega
 have := key l.length (Nat.le_refl _)
 rwa [List.take_length] at this
theorem zsort_in (N : Nat) (w : World) (v : Value) (ss : List St) (h : SetsAt N w v ss) (hok : ∀ s ∈ ss, OkN s.ls) (hl : ss.length ≤ 200) (hN : N ≤ w.heap.size) : Calls Tryz.prog 55 #[v, cmpV] w fun e w' => e = .returned (.tuple #[]) ∧ (∃ els q cap, ZSets N w' v (So.isort ltS ss) els q cap) ∧ Below N w w' ∧ Kst w w' := by
 obtain ⟨els, hr, hf⟩ := h
 have hlen := hf.len
 rcases hr.2 with ⟨rfl, h0⟩ | ⟨g, cap, cur, hv, hg0, hg, hn, hm, hs, ht⟩
 ·obtain rfl : els = [] := List.eq_nil_of_length_eq_zero h0
  obtain rfl : ss = [] := List.eq_nil_of_length_eq_zero (by rw [← hlen]; rfl)
  refine (So.sort_nil w).mono ?_
  rintro e w' ⟨rfl, rfl⟩
  exact ⟨rfl, ⟨[], none, 0, rfl, ⟨Nat.le_refl _, by unfold maxLen; omega⟩, fun h => by simp at h, trivial⟩, Below.refl _ _, Kst.refl _⟩
 ·subst hv
  have hrow : SRow w g els := ⟨cur.toList.drop (els.length * 6), by rw [hg, ← ht, List.take_append_drop]⟩
  have hel : ∀ e ∈ els, e.ok := by
   intro e he
   obtain ⟨j, hj, rfl⟩ := List.getElem_of_mem he
   have hj' : j < ss.length := by rw [← hlen]; exact hj
   have hs := hf.at j hj hj'
   obtain ⟨q', c', hd⟩ := srow_any hs.dv
   exact ⟨by rw [hs.ls]; exact hok _ (List.getElem_mem hj'), by rw [hd]; rfl, by rw [hs.sv]; rfl⟩
  refine (So.sort_in w g cap els hrow hel (by omega)).mono ?_
  rintro e w' ⟨rfl, hd, ho⟩
  have hkeep : ∀ b c t f, w.heap[b]? = some (Obj.cells c t f) → t ≠ 44 → w'.heap[b]? = w.heap[b]? := fun b c t f hb hne => ho.same b (Array.getElem?_eq_some_iff.1 hb).1 (fun e => by subst e; rw [hg] at hb; cases hb; exact hne rfl)
  refine ⟨rfl, ⟨So.isort So.lt els, some ⟨g, 0, none⟩, cap, by rw [So.isort_len], ⟨by rw [So.isort_len]; exact hn, hm⟩, fun _ => ⟨g, rfl, hg0, hd⟩, ?_⟩, ho.below hg0 hN, fun b c t f hb h1 _ _ => by rw [hkeep b c t f hb h1]; exact hb⟩
  refine isort_rel lt_rel (hf.mono fun e s hs => hs.keep fun b c f _ hc => hkeep b c _ f hc (by decide))
end Go.Proofs.YtdlcldjlfhmlgaaGreatDoor
