/- Texts of this proof, joined: So4, So5, So6. -/
import Derived.Test.YtdlcldjlfhmlgaaGreatDoorJ14
set_option linter.unusedVariables false
set_option linter.unusedSimpArgs false
/- slices.symMergeCmpFunc at sets: of a row and one set. -/
namespace Go.Proofs.YtdlcldjlfhmlgaaGreatDoor.So
open Go.RowKit
attribute [local go_sem ↓] loadAt_st storeAt_st
theorem ris_before' {V : List El} {x v : El} (h : Ris lt V) {i : Nat} (hv : V[i]? = some v) (hx : lt x v = false) : ∀ p ∈ V.take (i + 1), lt x p = false := by
 intro p hp
 obtain ⟨hi, rfl⟩ := List.getElem?_eq_some_iff.1 hv
 rw [List.take_succ_eq_append_getElem hi] at hp
 rcases List.mem_append.1 hp with hp | hp
 ·have h2 := h
  rw [← List.take_append_drop i V] at h2
  have := (List.pairwise_append.1 h2).2.2 p hp V[i] (by rw [List.drop_eq_getElem_cons hi]; exact List.mem_cons_self)
  exact wo.nt _ _ _ hx this
 ·obtain rfl := List.mem_singleton.1 hp; exact hx
theorem ris_behind' {V : List El} {x v : El} (h : Ris lt V) {i : Nat} (hv : V[i]? = some v) (hx : lt x v = true) : ∀ p ∈ V.drop i, lt x p = true := by
 intro p hp
 obtain ⟨hi, rfl⟩ := List.getElem?_eq_some_iff.1 hv
 rw [List.drop_eq_getElem_cons hi] at hp
 rcases List.mem_cons.1 hp with rfl | hp
 ·exact hx
 ·have h2 := h
  rw [← List.take_append_drop i V, List.drop_eq_getElem_cons hi] at h2
  have := (List.pairwise_cons.1 (List.pairwise_append.1 h2).2.1).1 p hp
  cases e : lt x p with
  | true => rfl
  | false =>
   have := wo.nt _ _ _ e this
   rw [hx] at this
   cases this
set_option maxRecDepth 100000 in
set_option maxHeartbeats 2000000 in
theorem symB (W : World) (g cap : Nat) (A U B : List El) (x : El) (h : SRow W g (A ++ U ++ [x] ++ B)) (ho : ∀ e ∈ A ++ U ++ [x] ++ B, e.ok) (hU : Ris lt U) (n a m b : Nat) (hn : (A ++ U ++ [x] ++ B).length = n) (ha : A.length = a) (hm : a + U.length = m) (hb : m + 1 = b) (hl : n ≤ 1000) (hu1 : 1 < U.length) :
  Calls Tryz.prog 121 #[rowV g n cap, .int .i64 (a : Int), .int .i64 (m : Int), .int .i64 (b : Int), cmpV] W fun e w' => e = .returned (.tuple #[]) ∧ Did g W (A ++ mrg lt U [x] ++ B) w' := by
 have hbn : b ≤ n := by rw [← hn]; simp only [List.length_append, List.length_cons, List.length_nil]; omega
 obtain ⟨l, hle⟩ : ∃ l, A ++ U ++ [x] ++ B = l := ⟨_, rfl⟩
 have hla : ∀ (ha' : m < l.length), l[m] = x := by
  subst hle; intro _
  rw [List.getElem_append_left (by simp; omega), List.getElem_append_right (by simp; omega)]
  simp
 have hlv : ∀ i, i < U.length → l[a + i]? = U[i]? := by
  subst hle; intro i hi
  rw [List.getElem?_append_left (by simp; omega), List.getElem?_append_left (by simp; omega), List.getElem?_append_right (by omega)]
  congr 1
  omega
 have FIN : Hid (∀ i, a ≤ i → i ≤ m → (i = a ∨ (a < i ∧ ∃ v, U[i - a - 1]? = some v ∧ lt x v = false)) → (i = m ∨ ∃ v, U[i - a]? = some v ∧ lt x v = true) → A ++ mrg lt U [x] ++ B = A ++ U.take (i - a) ++ x :: (U.drop (i - a) ++ B)) := by
  intro i h1 h2 h3 h4
  have e := ins_right (lt := lt) (U.take (i - a)) (U.drop (i - a)) x (by
   rcases h4 with rfl | ⟨v, hv, hx⟩
   ·rw [List.drop_of_length_le (by omega)]; simp
   ·exact ris_behind' hU hv hx) (by
   rcases h3 with rfl | ⟨hi0, v, hv, hx⟩
   ·simp
   ·have := ris_before' hU hv hx
    rw [show i - a - 1 + 1 = i - a by omega] at this
    exact this)
  rw [List.take_append_drop] at e
  rw [e]
  simp
 obtain ⟨T, hT⟩ : ∃ T, A ++ mrg lt U [x] ++ B = T := ⟨_, rfl⟩
 rw [hT] at FIN ⊢
 rw [hle] at h ho hn
 have H0 := Hid.mk (Did.refl h)
 have HL : Hid ((∀ e ∈ l, e.ok) ∧ l.length = n ∧ A.length = a ∧ a + U.length = m ∧ m + 1 = b ∧ (∀ (ha' : m < l.length), l[m] = x) ∧ (∀ i, i < U.length → l[a + i]? = U[i]?) ∧ A ++ U ++ [x] ++ B = l) := ⟨ho, hn, ha, hm, hb, hla, hlv, hle⟩
 have hma : (IntKind.i64.wrap ((m : Int) - (a : Int)) == 1) = false := by rw [IntKind.wrap_i64]; simp; omega
 have hma2 : IntKind.i64.wrap ((m : Int) - (a : Int)) = ((m - a : Nat) : Int) := by rw [IntKind.wrap_i64]; omega
 have hma3 : (((m - a : Nat) : Int) == 1) = false := by simp; omega
 have hbm : IntKind.i64.wrap ((b : Int) - (m : Int)) = 1 := by rw [IntKind.wrap_i64]; omega
 have ham : a ≤ m := by omega
 have hmb : m < b := by omega
 have mz : (m : Int) < (n : Int) := by omega
 generalize m - a = ma at hma2 hma3
 clear h ho hn ha hm hb hla hlv hle hU hT hu1 hma
 go_enter Tryz.func121, Tryz.ntmps121
 go_wp2
 go_loopw [14, 15] (fun iv jv wr => ∃ i j : Nat, iv = .int .i64 (i : Int) ∧ jv = .int .i64 (j : Int) ∧ a ≤ i ∧ i ≤ j ∧ j ≤ m ∧ Hid ((i = a ∨ (a < i ∧ ∃ v, U[i - a - 1]? = some v ∧ lt x v = false)) ∧ (j = m ∨ ∃ v, U[j - a]? = some v ∧ lt x v = true) ∧ Did g W l wr)) (fun iv jv _ => (intOf jv).toNat - (intOf iv).toNat)
 case atStart => exact ⟨a, m, rfl, rfl, Nat.le_refl _, ham, Nat.le_refl _, .inl rfl, .inl rfl, H0.out⟩
 case round =>
  obtain ⟨i, j, rfl, rfl, hmi, hij, hjb, HD⟩ := hrel
  by_cases hlt : i < j
  ·have hlz : (i : Int) < (j : Int) := by omega
   obtain ⟨hh, hhe⟩ : ∃ hh, (i + j) / 2 = hh := ⟨_, rfl⟩
   obtain ⟨s, hs⟩ : ∃ s, i + j = s := ⟨_, rfl⟩
   have hv := halves i j hh hhe (by omega)
   rw [hs] at hv
   obtain ⟨v1, v2, v3, v4, v5⟩ := hv
   have hhb : i ≤ hh ∧ hh < j := by omega
   obtain ⟨hd1, hd2, hd⟩ := HD.out
   obtain ⟨ho, hn, ha, hm, hb, hla, hlv, hle⟩ := HL.out
   obtain ⟨K, cx, cp, KD, KI, kd, kb, HS2, HC⟩ := two_held (g := g) (W := W) (l := l) (p := m) (q := hh) (by omega) (by omega) ho
   have ehh : U[hh - a]? = some (l[hh]'(by omega)) := by
    rw [← hlv (hh - a) (by omega), show a + (hh - a) = hh by omega]; exact List.getElem?_eq_getElem _
   rw [hla (by omega)] at HC
   obtain ⟨y, hy⟩ : ∃ y, l[hh]'(by omega) = y := ⟨_, rfl⟩
   rw [hy] at HC ehh
   obtain ⟨c, hc⟩ : ∃ c, cmpN x.ls y.ls = c := ⟨_, rfl⟩
   rw [hc] at HC
   have HF : Hid (cmpN x.ls y.ls = c ∧ U[hh - a]? = some y ∧ (i = a ∨ (a < i ∧ ∃ v, U[i - a - 1]? = some v ∧ lt x v = false)) ∧ (j = m ∨ ∃ v, U[j - a]? = some v ∧ lt x v = true)) := ⟨hc, ehh, hd1, hd2⟩
   have hz : (hh : Int) < (n : Int) := by omega
   have hK := KI.out _ hd
   have hS0 := HS2.out _ hK
   clear hy hc hd1 hd2 hd HD ho hn ha hm hb hla hlv hle ehh hhe hs
   by_cases hcz : c < 0
   ·have hcd : decide (c < 0) = true := decide_eq_true hcz
    go_wp2_with fail
    go_region_held3 (fun w => K w ∧ (stLoad (.pointer (some ⟨g, m * 6, none⟩))).run Tryz.prog w = .ok (.agg cx) w ∧ (stLoad (.pointer (some ⟨g, hh * 6, none⟩))).run Tryz.prog w = .ok (.agg cp) w)
     (first | assumption | (apply HS2.out; repeat (first | assumption | apply kd.out)))
     ((go_at_call 56; refine (HC.out _).mono ?_; rintro e w2 ⟨rfl, hb2⟩; have K2 := kb.out _ _ (by repeat (first | assumption | apply kd.out)) hb2; have hs2 := HS2.out _ K2))
    have HG : Hid ((i = a ∨ (a < i ∧ ∃ v, U[i - a - 1]? = some v ∧ lt x v = false)) ∧ (hh = m ∨ ∃ v, U[hh - a]? = some v ∧ lt x v = true) ∧ Did g W l w2) := by
     obtain ⟨f1, f2, f3, f4⟩ := HF.out
     exact ⟨f3, .inr ⟨y, f2, lt_true.2 (by rw [f1]; exact hcz)⟩, KD.out _ K2⟩
    clear hs2 hS0
    go_wp2
    go_roundw
    case rel => exact ⟨i, hh, rfl, rfl, by omega, by omega, by omega, HG⟩
    case measure => simp [intOf]; omega
   ·have hcd : decide (c < 0) = false := decide_eq_false hcz
    go_wp2_with fail
    go_region_held3 (fun w => K w ∧ (stLoad (.pointer (some ⟨g, m * 6, none⟩))).run Tryz.prog w = .ok (.agg cx) w ∧ (stLoad (.pointer (some ⟨g, hh * 6, none⟩))).run Tryz.prog w = .ok (.agg cp) w)
     (first | assumption | (apply HS2.out; repeat (first | assumption | apply kd.out)))
     ((go_at_call 56; refine (HC.out _).mono ?_; rintro e w2 ⟨rfl, hb2⟩; have K2 := kb.out _ _ (by repeat (first | assumption | apply kd.out)) hb2; have hs2 := HS2.out _ K2))
    have HG : Hid ((hh + 1 = a ∨ (a < hh + 1 ∧ ∃ v, U[hh + 1 - a - 1]? = some v ∧ lt x v = false)) ∧ (j = m ∨ ∃ v, U[j - a]? = some v ∧ lt x v = true) ∧ Did g W l w2) := by
     obtain ⟨f1, f2, f3, f4⟩ := HF.out
     exact ⟨.inr ⟨by omega, y, by rw [show hh + 1 - a - 1 = hh - a by omega]; exact f2, lt_false.2 (by have := cmpN_nt x.ls y.ls; omega)⟩, f4, KD.out _ K2⟩
    have wh : IntKind.i64.wrap ((hh : Int) + 1) = ((hh + 1 : Nat) : Int) := by rw [IntKind.wrap_i64]; omega
    clear hs2 hS0
    go_wp2
    go_roundw
    case rel => exact ⟨hh + 1, j, by first | rfl | go_num, rfl, by omega, by omega, by omega, HG⟩
    case measure => simp [intOf]; omega
  ·obtain rfl : i = j := by omega
   have HT : Hid (T = A ++ U.take (i - a) ++ x :: (U.drop (i - a) ++ B)) := FIN.out i hmi hjb HD.out.1 HD.out.2.1
   obtain ⟨A1, hA1⟩ : ∃ A1, A ++ U.take (i - a) = A1 := ⟨_, rfl⟩
   obtain ⟨V1, hV1⟩ : ∃ V1, U.drop (i - a) = V1 := ⟨_, rfl⟩
   rw [hA1, hV1] at HT
   have hl1 : V1.length = m - i := by rw [← hV1, List.length_drop]; have := HL.out.2.2.2.1; omega
   have hA1l : A1.length = i := by rw [← hA1, List.length_append, List.length_take]; have := HL.out.2.2.2.1; have := HL.out.2.2.1; omega
   have H1 : Hid (∃ t, i + t = m ∧ t ≤ V1.length ∧ Did g W (A1 ++ V1.take t ++ x :: (V1.drop t ++ B)) wr) := by
    refine ⟨V1.length, by omega, Nat.le_refl _, ?_⟩
    have e := HL.out.2.2.2.2.2.2.2
    have e2 : A1 ++ V1.take V1.length ++ x :: (V1.drop V1.length ++ B) = l := by
     rw [← e, List.take_length, List.drop_length, ← hA1, ← hV1]
     simp only [List.append_assoc, List.cons_append, List.nil_append]
     rw [← List.append_assoc (U.take (i - a)), List.take_append_drop]
    rw [e2]; exact HD.out.2.2
   have HV : Hid (V1.length = m - i ∧ (∀ t, t ≤ V1.length → (∀ e ∈ A1 ++ V1.take t ++ x :: (V1.drop t ++ B), e.ok) ∧ (A1 ++ V1.take t ++ x :: (V1.drop t ++ B)).length = n) ∧ A1.length = i) := by
    obtain ⟨ho, hn, ha, hm, hb, hla, hlv, hle⟩ := HL.out
    refine ⟨hl1, fun t ht => ⟨fun e he => ho e ?_, ?_⟩, hA1l⟩
    ·rw [← hle]
     have h1 : ∀ z, z ∈ V1 → z ∈ U := fun z hz => by rw [← hV1] at hz; exact List.mem_of_mem_drop hz
     simp only [List.mem_append, List.mem_cons, List.not_mem_nil, or_false] at he ⊢
     rcases he with (he | he) | rfl | he | he
     ·rw [← hA1] at he
      rcases List.mem_append.1 he with he | he
      ·exact .inl (.inl (.inl he))
      ·exact .inl (.inl (.inr (List.mem_of_mem_take he)))
     ·exact .inl (.inl (.inr (h1 _ (List.mem_of_mem_take he))))
     ·exact .inl (.inr rfl)
     ·exact .inl (.inl (.inr (h1 _ (List.mem_of_mem_drop he))))
     ·exact .inr he
    ·rw [← hle] at hn
     rw [← hn]
     simp only [List.length_append, List.length_take, List.length_cons, List.length_drop, List.length_nil]
     omega
   clear hV1 hA1 hl1 hA1l HD FIN H0 HL
   go_wp2
   go_loopw [17] (fun kv wr => ∃ k : Nat, kv = .int .i64 (k : Int) ∧ i ≤ k ∧ k ≤ m ∧ Hid (∃ t, i + t = k ∧ t ≤ V1.length ∧ Did g W (A1 ++ V1.take t ++ x :: (V1.drop t ++ B)) wr)) (fun kv _ => (intOf kv).toNat)
   case atStart => exact ⟨m, rfl, hjb, Nat.le_refl _, H1.out⟩
   case round =>
    obtain ⟨k, rfl, hak, hki, HD⟩ := hrel
    by_cases hlt : i < k
    ·have hlz : (i : Int) < (k : Int) := by omega
     obtain ⟨t, ht, htl, hd⟩ := HD.out
     obtain ⟨hl1, hok, hA1l⟩ := HV.out
     obtain ⟨s, rfl⟩ : ∃ s, t = s + 1 := ⟨t - 1, by omega⟩
     have hsV : s < V1.length := by omega
     obtain ⟨k1, hk1⟩ : ∃ k1, k1 + 1 = k := ⟨k - 1, by omega⟩
     obtain ⟨x', y', w3, HX, lp, lq, sp, sq, HW⟩ := swap_facts (w := wr.drew) hd.1.drew (hok _ htl).1 (p := k) (q := k1) (by rw [(hok _ htl).2]; omega) (by rw [(hok _ htl).2]; omega)
     have HR : Hid (∃ t, i + t = k1 ∧ t ≤ V1.length ∧ Did g W (A1 ++ V1.take t ++ x :: (V1.drop t ++ B)) w3) := by
      refine ⟨s, by omega, by omega, ?_, hd.2.drew.trans HW.out.2⟩
      have e := HW.out.1
      have e2 := sw_right (A1 ++ V1.take s) V1[s] x (V1.drop (s + 1) ++ B)
      rw [show (A1 ++ V1.take s).length = k1 by rw [List.length_append, List.length_take]; omega, hk1, sw_comm] at e2
      have e3 : A1 ++ V1.take (s + 1) ++ x :: (V1.drop (s + 1) ++ B) = A1 ++ V1.take s ++ V1[s] :: x :: (V1.drop (s + 1) ++ B) := by
       rw [List.take_succ_eq_append_getElem hsV]
       simp only [List.append_assoc, List.cons_append, List.nil_append]
      rw [e3, e2] at e
      rw [List.drop_eq_getElem_cons hsV, List.cons_append]
      exact e
     have wk : IntKind.i64.wrap ((k : Int) - 1) = (k1 : Int) := by rw [IntKind.wrap_i64]; omega
     have kz : (k : Int) < (n : Int) := by omega
     have kz1 : (k1 : Int) < (n : Int) := by omega
     have HK1 := Hid.mk hk1
     generalize x'.c.toArray = c1 at lp sq
     generalize y'.c.toArray = c2 at lq sp
     generalize stPut wr.drew g k y' = w4 at sp sq
     clear ht htl hd hl1 hok hA1l hsV hk1 HD
     go_wp2_with fail
     go_region
     all_goals (go_wp2; go_roundw)
     case rel => exact ⟨k1, rfl, by have := HK1.out; omega, by have := HK1.out; omega, HR⟩
     case measure => simp [intOf]; have := HK1.out; omega
    ·have HG : Hid (Did g W T wr) := by
      obtain ⟨t, ht, htl, hd⟩ := HD.out
      obtain rfl : t = 0 := by omega
      rw [List.take_zero, List.drop_zero, List.append_nil] at hd
      show Did g W T wr
      rw [HT.out]; exact hd
     have hlz : ¬ (i : Int) < (k : Int) := by omega
     clear HD
     go_wp2
     exact bodyPost_ret (results_none rfl _ _ _) rfl ⟨rfl, HG.out⟩
end Go.Proofs.YtdlcldjlfhmlgaaGreatDoor.So
/- slices.symMergeCmpFunc at sets, whole. -/
namespace Go.Proofs.YtdlcldjlfhmlgaaGreatDoor.So
open Go.RowKit
attribute [local go_sem ↓] loadAt_st storeAt_st
def Sym (g cap n N : Nat) : Prop := ∀ (W : World) (A U V B : List El), SRow W g (A ++ U ++ V ++ B) → (∀ e ∈ A ++ U ++ V ++ B, e.ok) → Ris lt U → Ris lt V → ∀ (a m b : Nat), (A ++ U ++ V ++ B).length = n → A.length = a → a + U.length = m → m + V.length = b → 0 < U.length → 0 < V.length → U.length + V.length < N →
  Calls Tryz.prog 121 #[rowV g n cap, .int .i64 (a : Int), .int .i64 (m : Int), .int .i64 (b : Int), cmpV] W fun e w' => e = .returned (.tuple #[]) ∧ Did g W (A ++ mrg lt U V ++ B) w'
structure Cut (A U V B : List El) (a m b s e mid : Nat) : Prop where
 mr : mrg lt U V = mrg lt (U.take (s - a)) (V.take (e - m)) ++ mrg lt (U.drop (s - a)) (V.drop (e - m))
 l1 : (U.take (s - a)).length = s - a
 l2 : (U.drop (s - a)).length = m - s
 l3 : (V.take (e - m)).length = e - m
 l4 : (V.drop (e - m)).length = b - e
theorem cut_of {A U V B : List El} (hU : Ris lt U) (hV : Ris lt V) {a m b s e mid lo hi p nn : Nat} (ha : A.length = a) (hm : a + U.length = m) (hb : m + V.length = b) (hnn : mid + m = nn) (hp : p + 1 = nn) (he : s + e = nn) (h1 : lo ≤ s) (h2 : s ≤ hi) (h3 : a ≤ lo) (h4 : hi ≤ m) (h5 : hi ≤ mid) (h6 : nn ≤ lo + b) (h7 : lo = a ∨ lo + b = nn) (h8 : hi = m ∨ hi = mid)
  (hl : s = lo ∨ (lo < s ∧ ∃ x y, U[s - 1 - a]? = some x ∧ V[p - (s - 1) - m]? = some y ∧ lt y x = false)) (hr : s = hi ∨ ∃ x y, U[s - a]? = some x ∧ V[p - s - m]? = some y ∧ lt y x = true) : Cut A U V B a m b s e mid := by
 have k1 : (U.take (s - a)).length = s - a := by rw [List.length_take]; omega
 have k2 : (U.drop (s - a)).length = m - s := by rw [List.length_drop]; omega
 have k3 : (V.take (e - m)).length = e - m := by rw [List.length_take]; omega
 have k4 : (V.drop (e - m)).length = b - e := by rw [List.length_drop]; omega
 refine ⟨?_, k1, k2, k3, k4⟩
 have hs := mrg_split (lt := lt) (U.take (s - a)) (V.take (e - m)) (U.drop (s - a)) (V.drop (e - m)) ?_ ?_
 ·rw [List.take_append_drop, List.take_append_drop] at hs; exact hs
 ·intro u hu v hv
  rcases hr with hr | ⟨x, y, hx, hy, hxy⟩
  ·rcases h8 with h8 | h8
   ·rw [List.eq_nil_of_length_eq_zero (l := U.drop (s - a)) (by omega)] at hu; simp at hu
   ·rw [List.eq_nil_of_length_eq_zero (l := V.take (e - m)) (by omega)] at hv; simp at hv
  ·have hem : m < e := by have := List.length_pos_of_mem hv; omega
   have a1 := ris_before hV hy hxy v (by rw [show p - s - m + 1 = e - m by omega]; exact hv)
   have a2 : lt u x = false := by
    obtain ⟨hi', rfl⟩ := List.getElem?_eq_some_iff.1 hx
    rw [List.drop_eq_getElem_cons hi'] at hu
    rcases List.mem_cons.1 hu with rfl | hu
    ·exact wo.ir _
    ·have h2 := hU
     rw [← List.take_append_drop (s - a) U, List.drop_eq_getElem_cons hi'] at h2
     exact (List.pairwise_cons.1 (List.pairwise_append.1 h2).2.1).1 u hu
   cases e2 : lt v u with
   | true => rfl
   | false =>
    have := wo.nt _ _ _ e2 a2
    rw [a1] at this
    cases this
 ·intro u hu v hv
  rcases hl with hl | ⟨h0, x, y, hx, hy, hxy⟩
  ·rcases h7 with h7 | h7
   ·rw [List.eq_nil_of_length_eq_zero (l := U.take (s - a)) (by omega)] at hu; simp at hu
   ·rw [List.eq_nil_of_length_eq_zero (l := V.drop (e - m)) (by omega)] at hv; simp at hv
  ·have a1 := ris_behind hV hy hxy v (by rw [show p - (s - 1) - m = e - m by omega]; exact hv)
   have a2 : lt x u = false := by
    obtain ⟨hi', rfl⟩ := List.getElem?_eq_some_iff.1 hx
    rw [show s - a = s - 1 - a + 1 by omega, List.take_succ_eq_append_getElem hi'] at hu
    rcases List.mem_append.1 hu with hu | hu
    ·have h2 := hU
     rw [← List.take_append_drop (s - 1 - a) U, List.drop_eq_getElem_cons hi'] at h2
     exact (List.pairwise_append.1 h2).2.2 u hu _ (List.mem_cons_self)
    ·obtain rfl := List.mem_singleton.1 hu; exact wo.ir _
   exact wo.nt _ _ _ a1 a2
theorem steps_of {g cap n : Nat} {W : World} {A U V B : List El} {a m b s e mid : Nat} (C : Cut A U V B a m b s e mid) (HR : Sym g cap n (b - a)) (hl : n ≤ 1000) (ho : ∀ e ∈ A ++ U ++ V ++ B, e.ok) (hU : Ris lt U) (hV : Ris lt V) (hn : (A ++ U ++ V ++ B).length = n) (ha : A.length = a) (hm : a + U.length = m) (hb : m + V.length = b) (hu : 2 ≤ U.length) (hv : 2 ≤ V.length) (h1 : a ≤ s) (h2 : s ≤ m) (h3 : m ≤ e) (h4 : e ≤ b) (hnn : s + e = mid + m) (hmid : a < mid ∧ mid < b) :
  ∃ l2 l3 : List El, Hid (s < m ∧ m < e → ∀ w, Did g W (A ++ U ++ V ++ B) w → Calls Tryz.prog 148 #[rowV g n cap, .int .i64 (s : Int), .int .i64 (m : Int), .int .i64 (e : Int), cmpV] w fun r w' => r = .returned (.tuple #[]) ∧ Did g W l2 w') ∧ Hid (¬ (s < m ∧ m < e) → A ++ U ++ V ++ B = l2) ∧
   Hid (a < s ∧ s < mid → ∀ w, Did g W l2 w → Calls Tryz.prog 121 #[rowV g n cap, .int .i64 (a : Int), .int .i64 (s : Int), .int .i64 (mid : Int), cmpV] w fun r w' => r = .returned (.tuple #[]) ∧ Did g W l3 w') ∧ Hid (¬ (a < s ∧ s < mid) → l2 = l3) ∧
   Hid (mid < e ∧ e < b → ∀ w, Did g W l3 w → Calls Tryz.prog 121 #[rowV g n cap, .int .i64 (mid : Int), .int .i64 (e : Int), .int .i64 (b : Int), cmpV] w fun r w' => r = .returned (.tuple #[]) ∧ Did g W (A ++ mrg lt U V ++ B) w') ∧ Hid (¬ (mid < e ∧ e < b) → l3 = A ++ mrg lt U V ++ B) := by
 obtain ⟨mr, k1, k2, k3, k4⟩ := C
 have eU := List.take_append_drop (s - a) U
 have eV := List.take_append_drop (e - m) V
 have rU := hU
 have rV := hV
 rw [← eU] at rU
 rw [← eV] at rV
 generalize U.take (s - a) = U1 at *
 generalize U.drop (s - a) = U2 at *
 generalize V.take (e - m) = V1 at *
 generalize V.drop (e - m) = V2 at *
 subst eU
 subst eV
 have r1 := (List.pairwise_append.1 rU).1
 have r2 := (List.pairwise_append.1 rU).2.1
 have r3 := (List.pairwise_append.1 rV).1
 have r4 := (List.pairwise_append.1 rV).2.1
 have o1 : ∀ z ∈ A ++ U1 ++ V1 ++ (U2 ++ V2 ++ B), z.ok := fun z hz => ho z (by simp only [List.mem_append] at hz ⊢; rcases hz with ((h | h) | h) | (h | h) | h <;> simp [h])
 have o2 : ∀ z ∈ (A ++ mrg lt U1 V1) ++ U2 ++ V2 ++ B, z.ok := fun z hz => ho z (by
  simp only [List.mem_append, mrg_mem] at hz ⊢
  rcases hz with (((h | h | h) | h) | h) | h <;> simp [h])
 have n1 : (A ++ U1 ++ V1 ++ (U2 ++ V2 ++ B)).length = n := by rw [← hn]; simp only [List.length_append]; omega
 have n2 : ((A ++ mrg lt U1 V1) ++ U2 ++ V2 ++ B).length = n := by rw [← hn]; simp only [List.length_append, mrg_len]; omega
 simp only [List.length_append] at hm hb hu hv
 refine ⟨A ++ U1 ++ V1 ++ (U2 ++ V2 ++ B), A ++ mrg lt U1 V1 ++ (U2 ++ V2 ++ B), fun hc w hd => ?_, fun hc => ?_, fun hc w hd => ?_, fun hc => ?_, fun hc w hd => ?_, fun hc => ?_⟩
 ·have e0 : A ++ (U1 ++ U2) ++ (V1 ++ V2) ++ B = (A ++ U1) ++ U2 ++ V1 ++ (V2 ++ B) := by simp only [List.append_assoc]
  have e1 : (A ++ U1) ++ V1 ++ U2 ++ (V2 ++ B) = A ++ U1 ++ V1 ++ (U2 ++ V2 ++ B) := by simp only [List.append_assoc]
  rw [e0] at hd ho hn
  have := rotate_in w g cap (A ++ U1) U2 V1 (V2 ++ B) hd.1 ho (by omega) (by omega) n s m e hn (by rw [List.length_append]; omega) (by omega) (by omega) hl
  rw [e1] at this
  exact this.mono fun r w' h => ⟨h.1, hd.trans h.2⟩
 ·by_cases c : s < m
  ·rw [List.eq_nil_of_length_eq_zero (l := V1) (by omega)]; simp only [List.append_assoc, List.nil_append]
  ·rw [List.eq_nil_of_length_eq_zero (l := U2) (by omega)]; simp only [List.append_assoc, List.nil_append]
 ·exact (HR w A U1 V1 (U2 ++ V2 ++ B) hd.1 o1 r1 r3 a s mid n1 ha (by omega) (by omega) (by omega) (by omega) (by omega)).mono fun r w' h => ⟨h.1, hd.trans h.2⟩
 ·by_cases c : a < s
  ·rw [List.eq_nil_of_length_eq_zero (l := V1) (by omega)]; simp only [List.append_assoc, List.nil_append, mrg_nil]
  ·rw [List.eq_nil_of_length_eq_zero (l := U1) (by omega)]; simp only [List.append_assoc, List.nil_append, nil_mrg]
 ·have e0 : A ++ mrg lt U1 V1 ++ (U2 ++ V2 ++ B) = (A ++ mrg lt U1 V1) ++ U2 ++ V2 ++ B := by simp only [List.append_assoc]
  rw [e0] at hd
  have := HR w (A ++ mrg lt U1 V1) U2 V2 B hd.1 o2 r2 r4 mid e b n2 (by rw [List.length_append, mrg_len]; omega) (by omega) (by omega) (by omega) (by omega) (by omega)
  rw [mr]
  simp only [List.append_assoc] at this ⊢
  exact this.mono fun r w' h => ⟨h.1, by have := hd.trans h.2; simpa only [List.append_assoc] using this⟩
 ·rw [mr]
  by_cases c : mid < e
  ·rw [List.eq_nil_of_length_eq_zero (l := V2) (by omega)]; simp only [List.append_assoc, List.nil_append, mrg_nil]
  ·rw [List.eq_nil_of_length_eq_zero (l := U2) (by omega)]; simp only [List.append_assoc, List.nil_append, nil_mrg]
end Go.Proofs.YtdlcldjlfhmlgaaGreatDoor.So
/- slices.symMergeCmpFunc at sets: the first of two rows reaches beyond the middle. -/
namespace Go.Proofs.YtdlcldjlfhmlgaaGreatDoor.So
open Go.RowKit
attribute [local go_sem ↓] loadAt_st storeAt_st
set_option maxRecDepth 100000 in
set_option maxHeartbeats 4000000 in
theorem symC1 (W : World) (g cap : Nat) (A U V B : List El) (h : SRow W g (A ++ U ++ V ++ B)) (ho : ∀ e ∈ A ++ U ++ V ++ B, e.ok) (hU : Ris lt U) (hV : Ris lt V) (n a m b : Nat) (HR : Sym g cap n (b - a)) (hn : (A ++ U ++ V ++ B).length = n) (ha : A.length = a) (hm : a + U.length = m) (hb : m + V.length = b) (hl : n ≤ 1000) (hu : 2 ≤ U.length) (hv : 2 ≤ V.length) (mid : Nat) (hmid : (a + b) / 2 = mid) (hw : mid < m) :
  Calls Tryz.prog 121 #[rowV g n cap, .int .i64 (a : Int), .int .i64 (m : Int), .int .i64 (b : Int), cmpV] W fun e w' => e = .returned (.tuple #[]) ∧ Did g W (A ++ mrg lt U V ++ B) w' := by
 have hbn : b ≤ n := by rw [← hn]; simp only [List.length_append]; omega
 obtain ⟨nn, hnn⟩ : ∃ nn, mid + m = nn := ⟨_, rfl⟩
 obtain ⟨p, hp⟩ : ∃ p, p + 1 = nn := ⟨nn - 1, by omega⟩
 obtain ⟨lo, hlo⟩ : ∃ lo, lo = nn - b := ⟨_, rfl⟩
 obtain ⟨hi, hhi⟩ : ∃ hi, hi = mid := ⟨_, rfl⟩
 have f1 : lo ≤ hi ∧ a ≤ lo ∧ hi ≤ m ∧ hi ≤ mid ∧ nn ≤ lo + b ∧ (lo = a ∨ lo + b = nn) ∧ (hi = m ∨ hi = mid) ∧ a < mid ∧ mid < b := by omega
 obtain ⟨l, hle⟩ : ∃ l, A ++ U ++ V ++ B = l := ⟨_, rfl⟩
 have hlu : ∀ i, i < U.length → l[a + i]? = U[i]? := by
  subst hle; intro i hi
  rw [List.getElem?_append_left (by simp; omega), List.getElem?_append_left (by simp; omega), List.getElem?_append_right (by omega)]
  congr 1; omega
 have hlv : ∀ i, i < V.length → l[m + i]? = V[i]? := by
  subst hle; intro i hi
  rw [List.getElem?_append_left (by simp; omega), List.getElem?_append_right (by simp; omega)]
  congr 1
  simp; omega
 obtain ⟨T, hT⟩ : ∃ T, A ++ mrg lt U V ++ B = T := ⟨_, rfl⟩
 have FIN : Hid (∀ s, lo ≤ s → s ≤ hi → (s = lo ∨ (lo < s ∧ ∃ x y, U[s - 1 - a]? = some x ∧ V[p - (s - 1) - m]? = some y ∧ lt y x = false)) → (s = hi ∨ ∃ x y, U[s - a]? = some x ∧ V[p - s - m]? = some y ∧ lt y x = true) → ∀ e, s + e = nn → (m ≤ e ∧ e ≤ b ∧ (m < e ↔ s < mid) ∧ (mid < e ↔ s < m)) ∧ ∃ l2 l3 : List El, Hid (s < m ∧ m < e → ∀ w, Did g W l w → Calls Tryz.prog 148 #[rowV g n cap, .int .i64 (s : Int), .int .i64 (m : Int), .int .i64 (e : Int), cmpV] w fun r w' => r = .returned (.tuple #[]) ∧ Did g W l2 w') ∧ Hid (¬ (s < m ∧ m < e) → l = l2) ∧
   Hid (a < s ∧ s < mid → ∀ w, Did g W l2 w → Calls Tryz.prog 121 #[rowV g n cap, .int .i64 (a : Int), .int .i64 (s : Int), .int .i64 (mid : Int), cmpV] w fun r w' => r = .returned (.tuple #[]) ∧ Did g W l3 w') ∧ Hid (¬ (a < s ∧ s < mid) → l2 = l3) ∧
   Hid (mid < e ∧ e < b → ∀ w, Did g W l3 w → Calls Tryz.prog 121 #[rowV g n cap, .int .i64 (mid : Int), .int .i64 (e : Int), .int .i64 (b : Int), cmpV] w fun r w' => r = .returned (.tuple #[]) ∧ Did g W T w') ∧ Hid (¬ (mid < e ∧ e < b) → l3 = T)) := by
  intro s s1 s2 s3 s4 e he
  have C := cut_of (A := A) (B := B) hU hV ha hm hb hnn hp he s1 s2 (by omega) (by omega) (by omega) (by omega) (by omega) (by omega) s3 s4
  have := steps_of (W := W) C HR hl ho hU hV hn ha hm hb hu hv (by omega) (by omega) (by omega) (by omega) (by omega) (by omega)
  rw [hle, hT] at this
  exact ⟨⟨by omega, by omega, by omega, by omega⟩, this⟩
 rw [hT]
 rw [hle] at h ho hn
 have H0 := Hid.mk (Did.refl h)
 have HL : Hid ((∀ e ∈ l, e.ok) ∧ l.length = n ∧ A.length = a ∧ a + U.length = m ∧ m + V.length = b ∧ (∀ i, i < U.length → l[a + i]? = U[i]?) ∧ (∀ i, i < V.length → l[m + i]? = V[i]?) ∧ mid + m = nn ∧ p + 1 = nn) := ⟨ho, hn, ha, hm, hb, hlu, hlv, hnn, hp⟩
 have hma2 : IntKind.i64.wrap ((m : Int) - (a : Int)) = ((m - a : Nat) : Int) := by rw [IntKind.wrap_i64]; omega
 have hma3 : (((m - a : Nat) : Int) == 1) = false := by simp; omega
 have hbm2 : IntKind.i64.wrap ((b : Int) - (m : Int)) = ((b - m : Nat) : Int) := by rw [IntKind.wrap_i64]; omega
 have hbm3 : (((b - m : Nat) : Int) == 1) = false := by simp; omega
 generalize m - a = ma at hma2 hma3
 generalize b - m = bm at hbm2 hbm3
 obtain ⟨ab, hab⟩ : ∃ ab, a + b = ab := ⟨_, rfl⟩
 have hq := halves a b mid hmid (by omega)
 rw [hab] at hq
 obtain ⟨q1, q2, q3, q4, q5⟩ := hq
 have wnn : IntKind.i64.wrap ((mid : Int) + (m : Int)) = (nn : Int) := by rw [IntKind.wrap_i64]; omega
 have wp : IntKind.i64.wrap ((nn : Int) - 1) = (p : Int) := by rw [IntKind.wrap_i64]; omega
 have wlo : IntKind.i64.wrap ((nn : Int) - (b : Int)) = ((nn - b : Nat) : Int) ∨ nn < b := by by_cases c : nn < b; exact .inr c; left; rw [IntKind.wrap_i64]; omega
 have hwz : (mid : Int) < (m : Int) := by omega
 have hwlo : IntKind.i64.wrap ((nn : Int) - (b : Int)) = (lo : Int) := by rw [IntKind.wrap_i64]; omega
 have HHI := Hid.mk hhi
 have HW := Hid.mk hw
 clear hlo hhi
 have HF1 := Hid.mk f1
 have ham0 : a < m := by omega
 have hnl : nn ≤ 3000 := by omega
 clear h ho hn ha hm hb hlu hlv hle hU hV hT hu hv HR hnn hp hab hmid hw wlo f1
 go_enter Tryz.func121, Tryz.ntmps121
 go_wp2
 go_loopw [20, 21] (fun sv rv wr => ∃ s r : Nat, sv = .int .i64 (s : Int) ∧ rv = .int .i64 (r : Int) ∧ lo ≤ s ∧ s ≤ r ∧ r ≤ hi ∧ Hid ((s = lo ∨ (lo < s ∧ ∃ x y, U[s - 1 - a]? = some x ∧ V[p - (s - 1) - m]? = some y ∧ lt y x = false)) ∧ (r = hi ∨ ∃ x y, U[r - a]? = some x ∧ V[p - r - m]? = some y ∧ lt y x = true) ∧ Did g W l wr)) (fun sv rv _ => (intOf rv).toNat - (intOf sv).toNat)
 case atStart => exact ⟨lo, hi, rfl, by rw [HHI.out], Nat.le_refl _, HF1.out.1, Nat.le_refl _, .inl rfl, .inl rfl, H0.out⟩
 case round =>
  obtain ⟨s, r, rfl, rfl, hls, hsr, hrh, HD⟩ := hrel
  by_cases hlt : s < r
  ·have hlz : (s : Int) < (r : Int) := by omega
   obtain ⟨hd1, hd2, hd⟩ := HD.out
   obtain ⟨ho, hn, ha, hm, hb, hlu, hlv, hnn, hp⟩ := HL.out
   have f1 := HF1.out
   obtain ⟨cc, hcc⟩ : ∃ cc, (s + r) / 2 = cc := ⟨_, rfl⟩
   obtain ⟨sr, hsre⟩ : ∃ sr, s + r = sr := ⟨_, rfl⟩
   have hv := halves s r cc hcc (by omega)
   rw [hsre] at hv
   obtain ⟨v1, v2, v3, v4, v5⟩ := hv
   have hcb : s ≤ cc ∧ cc < r := by omega
   obtain ⟨pc, hpc⟩ : ∃ pc, p - cc = pc := ⟨_, rfl⟩
   have wpc : IntKind.i64.wrap ((p : Int) - (cc : Int)) = (pc : Int) := by rw [IntKind.wrap_i64]; omega
   obtain ⟨K, cx, cp, KD, KI, kd, kb, HS2, HC⟩ := two_held (g := g) (W := W) (l := l) (p := pc) (q := cc) (by omega) (by omega) ho
   have eu : U[cc - a]? = some (l[cc]'(by omega)) := by
    rw [← hlu (cc - a) (by omega), show a + (cc - a) = cc by omega]; exact List.getElem?_eq_getElem _
   have ev : V[p - cc - m]? = some (l[pc]'(by omega)) := by
    rw [← hlv (p - cc - m) (by omega), show m + (p - cc - m) = pc by omega]; exact List.getElem?_eq_getElem _
   obtain ⟨x, hx⟩ : ∃ x, l[cc]'(by omega) = x := ⟨_, rfl⟩
   obtain ⟨y, hy⟩ : ∃ y, l[pc]'(by omega) = y := ⟨_, rfl⟩
   rw [hx] at HC eu
   rw [hy] at HC ev
   obtain ⟨c, hc⟩ : ∃ c, cmpN y.ls x.ls = c := ⟨_, rfl⟩
   rw [hc] at HC
   have HF : Hid (cmpN y.ls x.ls = c ∧ U[cc - a]? = some x ∧ V[p - cc - m]? = some y ∧ (s = lo ∨ (lo < s ∧ ∃ x y, U[s - 1 - a]? = some x ∧ V[p - (s - 1) - m]? = some y ∧ lt y x = false)) ∧ (r = hi ∨ ∃ x y, U[r - a]? = some x ∧ V[p - r - m]? = some y ∧ lt y x = true)) := ⟨hc, eu, ev, hd1, hd2⟩
   have cz : (cc : Int) < (n : Int) := by omega
   have pz : (pc : Int) < (n : Int) := by omega
   have hK := KI.out _ hd
   have hS0 := HS2.out _ hK
   have hcn : cc < 1000 := by omega
   clear hx hy hc hd1 hd2 hd HD ho hn ha hm hb hlu hlv eu ev hcc hsre hnn hp f1 hpc
   by_cases hcz : c < 0
   ·have hcd : decide (c < 0) = true := decide_eq_true hcz
    go_wp2_with fail
    go_region_held3 (fun w => K w ∧ (stLoad (.pointer (some ⟨g, pc * 6, none⟩))).run Tryz.prog w = .ok (.agg cx) w ∧ (stLoad (.pointer (some ⟨g, cc * 6, none⟩))).run Tryz.prog w = .ok (.agg cp) w)
     (first | assumption | (apply HS2.out; repeat (first | assumption | apply kd.out)))
     ((go_at_call 56; refine (HC.out _).mono ?_; rintro e w2 ⟨rfl, hb2⟩; have K2 := kb.out _ _ (by repeat (first | assumption | apply kd.out)) hb2; have hs2 := HS2.out _ K2))
    have HG : Hid ((s = lo ∨ (lo < s ∧ ∃ x y, U[s - 1 - a]? = some x ∧ V[p - (s - 1) - m]? = some y ∧ lt y x = false)) ∧ (cc = hi ∨ ∃ x y, U[cc - a]? = some x ∧ V[p - cc - m]? = some y ∧ lt y x = true) ∧ Did g W l w2) := by
     obtain ⟨g1, g2, g3, g4, g5⟩ := HF.out
     exact ⟨g4, .inr ⟨x, y, g2, g3, lt_true.2 (by rw [g1]; exact hcz)⟩, KD.out _ K2⟩
    clear hs2 hS0
    go_wp2
    go_roundw
    case rel => exact ⟨s, cc, rfl, rfl, by omega, by omega, by omega, HG⟩
    case measure => simp [intOf]; omega
   ·have hcd : decide (c < 0) = false := decide_eq_false hcz
    go_wp2_with fail
    go_region_held3 (fun w => K w ∧ (stLoad (.pointer (some ⟨g, pc * 6, none⟩))).run Tryz.prog w = .ok (.agg cx) w ∧ (stLoad (.pointer (some ⟨g, cc * 6, none⟩))).run Tryz.prog w = .ok (.agg cp) w)
     (first | assumption | (apply HS2.out; repeat (first | assumption | apply kd.out)))
     ((go_at_call 56; refine (HC.out _).mono ?_; rintro e w2 ⟨rfl, hb2⟩; have K2 := kb.out _ _ (by repeat (first | assumption | apply kd.out)) hb2; have hs2 := HS2.out _ K2))
    have HG : Hid ((cc + 1 = lo ∨ (lo < cc + 1 ∧ ∃ x y, U[cc + 1 - 1 - a]? = some x ∧ V[p - (cc + 1 - 1) - m]? = some y ∧ lt y x = false)) ∧ (r = hi ∨ ∃ x y, U[r - a]? = some x ∧ V[p - r - m]? = some y ∧ lt y x = true) ∧ Did g W l w2) := by
     obtain ⟨g1, g2, g3, g4, g5⟩ := HF.out
     exact ⟨.inr ⟨by omega, x, y, by rw [Nat.add_sub_cancel]; exact g2, by rw [Nat.add_sub_cancel]; exact g3, lt_false.2 (by have := cmpN_nt y.ls x.ls; omega)⟩, g5, KD.out _ K2⟩
    have wh : IntKind.i64.wrap ((cc : Int) + 1) = ((cc + 1 : Nat) : Int) := by rw [IntKind.wrap_i64]; omega
    clear hs2 hS0
    go_wp2
    go_roundw
    case rel => exact ⟨cc + 1, r, by first | rfl | go_num, rfl, by omega, by omega, by omega, HG⟩
    case measure => simp [intOf]; omega
  ·obtain rfl : s = r := by omega
   obtain ⟨e, he⟩ : ∃ e, s + e = nn := ⟨nn - s, by have := HF1.out; have := HL.out; omega⟩
   obtain ⟨⟨k1, k2, k3, k4⟩, l2, l3, R1, R2, S1, S2, S3, S4⟩ := FIN.out s hls hrh HD.out.1 HD.out.2.1 e he
   have HDD := Hid.mk HD.out.2.2
   have we : IntKind.i64.wrap ((nn : Int) - (s : Int)) = (e : Int) := by rw [IntKind.wrap_i64]; omega
   have hsm : s ≤ m := by have := HF1.out; omega
   have hsi : s ≤ mid := by have := HF1.out; omega
   have has : a ≤ s := by have := HF1.out; omega
   have hwm : mid < m := HW.out
   clear FIN H0 HL HF1 HD he
   by_cases c0 : s < m
   ·by_cases c1 : m < e
    ·by_cases c2 : a < s
     ·by_cases c3 : e < b
      ·have zsm : (s : Int) < (m : Int) := by omega
       have zme : (m : Int) < (e : Int) := by omega
       have zas : (a : Int) < (s : Int) := by omega
       have zsmid : (s : Int) < (mid : Int) := by omega
       have zmide : (mid : Int) < (e : Int) := by omega
       have zeb : (e : Int) < (b : Int) := by omega
       clear k3 k4
       have C1 := Hid.mk (R1.out ⟨by omega, by omega⟩ _ HDD.out)
       clear R2
       go_wp2_with fail
       refine C1.out.mono ?_
       rintro _ w1 ⟨rfl, hw1⟩
       have hd1 := Hid.mk hw1
       clear hw1 C1
       have C2 := Hid.mk (S1.out ⟨by omega, by omega⟩ _ hd1.out)
       go_wp2_with fail
       refine C2.out.mono ?_
       rintro _ w2 ⟨rfl, hw2⟩
       have hd2 := Hid.mk hw2
       clear hw2 C2
       have C3 := Hid.mk (S3.out ⟨by omega, by omega⟩ _ hd2.out)
       go_wp2_with fail
       refine C3.out.mono ?_
       rintro _ w3 ⟨rfl, hw3⟩
       have hd3 := Hid.mk hw3
       clear hw3 C3
       go_wp2
       exact bodyPost_end (results_none rfl _ _ _) rfl ⟨rfl, hd3.out⟩
      ·have zsm : (s : Int) < (m : Int) := by omega
       have zme : (m : Int) < (e : Int) := by omega
       have zas : (a : Int) < (s : Int) := by omega
       have zsmid : (s : Int) < (mid : Int) := by omega
       have zmide : (mid : Int) < (e : Int) := by omega
       have zeb : ¬ (e : Int) < (b : Int) := by omega
       clear k3 k4
       have C1 := Hid.mk (R1.out ⟨by omega, by omega⟩ _ HDD.out)
       clear R2
       go_wp2_with fail
       refine C1.out.mono ?_
       rintro _ w1 ⟨rfl, hw1⟩
       have hd1 := Hid.mk hw1
       clear hw1 C1
       have C2 := Hid.mk (S1.out ⟨by omega, by omega⟩ _ hd1.out)
       go_wp2_with fail
       refine C2.out.mono ?_
       rintro _ w2 ⟨rfl, hw2⟩
       have hd2 := Hid.mk hw2
       clear hw2 C2
       have hd3 := Hid.mk (S4.out (by omega) ▸ hd2.out)
       go_wp2
       exact bodyPost_end (results_none rfl _ _ _) rfl ⟨rfl, hd3.out⟩
     ·by_cases c3 : e < b
      ·have zsm : (s : Int) < (m : Int) := by omega
       have zme : (m : Int) < (e : Int) := by omega
       have zas : ¬ (a : Int) < (s : Int) := by omega
       have zsmid : (s : Int) < (mid : Int) := by omega
       have zmide : (mid : Int) < (e : Int) := by omega
       have zeb : (e : Int) < (b : Int) := by omega
       clear k3 k4
       have C1 := Hid.mk (R1.out ⟨by omega, by omega⟩ _ HDD.out)
       clear R2
       go_wp2_with fail
       refine C1.out.mono ?_
       rintro _ w1 ⟨rfl, hw1⟩
       have hd1 := Hid.mk hw1
       clear hw1 C1
       have hd2 := Hid.mk (S2.out (by omega) ▸ hd1.out)
       have C3 := Hid.mk (S3.out ⟨by omega, by omega⟩ _ hd2.out)
       go_wp2_with fail
       refine C3.out.mono ?_
       rintro _ w3 ⟨rfl, hw3⟩
       have hd3 := Hid.mk hw3
       clear hw3 C3
       go_wp2
       exact bodyPost_end (results_none rfl _ _ _) rfl ⟨rfl, hd3.out⟩
      ·have zsm : (s : Int) < (m : Int) := by omega
       have zme : (m : Int) < (e : Int) := by omega
       have zas : ¬ (a : Int) < (s : Int) := by omega
       have zsmid : (s : Int) < (mid : Int) := by omega
       have zmide : (mid : Int) < (e : Int) := by omega
       have zeb : ¬ (e : Int) < (b : Int) := by omega
       clear k3 k4
       have C1 := Hid.mk (R1.out ⟨by omega, by omega⟩ _ HDD.out)
       clear R2
       go_wp2_with fail
       refine C1.out.mono ?_
       rintro _ w1 ⟨rfl, hw1⟩
       have hd1 := Hid.mk hw1
       clear hw1 C1
       have hd2 := Hid.mk (S2.out (by omega) ▸ hd1.out)
       have hd3 := Hid.mk (S4.out (by omega) ▸ hd2.out)
       go_wp2
       exact bodyPost_end (results_none rfl _ _ _) rfl ⟨rfl, hd3.out⟩
    ·by_cases c2 : a < s
     ·by_cases c3 : e < b
      ·have zsm : (s : Int) < (m : Int) := by omega
       have zme : ¬ (m : Int) < (e : Int) := by omega
       have zas : (a : Int) < (s : Int) := by omega
       have zsmid : ¬ (s : Int) < (mid : Int) := by omega
       have zmide : (mid : Int) < (e : Int) := by omega
       have zeb : (e : Int) < (b : Int) := by omega
       clear k3 k4
       have hd1 := Hid.mk (R2.out (by omega) ▸ HDD.out)
       clear R2
       have hd2 := Hid.mk (S2.out (by omega) ▸ hd1.out)
       have C3 := Hid.mk (S3.out ⟨by omega, by omega⟩ _ hd2.out)
       go_wp2_with fail
       refine C3.out.mono ?_
       rintro _ w3 ⟨rfl, hw3⟩
       have hd3 := Hid.mk hw3
       clear hw3 C3
       go_wp2
       exact bodyPost_end (results_none rfl _ _ _) rfl ⟨rfl, hd3.out⟩
      ·have zsm : (s : Int) < (m : Int) := by omega
       have zme : ¬ (m : Int) < (e : Int) := by omega
       have zas : (a : Int) < (s : Int) := by omega
       have zsmid : ¬ (s : Int) < (mid : Int) := by omega
       have zmide : (mid : Int) < (e : Int) := by omega
       have zeb : ¬ (e : Int) < (b : Int) := by omega
       clear k3 k4
       have hd1 := Hid.mk (R2.out (by omega) ▸ HDD.out)
       clear R2
       have hd2 := Hid.mk (S2.out (by omega) ▸ hd1.out)
       have hd3 := Hid.mk (S4.out (by omega) ▸ hd2.out)
       go_wp2
       exact bodyPost_end (results_none rfl _ _ _) rfl ⟨rfl, hd3.out⟩
     ·by_cases c3 : e < b
      ·have zsm : (s : Int) < (m : Int) := by omega
       have zme : ¬ (m : Int) < (e : Int) := by omega
       have zas : ¬ (a : Int) < (s : Int) := by omega
       have zsmid : ¬ (s : Int) < (mid : Int) := by omega
       have zmide : (mid : Int) < (e : Int) := by omega
       have zeb : (e : Int) < (b : Int) := by omega
       clear k3 k4
       have hd1 := Hid.mk (R2.out (by omega) ▸ HDD.out)
       clear R2
       have hd2 := Hid.mk (S2.out (by omega) ▸ hd1.out)
       have C3 := Hid.mk (S3.out ⟨by omega, by omega⟩ _ hd2.out)
       go_wp2_with fail
       refine C3.out.mono ?_
       rintro _ w3 ⟨rfl, hw3⟩
       have hd3 := Hid.mk hw3
       clear hw3 C3
       go_wp2
       exact bodyPost_end (results_none rfl _ _ _) rfl ⟨rfl, hd3.out⟩
      ·have zsm : (s : Int) < (m : Int) := by omega
       have zme : ¬ (m : Int) < (e : Int) := by omega
       have zas : ¬ (a : Int) < (s : Int) := by omega
       have zsmid : ¬ (s : Int) < (mid : Int) := by omega
       have zmide : (mid : Int) < (e : Int) := by omega
       have zeb : ¬ (e : Int) < (b : Int) := by omega
       clear k3 k4
       have hd1 := Hid.mk (R2.out (by omega) ▸ HDD.out)
       clear R2
       have hd2 := Hid.mk (S2.out (by omega) ▸ hd1.out)
       have hd3 := Hid.mk (S4.out (by omega) ▸ hd2.out)
       go_wp2
       exact bodyPost_end (results_none rfl _ _ _) rfl ⟨rfl, hd3.out⟩
   ·exfalso; omega
end Go.Proofs.YtdlcldjlfhmlgaaGreatDoor.So
