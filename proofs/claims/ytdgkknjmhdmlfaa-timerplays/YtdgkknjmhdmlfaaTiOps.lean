/- Layer 12: container/heap's Push, Fix, Remove, Pop over a timer's plan. -/
import Derived.Test.YtdgkknjmhdmlfaaTiDown
namespace Go.Proofs.Ytdgkknjmhdmlfaa
set_option linter.unusedVariables false
open Go.RowKit

theorem UpI.push {xs : List En} (h : Hp xs xs.length) (e : En) : UpI (xs ++ [e]) (xs.length + 1) xs.length := by
  have hA : ∀ k, k < xs.length → A (xs ++ [e]) k = A xs k := fun k hk => by
    unfold A
    simp [List.getD, List.getElem?_append_left hk]
  refine ⟨fun k k0 kn kj => ?_, fun c c0 cn pc j0 => ?_⟩
  · have hp : par k < k := by unfold par; omega
    rw [hA k (by omega), hA _ (by omega)]
    exact h k k0 (by omega)
  · unfold par at pc
    omega

set_option maxRecDepth 100000 in
theorem hpush_in {N : Nat} {w : World} {T M : Nat} {v : Value} {xs : List En} (h : TmA N w T M v xs) (hh : Hp xs xs.length) (e : En) (hk : ∀ x ∈ xs, x.1 ≠ e.1) (w1 : W64 e.1) (w2 : W64 e.2) (hl : xs.length < 1000) :
    Calls Try.prog 30 #[ifT T, .iface 74 (.agg #[.int .i64 e.1, .int .i64 e.2])] w fun r w' => r = .returned (.tuple #[]) ∧ ∃ M v ys, TmA N w' T M v ys ∧ ys.Perm (e :: xs) ∧ Hp ys ys.length ∧ Fr N w w' := by
  have HP := Hid.mk (push_in h e hk w1 w2 hl)
  have hmp := mPush T
  have hml := mLen T
  have HU := Hid.mk (UpI.push hh e)
  clear h hh hk w1 w2
  go_enter Try.func30, Try.ntmps30
  go_wp2_with fail
  refine HP.out.mono ?_
  rintro r w1 ⟨rfl, ⟨v', t1⟩, f1⟩
  have HL := Hid.mk (plen_in t1)
  rw [show (xs ++ [e]).length = xs.length + 1 by simp] at HL
  have HUp := Hid.mk (up_in t1 (xs.length + 1) xs.length (by omega) (by simp) HU.out)
  have HF := Hid.mk f1
  clear t1 f1
  obtain ⟨n, hn⟩ : ∃ n, xs.length = n := ⟨_, rfl⟩
  rw [hn] at HL HUp hl
  go_wp2_with fail
  refine HL.out.mono ?_
  rintro r w2 ⟨rfl, rfl⟩
  go_wp2_with fail
  refine HUp.out.mono ?_
  rintro r w3 ⟨rfl, ys, t3, s3, h3, f3⟩
  have HR : Hid (∃ M v ys, TmA N w3 T M v ys ∧ ys.Perm (e :: xs) ∧ Hp ys ys.length ∧ Fr N w w3) := by
    refine ⟨M, v', ys, t3, s3.perm.trans ?_, ?_, HF.out.trans f3⟩
    · exact List.perm_append_comm
    · rw [s3.len, List.length_append, hn]; exact h3
  clear t3 s3 h3 f3
  go_wp2
  go_end0
  exact ⟨rfl, HR.out⟩

set_option maxRecDepth 100000 in
theorem hfix_in {N : Nat} {w : World} {T M : Nat} {v : Value} {xs : List En} (h : TmA N w T M v xs) (i : Nat) (hi : i < xs.length) (hI : DnI xs xs.length i i) :
    Calls Try.prog 31 #[ifT T, .int .i64 (i : Int)] w fun r w' => r = .returned (.tuple #[]) ∧ ∃ M v ys, TmA N w' T M v ys ∧ ys.Perm xs ∧ Hp ys ys.length ∧ Fr N w w' := by
  have hl := h.len
  have HL := Hid.mk (plen_in h)
  have HD := Hid.mk (down_in h xs.length i (by omega) (Nat.le_refl _) hI)
  have hml := mLen T
  clear h hI
  obtain ⟨n, hn⟩ : ∃ n, xs.length = n := ⟨_, rfl⟩
  rw [hn] at HL HD hl hi
  go_enter Try.func31, Try.ntmps31
  go_wp2_with fail
  refine HL.out.mono ?_
  rintro r w1 ⟨rfl, rfl⟩
  go_wp2_with fail
  refine HD.out.mono ?_
  rintro r w2 ⟨b, ys, rfl, t2, s2, f2, hy, hno⟩
  have e2 := s2.len
  cases b with
  | true =>
    have HR : Hid (∃ M v ys, TmA N w2 T M v ys ∧ ys.Perm xs ∧ Hp ys ys.length ∧ Fr N w1 w2) := ⟨M, v, ys, t2, s2.perm, by rw [e2, hn]; exact hy rfl, f2⟩
    clear t2 s2 f2 hy hno e2
    go_wp2
    go_end0
    exact ⟨rfl, HR.out⟩
  | false =>
    have HUp := Hid.mk (up_in t2 n i hi (by omega) (hno rfl))
    have HK := Hid.mk (And.intro s2 f2)
    clear t2 s2 f2 hy hno e2
    go_wp2_with fail
    refine HUp.out.mono ?_
    rintro r w3 ⟨rfl, zs, t3, s3, h3, f3⟩
    have HR : Hid (∃ M v ys, TmA N w3 T M v ys ∧ ys.Perm xs ∧ Hp ys ys.length ∧ Fr N w1 w3) := ⟨M, v, zs, t3, s3.perm.trans HK.out.1.perm, by rw [s3.len, HK.out.1.len, hn]; exact h3, HK.out.2.trans f3⟩
    clear t3 s3 h3 f3
    go_wp2
    go_end0
    exact ⟨rfl, HR.out⟩

/-- the last entry of a list. -/
theorem snoc_of {ys : List En} {n : Nat} (h : ys.length = n + 1) : ys = ys.take n ++ [A ys n] := by
  rw [A_lt (by omega)]
  have := List.take_append_drop n ys
  rw [List.drop_eq_getElem_cons (by omega), List.drop_of_length_le (by omega)] at this
  exact this.symm
theorem A_take {ys : List En} {n k : Nat} (h : k < n) : A (ys.take n) k = A ys k := by
  unfold A
  simp [List.getD, h]
theorem Hp.take {ys : List En} {n : Nat} (h : Hp ys n) : Hp (ys.take n) n := fun k k0 kn => by
  have hp : par k < k := by unfold par; omega
  rw [A_take kn, A_take (by omega)]
  exact h k k0 kn

/-- what is left where the entry at i is taken away. -/
theorem DnI.swap {xs : List En} {n i : Nat} (h : Hp xs xs.length) (hn : xs.length = n + 1) (hi : i < n) : DnI (sw xs i n) n i i := by
  have e : ∀ k, k ≠ i → k < n → A (sw xs i n) k = A xs k := fun k hk hkn => by rw [A_sw _ (by omega) (by omega), if_neg (by omega), if_neg hk]
  refine ⟨fun k k0 kn k1 k2 => ?_, fun c c0 cn pc i0 => ?_, fun x => absurd rfl x, Nat.le_refl _⟩
  · have hp : par k < k := by unfold par; omega
    rw [e k k1 kn, e _ k2 (by omega)]
    exact h k k0 (by omega)
  · have hci : i < c := by unfold par at pc; omega
    have hpi : par i < i := by unfold par; omega
    rw [e c (by omega) cn, e _ (by omega) (by omega)]
    have e1 := h c c0 (by omega)
    rw [pc] at e1
    exact le_trans (h i i0 (by omega)) e1

theorem pop_at {N : Nat} {w : World} {T M : Nat} {v : Value} {ys : List En} {n : Nat} (h : TmA N w T M v ys) (hl : ys.length = n + 1) :
    Calls Try.prog 62 #[pt T] w fun r w' => r = .returned (.iface 74 (.agg #[.int .i64 (A ys n).1, .int .i64 (A ys n).2])) ∧ (∃ v', TmA N w' T M v' (ys.take n)) ∧ Fr N w w' := by
  have := snoc_of hl
  rw [this] at h
  exact pop_in h
theorem left_of {xs ys : List En} {n : Nat} (hp : ys.Perm xs) (hl : ys.length = n + 1) : (A ys n :: ys.take n).Perm xs := by
  have e := snoc_of hl
  have : (A ys n :: ys.take n).Perm ys := by
    conv => rhs; rw [e]
    exact List.perm_append_comm (l₁ := [A ys n]) (l₂ := ys.take n)
  exact this.trans hp
theorem take_len {ys : List En} {n : Nat} (hl : ys.length = n + 1) : (ys.take n).length = n := by simp; omega

set_option maxRecDepth 100000 in
set_option maxHeartbeats 1000000 in
theorem hremove_in {N : Nat} {w : World} {T M : Nat} {v : Value} {xs : List En} (h : TmA N w T M v xs) (hh : Hp xs xs.length) (i : Nat) (hi : i < xs.length) :
    Calls Try.prog 33 #[ifT T, .int .i64 (i : Int)] w fun r w' => r = .returned (.iface 74 (.agg #[.int .i64 (A xs i).1, .int .i64 (A xs i).2])) ∧ ∃ M v ys, TmA N w' T M v ys ∧ (A xs i :: ys).Perm xs ∧ Hp ys ys.length ∧ Fr N w w' := by
  obtain ⟨n, hn⟩ : ∃ n, xs.length = n + 1 := ⟨xs.length - 1, by omega⟩
  have hl := h.len
  have HL := Hid.mk (plen_in h)
  rw [hn] at HL hl hi
  have hml := mLen T
  have hms := mSwap T
  have hmp := mPop T
  obtain ⟨E, hE⟩ : ∃ E, A xs i = E := ⟨_, rfl⟩
  rw [hE]
  by_cases hin : n = i
  · subst hin
    have HP := Hid.mk (pop_at h hn)
    rw [hE] at HP
    have HX : Hid ((E :: xs.take n).Perm xs ∧ Hp (xs.take n) n) := ⟨by rw [← hE]; exact left_of (List.Perm.refl _) hn, (hh.mono (by omega)).take⟩
    clear h hh hE
    have hne : ((n : Int) != (n : Int)) = false := by simp
    go_enter Try.func33, Try.ntmps33
    go_wp2_with fail
    refine HL.out.mono ?_
    rintro r w1 ⟨rfl, rfl⟩
    go_wp2_with fail
    refine HP.out.mono ?_
    rintro r w2 ⟨rfl, ⟨v', t2⟩, f2⟩
    have HR : Hid (∃ M v ys, TmA N w2 T M v ys ∧ (E :: ys).Perm xs ∧ Hp ys ys.length ∧ Fr N w1 w2) := ⟨M, v', xs.take n, t2, HX.out.1, by rw [take_len hn]; exact HX.out.2, f2⟩
    clear t2 f2
    go_wp2
    go_ret
    exact ⟨rfl, HR.out⟩
  · have hin' : i < n := by omega
    have hne : ((n : Int) != (i : Int)) = true := by simp; omega
    have HS := Hid.mk (swap_in h i n (by omega) (by omega))
    have HX := Hid.mk (And.intro (DnI.swap hh hn hin') (sw_perm xs i n (by omega) (by omega)))
    have hAn : A (sw xs i n) n = E := by rw [A_sw _ (by omega) (by omega), if_pos rfl]; exact hE
    have HA := Hid.mk (And.intro hAn hn)
    clear h hh hE hAn
    go_enter Try.func33, Try.ntmps33
    go_wp2_with fail
    refine HL.out.mono ?_
    rintro r w1 ⟨rfl, rfl⟩
    go_wp2_with fail
    refine HS.out.mono ?_
    rintro r w2 ⟨rfl, t2, f2⟩
    have HD := Hid.mk (down_in t2 n i (by omega) (by rw [sw_len]; omega) HX.out.1)
    have HF2 := Hid.mk f2
    clear t2 f2
    go_wp2_with fail
    refine HD.out.mono ?_
    rintro r w3 ⟨b, ys, rfl, t3, s3, f3, hy, hno⟩
    have hyl : ys.length = n + 1 := by rw [s3.len, sw_len]; exact HA.out.2
    have hyA : A ys n = E := (s3.rest n (Nat.le_refl _)).trans HA.out.1
    cases b with
    | true =>
      have HP := Hid.mk (pop_at t3 hyl)
      rw [hyA] at HP
      have HX2 : Hid ((E :: ys.take n).Perm xs ∧ Hp (ys.take n) n ∧ (ys.take n).length = n ∧ Fr N w1 w3) := ⟨by rw [← hyA]; exact left_of (s3.perm.trans HX.out.2) hyl, (hy rfl).take, take_len hyl, HF2.out.trans f3⟩
      clear t3 s3 f3 hy hno hyl hyA
      go_wp2_with fail
      refine HP.out.mono ?_
      rintro r w4 ⟨rfl, ⟨v', t4⟩, f4⟩
      have HR : Hid (∃ M v ys, TmA N w4 T M v ys ∧ (E :: ys).Perm xs ∧ Hp ys ys.length ∧ Fr N w1 w4) := ⟨M, v', ys.take n, t4, HX2.out.1, by rw [HX2.out.2.2.1]; exact HX2.out.2.1, HX2.out.2.2.2.trans f4⟩
      clear t4 f4
      go_wp2
      go_ret
      exact ⟨rfl, HR.out⟩
    | false =>
      have HUp := Hid.mk (up_in t3 n i hin' (by omega) (hno rfl))
      have HK := Hid.mk (And.intro s3 (And.intro f3 (And.intro hyl hyA)))
      clear t3 s3 f3 hy hno hyl hyA
      go_wp2_with fail
      refine HUp.out.mono ?_
      rintro r w4 ⟨rfl, zs, t4, s4, h4, f4⟩
      obtain ⟨s3, f3, hyl, hyA⟩ := HK.out
      have hzl : zs.length = n + 1 := s4.len.trans hyl
      have hzA : A zs n = E := (s4.rest n (Nat.le_refl _)).trans hyA
      have HP := Hid.mk (pop_at t4 hzl)
      rw [hzA] at HP
      have HX2 : Hid ((E :: zs.take n).Perm xs ∧ Hp (zs.take n) n ∧ (zs.take n).length = n ∧ Fr N w1 w4) := ⟨by rw [← hzA]; exact left_of (s4.perm.trans (s3.perm.trans HX.out.2)) hzl, h4.take, take_len hzl, HF2.out.trans (f3.trans f4)⟩
      clear t4 s4 f4 h4 s3 f3 hyl hyA hzl hzA HK
      go_wp2_with fail
      refine HP.out.mono ?_
      rintro r w5 ⟨rfl, ⟨v', t5⟩, f5⟩
      have HR : Hid (∃ M v ys, TmA N w5 T M v ys ∧ (E :: ys).Perm xs ∧ Hp ys ys.length ∧ Fr N w1 w5) := ⟨M, v', zs.take n, t5, HX2.out.1, by rw [HX2.out.2.2.1]; exact HX2.out.2.1, HX2.out.2.2.2.trans f5⟩
      clear t5 f5
      go_wp2
      go_ret
      exact ⟨rfl, HR.out⟩

set_option maxRecDepth 100000 in
set_option maxHeartbeats 1000000 in
theorem hpop_in {N : Nat} {w : World} {T M : Nat} {v : Value} {xs : List En} (h : TmA N w T M v xs) (hh : Hp xs xs.length) (h0 : 0 < xs.length) :
    Calls Try.prog 35 #[ifT T] w fun r w' => r = .returned (.iface 74 (.agg #[.int .i64 (A xs 0).1, .int .i64 (A xs 0).2])) ∧ ∃ M v ys, TmA N w' T M v ys ∧ (A xs 0 :: ys).Perm xs ∧ Hp ys ys.length ∧ Fr N w w' := by
  obtain ⟨n, hn⟩ : ∃ n, xs.length = n + 1 := ⟨xs.length - 1, by omega⟩
  have hl := h.len
  have HL := Hid.mk (plen_in h)
  rw [hn] at HL hl
  have hml := mLen T
  have hms := mSwap T
  have hmp := mPop T
  obtain ⟨E, hE⟩ : ∃ E, A xs 0 = E := ⟨_, rfl⟩
  rw [hE]
  have HS := Hid.mk (swap_in h 0 n (by omega) (by omega))
  have hDI : DnI (sw xs 0 n) n 0 0 := by
    by_cases h1 : 0 < n
    · exact DnI.swap hh hn h1
    · exact ⟨fun k k0 kn => by omega, fun c c0 cn => by omega, fun x => absurd rfl x, Nat.le_refl _⟩
  have HX := Hid.mk (And.intro hDI (sw_perm xs 0 n (by omega) (by omega)))
  have hAn : A (sw xs 0 n) n = E := by rw [A_sw _ (by omega) (by omega), if_pos rfl]; exact hE
  have HA := Hid.mk (And.intro hAn hn)
  clear h hh hE hAn hDI
  go_enter Try.func35, Try.ntmps35
  go_wp2_with fail
  refine HL.out.mono ?_
  rintro r w1 ⟨rfl, rfl⟩
  go_wp2_with fail
  refine HS.out.mono ?_
  rintro r w2 ⟨rfl, t2, f2⟩
  have HD := Hid.mk (down_in t2 n 0 (by omega) (by rw [sw_len]; omega) HX.out.1)
  have HF2 := Hid.mk f2
  clear t2 f2
  go_wp2_with fail
  refine HD.out.mono ?_
  rintro r w3 ⟨b, ys, rfl, t3, s3, f3, hy, hno⟩
  have hyl : ys.length = n + 1 := by rw [s3.len, sw_len]; exact HA.out.2
  have hyA : A ys n = E := (s3.rest n (Nat.le_refl _)).trans HA.out.1
  have hyh : Hp ys n := by
    cases b with
    | true => exact hy rfl
    | false => exact (hno rfl).done (.inl rfl)
  have HP := Hid.mk (pop_at t3 hyl)
  rw [hyA] at HP
  have HX2 : Hid ((E :: ys.take n).Perm xs ∧ Hp (ys.take n) n ∧ (ys.take n).length = n ∧ Fr N w1 w3) := ⟨by rw [← hyA]; exact left_of (s3.perm.trans HX.out.2) hyl, hyh.take, take_len hyl, HF2.out.trans f3⟩
  clear t3 s3 f3 hy hno hyl hyA hyh
  go_wp2_with fail
  refine HP.out.mono ?_
  rintro r w4 ⟨rfl, ⟨v', t4⟩, f4⟩
  have HR : Hid (∃ M v ys, TmA N w4 T M v ys ∧ (E :: ys).Perm xs ∧ Hp ys ys.length ∧ Fr N w1 w4) := ⟨M, v', ys.take n, t4, HX2.out.1, by rw [HX2.out.2.2.1]; exact HX2.out.2.1, HX2.out.2.2.2.trans f4⟩
  clear t4 f4
  go_wp2
  go_ret
  exact ⟨rfl, HR.out⟩

end Go.Proofs.Ytdgkknjmhdmlfaa
