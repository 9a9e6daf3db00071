/- Layer 12: container/heap's up. -/
import Derived.Test.YtdgkknjmhdmlfaaTiHeap
namespace Go.Proofs.Ytdgkknjmhdmlfaa
set_option linter.unusedVariables false
open Go.RowKit

abbrev ifT (T : Nat) : Value := .iface 72 (pt T)
theorem mLess (T : Nat) (w : World) : (method 204 72 (pt T) "Less").run Try.prog w = .ok (61, pt T) w := by kernel_rfl
theorem mSwap (T : Nat) (w : World) : (method 204 72 (pt T) "Swap").run Try.prog w = .ok (64, pt T) w := by kernel_rfl
theorem mLen (T : Nat) (w : World) : (method 204 72 (pt T) "Len").run Try.prog w = .ok (34, pt T) w := by kernel_rfl
theorem mPush (T : Nat) (w : World) : (method 204 72 (pt T) "Push").run Try.prog w = .ok (63, pt T) w := by kernel_rfl
theorem mPop (T : Nat) (w : World) : (method 204 72 (pt T) "Pop").run Try.prog w = .ok (62, pt T) w := by kernel_rfl
theorem less_A {N : Nat} {w : World} {T M : Nat} {v : Value} {xs : List En} (h : TmA N w T M v xs) (i j : Nat) (hi : i < xs.length) (hj : j < xs.length) :
    Calls Try.prog 61 #[pt T, .int .i64 (i : Int), .int .i64 (j : Int)] w fun e w' => e = .returned (.bool (decide (lt (A xs i) (A xs j)))) ∧ Below w.heap.size w w' := by
  rw [A_lt hi, A_lt hj]
  exact less_in h i j hi hj

set_option maxRecDepth 100000 in
set_option maxHeartbeats 4000000 in
theorem up_in {N : Nat} {w : World} {T M : Nat} {v : Value} {xs : List En} (h : TmA N w T M v xs) (n j : Nat) (hj : j < n) (hn : n ≤ xs.length) (hU : UpI xs n j) :
    Calls Try.prog 42 #[ifT T, .int .i64 (j : Int)] w fun r w' => r = .returned (.tuple #[]) ∧ ∃ ys, TmA N w' T M v ys ∧ Sw xs ys n ∧ Hp ys n ∧ Fr N w w' := by
  have HL : Hid (xs.length ≤ 1000) := h.len
  have H0 := Hid.mk (And.intro h (And.intro hj (And.intro hn hU)))
  clear h hj hn hU
  go_enter Try.func42, Try.ntmps42
  go_wp2
  go_loopw [1] (fun jv wr => ∃ (k : Nat) (ys : List En), jv = .int .i64 (k : Int) ∧ k < n ∧ n ≤ ys.length ∧ TmA N wr T M v ys ∧ Sw xs ys n ∧ UpI ys n k ∧ Fr N w wr) (fun jv _ => (intOf jv).toNat)
  case atStart => exact ⟨j, xs, rfl, H0.out.2.1, H0.out.2.2.1, H0.out.1, Sw.refl _ _, H0.out.2.2.2, Fr.refl _ _⟩
  case round =>
    obtain ⟨k, ys, rfl, hk, hny, hT, hS, hI, hF⟩ := hrel
    have hk1000 : k < 1000 := by have := HL.out; have := hS.len; omega
    by_cases hk0 : k = 0
    · subst hk0
      have HR : Hid (∃ ys, TmA N wr T M v ys ∧ Sw xs ys n ∧ Hp ys n ∧ Fr N w wr) := ⟨ys, hT, hS, hI.done (.inl rfl), hF⟩
      clear hT hS hI hF hny
      go_wp2
      go_end0
      exact ⟨rfl, HR.out⟩
    · obtain ⟨p, hp⟩ : ∃ p, par k = p := ⟨_, rfl⟩
      have hpk : p < k := by rw [← hp]; unfold par; omega
      have hdv : ((k : Int) - 1).tdiv 2 = (p : Int) := by
        rw [← hp]; unfold par
        rw [Int.tdiv_eq_ediv_of_nonneg (by omega)]
        omega
      have hne : ((p : Int) == (k : Int)) = false := by simp; omega
      have HLs := Hid.mk (less_A hT k p (by omega) (by omega))
      obtain ⟨b, hb⟩ : ∃ b, decide (lt (A ys k) (A ys p)) = b := ⟨_, rfl⟩
      rw [hb] at HLs
      have HI := Hid.mk (And.intro hT (And.intro hS (And.intro hI (And.intro hF (And.intro hny (And.intro hb hp))))))
      clear hT hS hI hF hny hb hp
      have hml := mLess T
      have hms := mSwap T
      go_wp2_with fail
      refine HLs.out.mono ?_
      rintro e w1 ⟨rfl, b1⟩
      obtain ⟨hT, hS, hI, hF, hny, hb, hp⟩ := HI.out
      have hT1 := hT.blk b1
      have hF1 : Fr N w w1 := hF.trans (Fr.below b1 hT.base)
      cases b with
      | false =>
        have hnl : ¬ lt (A ys k) (A ys p) := of_decide_eq_false hb
        have HR : Hid (∃ ys, TmA N w1 T M v ys ∧ Sw xs ys n ∧ Hp ys n ∧ Fr N w w1) := ⟨ys, hT1, hS, hI.done (.inr (by rw [hp]; exact hnl)), hF1⟩
        clear hT hS hI hF hny hb hp hT1 hF1 b1 hnl HI
        go_wp2
        go_end0
        exact ⟨rfl, HR.out⟩
      | true =>
        have hyl : lt (A ys k) (A ys p) := of_decide_eq_true hb
        have HSw := Hid.mk (swap_in hT1 p k (by omega) (by omega))
        have HJ : Hid (Sw xs (sw ys p k) n ∧ UpI (sw ys p k) n p ∧ Fr N w w1 ∧ n ≤ ys.length) := by
          subst hp
          exact ⟨hS.trans (Sw.swap (by omega) hk hny), hI.step (by omega) hk hny hyl, hF1, hny⟩
        clear hT hS hI hF hny hb hp hT1 hF1 b1 hyl HI
        go_wp2_with fail
        refine HSw.out.mono ?_
        rintro e w2 ⟨rfl, t2, f2⟩
        have HK : Hid (TmA N w2 T M v (sw ys p k) ∧ Fr N w w2) := ⟨t2, HJ.out.2.2.1.trans f2⟩
        clear t2 f2
        go_wp2
        go_roundw
        case rel => exact ⟨p, sw ys p k, rfl, by omega, by rw [sw_len]; exact HJ.out.2.2.2, HK.out.1, HJ.out.1, HJ.out.2.1, HK.out.2⟩
        case measure => simp [intOf]; omega

end Go.Proofs.Ytdgkknjmhdmlfaa
