/- Texts of this proof, joined: CPrime, CField, CJac, CGroup, CAdds, COrder. -/
import Derived.Test.YtpimliebiapnfaaGreatDoorJ5
/- Plain facts on primes: Fermat's little theorem, Pocklington's test, and that the prime of P-256 is one. Nothing here speaks of the program. -/
namespace Go.Proofs.YtpimliebiapnfaaGreatDoor
set_option linter.unusedVariables false
def Pr (p : Nat) : Prop := 2 ≤ p ∧ ∀ d, d ∣ p → d = 1 ∨ d = p
theorem Pr.cop {p a : Nat} (hp : Pr p) (h : ¬ p ∣ a) : Nat.Coprime p a := by
  rcases hp.2 (Nat.gcd p a) (Nat.gcd_dvd_left p a) with e | e
  · exact e
  · exact absurd (e ▸ Nat.gcd_dvd_right p a) h
theorem Pr.mul {p a b : Nat} (hp : Pr p) (h : p ∣ a * b) : p ∣ a ∨ p ∣ b := by
  by_cases ha : p ∣ a
  · exact .inl ha
  · exact .inr ((hp.cop ha).dvd_of_dvd_mul_left h)
theorem Pr.pow {p a : Nat} (hp : Pr p) : ∀ k, p ∣ a ^ k → p ∣ a
  | 0, h => by
    have h1 : p ∣ 1 := by simpa using h
    have := Nat.le_of_dvd Nat.one_pos h1
    have := hp.1
    omega
  | k + 1, h => by
    rw [Nat.pow_succ] at h
    rcases hp.mul h with h | h
    · exact hp.pow k h
    · exact h
def prd : List Nat → Nat
  | [] => 1
  | x :: l => x * prd l
theorem prd_perm {l m : List Nat} (h : l.Perm m) : prd l = prd m := by
  induction h with
  | nil => rfl
  | cons x _ ih => simp [prd, ih]
  | swap x y l => simp only [prd]; rw [← Nat.mul_assoc, ← Nat.mul_assoc, Nat.mul_comm x y]
  | trans _ _ h1 h2 => exact h1.trans h2
theorem perm_of_sub : ∀ (l m : List Nat), l.Nodup → (∀ x ∈ l, x ∈ m) → m.length ≤ l.length → l.Perm m
  | [], m, _, _, h => by
    have : m = [] := by simpa using h
    subst this; exact .nil
  | x :: l, m, hn, hs, h => by
    have hx := hs x (by simp)
    have hn' := List.nodup_cons.1 hn
    have e := List.perm_cons_erase hx
    have ih := perm_of_sub l (m.erase x) hn'.2 (fun y hy => (List.mem_erase_of_ne (fun e : y = x => hn'.1 (e ▸ hy))).2 (hs y (by simp [hy]))) (by
      have := List.length_erase_of_mem hx
      simp at h
      omega)
    exact (ih.cons x).trans e.symm
theorem prd_mul (a p : Nat) : ∀ l : List Nat, prd (l.map fun i => a * i % p) % p = a ^ l.length * prd l % p
  | [] => by simp [prd]
  | x :: l => by
    simp only [List.map_cons, prd, List.length_cons]
    rw [Nat.mul_mod, prd_mul a p l, Nat.mod_mod, ← Nat.mul_mod, Nat.pow_succ]
    congr 1
    simp only [Nat.mul_assoc, Nat.mul_comm, Nat.mul_left_comm]
theorem prd_not {p : Nat} (hp : Pr p) : ∀ l : List Nat, (∀ x ∈ l, ¬ p ∣ x) → ¬ p ∣ prd l
  | [], _, h => by
    have h1 : p ∣ 1 := h
    have := Nat.le_of_dvd Nat.one_pos h1
    have := hp.1
    omega
  | x :: l, hl, h => by
    rcases hp.mul h with h | h
    · exact hl x (by simp) h
    · exact prd_not hp l (fun y hy => hl y (by simp [hy])) h
theorem nodup_map {f : Nat → Nat} : ∀ {l : List Nat}, l.Nodup → (∀ x ∈ l, ∀ y ∈ l, f x = f y → x = y) → (l.map f).Nodup
  | [], _, _ => by simp
  | x :: l, hn, h => by
    have hn' := List.nodup_cons.1 hn
    rw [List.map_cons, List.nodup_cons]
    refine ⟨fun hm => ?_, nodup_map hn'.2 fun a ha b hb => h a (by simp [ha]) b (by simp [hb])⟩
    obtain ⟨y, hy, e⟩ := List.mem_map.1 hm
    exact hn'.1 (h y (by simp [hy]) x (by simp) e ▸ hy)
theorem sub_dvd_mod {p x y : Nat} (h : x % p = y % p) (hle : x ≤ y) : p ∣ y - x := by
  refine ⟨y / p - x / p, ?_⟩
  have e1 := Nat.div_add_mod x p
  have e2 := Nat.div_add_mod y p
  rw [Nat.mul_sub]
  omega
theorem mod_of_sub {p x y : Nat} (h : p ∣ y - x) (hle : x ≤ y) : x % p = y % p := by
  obtain ⟨k, hk⟩ := h
  have : y = x + p * k := by omega
  rw [this, Nat.add_mul_mod_self_left]
theorem cancel {p a x y : Nat} (hp : Pr p) (ha : ¬ p ∣ a) (h : a * x % p = a * y % p) : x % p = y % p := by
  rcases Nat.le_total x y with hle | hle
  · have := sub_dvd_mod h (Nat.mul_le_mul_left a hle)
    rw [← Nat.mul_sub] at this
    exact mod_of_sub ((hp.mul this).resolve_left ha) hle
  · have := sub_dvd_mod h.symm (Nat.mul_le_mul_left a hle)
    rw [← Nat.mul_sub] at this
    exact (mod_of_sub ((hp.mul this).resolve_left ha) hle).symm
theorem fermat {p a : Nat} (hp : Pr p) (ha : ¬ p ∣ a) : a ^ (p - 1) % p = 1 := by
  have h2 := hp.1
  let l := (List.range (p - 1)).map (· + 1)
  have hin : ∀ x ∈ l, 1 ≤ x ∧ x < p := by
    intro x hx
    obtain ⟨y, hy, rfl⟩ := List.mem_map.1 hx
    have := List.mem_range.1 hy
    omega
  have hnd : l.Nodup := nodup_map List.nodup_range fun x _ y _ h => by omega
  have hnot : ∀ x ∈ l, ¬ p ∣ x := fun x hx h => by
    have := Nat.le_of_dvd (by have := hin x hx; omega) h
    have := hin x hx
    omega
  have hlen : l.length = p - 1 := by simp [l]
  have hperm : (l.map fun i => a * i % p).Perm l := by
    refine perm_of_sub _ _ (nodup_map hnd fun x hx y hy h => ?_) (fun z hz => ?_) (by simp)
    · have := cancel hp ha h
      rwa [Nat.mod_eq_of_lt (hin x hx).2, Nat.mod_eq_of_lt (hin y hy).2] at this
    · obtain ⟨x, hx, rfl⟩ := List.mem_map.1 hz
      have hlt := Nat.mod_lt (a * x) (show 0 < p by omega)
      have hpos : a * x % p ≠ 0 := fun h0 => by
        rcases hp.mul (Nat.dvd_of_mod_eq_zero h0) with h | h
        · exact ha h
        · exact hnot x hx h
      refine List.mem_map.2 ⟨a * x % p - 1, List.mem_range.2 (by omega), by omega⟩
  have e1 := prd_mul a p l
  rw [prd_perm hperm, hlen] at e1
  have e2 : prd l * a ^ (p - 1) % p = prd l * 1 % p := by rw [Nat.mul_comm, ← e1, Nat.mul_one]
  have e3 := cancel hp (prd_not hp l hnot) e2
  rwa [Nat.mod_eq_of_lt (show 1 < p by omega)] at e3
theorem pow_gcd {a r : Nat} (hr : 1 < r) (x y : Nat) : a ^ x % r = 1 → a ^ y % r = 1 → a ^ Nat.gcd x y % r = 1 := by
  induction x, y using Nat.gcd.induction with
  | H0 n => intro _ h; simpa using h
  | H1 m n hm ih =>
    intro h1 h2
    rw [Nat.gcd_rec]
    refine ih ?_ h1
    have e : n = m * (n / m) + n % m := (Nat.div_add_mod n m).symm
    have h3 : (a ^ m) ^ (n / m) % r = 1 := by rw [Nat.pow_mod, h1, Nat.one_pow, Nat.mod_eq_of_lt hr]
    rw [e, Nat.pow_add, Nat.pow_mul, Nat.mul_mod, h3, Nat.one_mul, Nat.mod_mod] at h2
    exact h2
theorem pr_dvd : ∀ (k n : Nat), n ≤ k → 2 ≤ n → ∃ r, Pr r ∧ r ∣ n
  | 0, n, h, h2 => by omega
  | k + 1, n, h, h2 => by
    by_cases hp : Pr n
    · exact ⟨n, hp, Nat.dvd_refl n⟩
    · obtain ⟨d, hd, h1, hn⟩ : ∃ d, d ∣ n ∧ d ≠ 1 ∧ d ≠ n := Classical.byContradiction fun hc => hp ⟨h2, fun d hd => by
        by_cases h1 : d = 1
        · exact .inl h1
        · exact .inr (Classical.byContradiction fun hn => hc ⟨d, hd, h1, hn⟩)⟩
      have hle := Nat.le_of_dvd (by omega) hd
      have h0 : d ≠ 0 := fun e => by subst e; simp at hd; omega
      obtain ⟨r, hr, hrd⟩ := pr_dvd k d (by omega) (by omega)
      exact ⟨r, hr, Nat.dvd_trans hrd hd⟩
theorem pr_of_least {n : Nat} (h2 : 2 ≤ n) (h : ∀ r, Pr r → r ∣ n → n < r * r) : Pr n := by
  refine Classical.byContradiction fun hp => ?_
  obtain ⟨d, hd, h1, hn⟩ : ∃ d, d ∣ n ∧ d ≠ 1 ∧ d ≠ n := Classical.byContradiction fun hc => hp ⟨h2, fun d hd => by
    by_cases h1 : d = 1
    · exact .inl h1
    · exact .inr (Classical.byContradiction fun hn => hc ⟨d, hd, h1, hn⟩)⟩
  obtain ⟨e, he⟩ := hd
  have hd0 : d ≠ 0 := fun c => by subst c; simp at he; omega
  have he0 : e ≠ 0 := fun c => by subst c; simp at he; omega
  have he1 : e ≠ 1 := fun c => by subst c; simp at he; exact hn he.symm
  obtain ⟨r, hr, hrd⟩ := pr_dvd d d (Nat.le_refl _) (by omega)
  obtain ⟨s, hs, hse⟩ := pr_dvd e e (Nat.le_refl _) (by omega)
  have a1 := h r hr (he ▸ Nat.dvd_trans hrd (Nat.dvd_mul_right d e))
  have a2 := h s hs (he ▸ Nat.dvd_trans hse (Nat.dvd_mul_left e d))
  have b1 := Nat.le_of_dvd (by omega) hrd
  have b2 := Nat.le_of_dvd (by omega) hse
  have c1 : n < d * d := Nat.lt_of_lt_of_le a1 (Nat.mul_le_mul b1 b1)
  have c2 : n < e * e := Nat.lt_of_lt_of_le a2 (Nat.mul_le_mul b2 b2)
  rw [he] at c1 c2
  have d1 := Nat.lt_of_mul_lt_mul_left c1
  have d2 := Nat.lt_of_mul_lt_mul_right c2
  omega
theorem pock_dvd {N q m a r : Nat} (hq : Pr q) (hN : N - 1 = q * m) (h1 : a ^ (N - 1) % N = 1) (h2 : Nat.gcd (a ^ m % N + (N - 1)) N = 1) (hr : Pr r) (hrN : r ∣ N) (hN2 : 2 ≤ N) : q ∣ r - 1 := by
  have hr2 := hr.1
  have hx : a ^ (N - 1) % r = 1 := by
    have := congrArg (· % r) h1
    simp only [Nat.mod_mod_of_dvd _ hrN] at this
    rwa [Nat.mod_eq_of_lt (show 1 < r by omega)] at this
  have hna : ¬ r ∣ a := fun h => by
    have h0 : N - 1 ≠ 0 := by omega
    have : r ∣ a ^ (N - 1) := by
      obtain ⟨k, hk⟩ : ∃ k, N - 1 = k + 1 := ⟨N - 2, by omega⟩
      rw [hk, Nat.pow_succ]
      exact Nat.dvd_trans h (Nat.dvd_mul_left a _)
    rw [Nat.mod_eq_zero_of_dvd this] at hx
    omega
  have hf := fermat hr hna
  have hg := pow_gcd (a := a) (show 1 < r by omega) _ _ hx hf
  refine Classical.byContradiction fun hc => ?_
  have hcop := hq.cop hc
  rw [hN, Nat.Coprime.gcd_mul_left_cancel m hcop] at hg
  obtain ⟨t, ht⟩ := Nat.gcd_dvd_left m (r - 1)
  have hm : a ^ m % r = 1 := by
    rw [ht, Nat.pow_mul, Nat.pow_mod, hg, Nat.one_pow, Nat.mod_eq_of_lt (by omega)]
  have hd : r ∣ a ^ m % N + (N - 1) := by
    apply Nat.dvd_of_mod_eq_zero
    rw [Nat.add_mod, Nat.mod_mod_of_dvd _ hrN, hm]
    have : (1 + (N - 1) % r) % r = (1 + (N - 1)) % r := by rw [Nat.add_mod 1 (N - 1), Nat.mod_eq_of_lt (show 1 < r by omega)]
    rw [this, show 1 + (N - 1) = N by omega]
    exact Nat.mod_eq_zero_of_dvd hrN
  have := Nat.dvd_gcd hd hrN
  rw [h2] at this
  have := Nat.le_of_dvd (by omega) this
  omega
theorem pock1 {N q m a : Nat} (hq : Pr q) (hN : N - 1 = q * m) (h1 : a ^ (N - 1) % N = 1) (h2 : Nat.gcd (a ^ m % N + (N - 1)) N = 1) (hN2 : 2 ≤ N) (hbig : N < q * q) : Pr N :=
  pr_of_least hN2 fun r hr hrN => by
    have h := pock_dvd hq hN h1 h2 hr hrN hN2
    have hr2 := hr.1
    have := Nat.le_of_dvd (by omega) h
    exact Nat.lt_of_lt_of_le hbig (Nat.mul_le_mul (by omega) (by omega))
theorem pock2 {N q s m k a b : Nat} (hq : Pr q) (hs : Pr s) (hne : q ≠ s) (hN : N - 1 = q * m) (hM : N - 1 = s * k) (h1 : a ^ (N - 1) % N = 1) (h2 : Nat.gcd (a ^ m % N + (N - 1)) N = 1)
    (h3 : b ^ (N - 1) % N = 1) (h4 : Nat.gcd (b ^ k % N + (N - 1)) N = 1) (hN2 : 2 ≤ N) (hbig : N < q * s * (q * s)) : Pr N :=
  pr_of_least hN2 fun r hr hrN => by
    have h := pock_dvd hq hN h1 h2 hr hrN hN2
    have h' := pock_dvd hs hM h3 h4 hr hrN hN2
    have hr2 := hr.1
    have hc : Nat.Coprime q s := hq.cop fun hd => (hs.2 q hd).elim (fun e => by have := hq.1; omega) hne
    have := Nat.le_of_dvd (by omega) (hc.mul_dvd_of_dvd_of_dvd h h')
    exact Nat.lt_of_lt_of_le hbig (Nat.mul_le_mul (by omega) (by omega))
def noDiv (n : Nat) : Nat → Bool
  | 0 => true
  | 1 => true
  | k + 2 => n % (k + 2) != 0 && noDiv n (k + 1)
theorem noDiv_at {n : Nat} : ∀ k, noDiv n k = true → ∀ d, 2 ≤ d → d ≤ k → ¬ d ∣ n
  | 0, _, d, h2, hk => by omega
  | 1, _, d, h2, hk => by omega
  | k + 2, h, d, h2, hk => by
    simp only [noDiv, Bool.and_eq_true, bne_iff_ne, ne_eq] at h
    by_cases e : d = k + 2
    · subst e; exact fun hd => h.1 (Nat.mod_eq_zero_of_dvd hd)
    · exact noDiv_at (k + 1) h.2 d h2 (by omega)
theorem pr_small {n k : Nat} (h2 : 2 ≤ n) (hk : noDiv n k = true) (hb : n < (k + 1) * (k + 1)) : Pr n :=
  pr_of_least h2 fun r hr hd => by
    have : ¬ r ≤ k := fun h => noDiv_at k hk r hr.1 h hd
    exact Nat.lt_of_lt_of_le hb (Nat.mul_le_mul (by omega) (by omega))
def pwm (a n : Nat) : Nat → Nat → Nat
  | 0, e => 1 % n
  | f + 1, e => if e = 0 then 1 % n else
    let h := pwm a n f (e / 2)
    if e % 2 = 0 then h * h % n else h * h % n * a % n
theorem pwm_eq (a n : Nat) : ∀ f e, e < 2 ^ f → pwm a n f e = a ^ e % n
  | 0, e, h => by
    have : e = 0 := by simp at h; omega
    subst this; simp [pwm]
  | f + 1, e, h => by
    rw [pwm]
    split
    · rename_i h0; subst h0; simp
    · rw [pwm_eq a n f (e / 2) (by rw [Nat.pow_succ] at h; omega)]
      simp only
      split
      · rename_i h0
        rw [← Nat.mul_mod, ← Nat.pow_add]
        congr 2
        omega
      · rename_i h0
        rw [← Nat.mul_mod, ← Nat.pow_add, Nat.mod_mul_mod, ← Nat.pow_succ]
        congr 2
        omega
def chk (N q m a : Nat) : Bool := N - 1 == q * m && pwm a N 300 (N - 1) == 1 && Nat.gcd (pwm a N 300 m + (N - 1)) N == 1 && decide (N - 1 < 2 ^ 300) && decide (m < 2 ^ 300) && decide (2 ≤ N)
theorem chk_ok {N q m a : Nat} (h : chk N q m a = true) : N - 1 = q * m ∧ a ^ (N - 1) % N = 1 ∧ Nat.gcd (a ^ m % N + (N - 1)) N = 1 ∧ 2 ≤ N := by
  simp only [chk, Bool.and_eq_true, beq_iff_eq, decide_eq_true_eq] at h
  obtain ⟨⟨⟨⟨⟨h1, h2⟩, h3⟩, h4⟩, h5⟩, h6⟩ := h
  rw [pwm_eq _ _ _ _ h4] at h2
  rw [pwm_eq _ _ _ _ h5] at h3
  exact ⟨h1, h2, h3, h6⟩
theorem pr1 {N q m a : Nat} (hq : Pr q) (h : chk N q m a = true) (hbig : N < q * q) : Pr N :=
  have k := chk_ok h
  pock1 hq k.1 k.2.1 k.2.2.1 k.2.2.2 hbig
theorem pr2 {N q s m k a b : Nat} (hq : Pr q) (hs : Pr s) (hne : q ≠ s) (h : chk N q m a = true) (g : chk N s k b = true) (hbig : N < q * s * (q * s)) : Pr N :=
  have x := chk_ok h
  have y := chk_ok g
  pock2 hq hs hne x.1 y.1 x.2.1 x.2.2.1 y.2.1 y.2.2.1 x.2.2.2 hbig
theorem pr_a : Pr 704251 := pr_small (k := 839) (by decide) (by decide +kernel) (by decide)
theorem pr_b : Pr 78283 := pr_small (k := 279) (by decide) (by decide +kernel) (by decide)
theorem pr_c : Pr 204061199 := pr_small (k := 14285) (by decide) (by decide +kernel) (by decide)
theorem pr_d : Pr 34282281433 := pr1 (q := 204061199) (m := 168) (a := 2) pr_c (by decide +kernel) (by decide)
theorem pr_e : Pr 46076956964474543 := pr2 (q := 704251) (s := 78283) (m := 65426896042) (k := 588594675274) (a := 2) (b := 2) pr_a pr_b (by decide) (by decide +kernel) (by decide +kernel) (by decide)
theorem pr_f : Pr 774023187263532362759620327192479577272145303 := pr2 (q := 46076956964474543) (s := 34282281433) (m := 16798487535978261528513091914) (k := 22577936908202977552973533084188294) (a := 2) (b := 2) pr_e pr_d (by decide) (by decide +kernel) (by decide +kernel) (by decide +kernel)
theorem pr_g : Pr 835945042244614951780389953367877943453916927241 := pr1 (q := 774023187263532362759620327192479577272145303) (m := 1080) (a := 2) pr_f (by decide +kernel) (by decide +kernel)
def pP : Nat := 115792089210356248762697446949407573530086143415290314195533631308867097853951
theorem pr_P : Pr pP := pr1 (q := 835945042244614951780389953367877943453916927241) (m := 138516389665330497628477975950) (a := 2) pr_g (by decide +kernel) (by decide +kernel)
end Go.Proofs.YtpimliebiapnfaaGreatDoor
/- The field of the prime of P-256, as Fin: numbers below it stand for its elements; no number makes y = 0 on the curve. Nothing here speaks of the program. -/
namespace Go.Proofs.YtpimliebiapnfaaGreatDoor
set_option linter.unusedVariables false
instance : NeZero pP := ⟨by decide⟩
abbrev Fp := Fin pP
instance : DecidableEq Fp := instDecidableEqFin pP
theorem fp_lin2 (o x y : Fp) : o + 0 * x + 0 * y = o := by grind -lia
theorem fp_lin4 (o x y z w : Fp) : o + 0 * x + 0 * y + 0 * z + 0 * w = o := by grind -lia
theorem fp_zsub (o : Fp) : 0 - o = -o := by grind -lia
theorem fp_nil {a b o : Fp} (h : a * 0 + b * 0 = o) : o = 0 := by
  rw [Fin.mul_zero, Fin.mul_zero, Fin.add_zero] at h
  exact h.symm
theorem fp_pow_zero (x : Fp) : x ^ 0 = 1 := by grind -lia
theorem fp_pow_succ (x : Fp) (k : Nat) : x ^ (k + 1) = x ^ k * x := by grind -lia
theorem fp_pow_add (x : Fp) (k l : Nat) : x ^ (k + l) = x ^ k * x ^ l := by grind -lia
theorem fp_one_mul (x : Fp) : 1 * x = x := by grind -lia
theorem fp_mul_comm (x y : Fp) : x * y = y * x := by grind -lia
def fz (n : Nat) : Fp := Fin.ofNat pP n
theorem fz_add (a b : Nat) : fz (a + b) = fz a + fz b := Fin.ext (Nat.add_mod a b pP)
theorem fz_mul (a b : Nat) : fz (a * b) = fz a * fz b := Fin.ext (Nat.mul_mod a b pP)
theorem fz_mod (a : Nat) : fz (a % pP) = fz a := Fin.ext (Nat.mod_mod a pP)
theorem fz_0 : fz 0 = 0 := rfl
theorem fz_1 : fz 1 = 1 := rfl
theorem fz_3 : fz 3 = 3 := rfl
theorem fz_p : fz pP = 0 := Fin.ext (Nat.mod_self pP)
theorem fz_inj {a b : Nat} (h : fz a = fz b) : a % pP = b % pP := congrArg Fin.val h
theorem fz_eq {a b : Nat} (h : a % pP = b % pP) : fz a = fz b := Fin.ext h
theorem fz_lt {a b : Nat} (ha : a < pP) (hb : b < pP) (h : fz a = fz b) : a = b := by
  have := fz_inj h
  rwa [Nat.mod_eq_of_lt ha, Nat.mod_eq_of_lt hb] at this
theorem fz_sub {a b : Nat} (h : b ≤ a) : fz (a - b) = fz a - fz b := by
  have e : fz (a - b) + fz b = fz a := by rw [← fz_add, Nat.sub_add_cancel h]
  grind -lia
theorem fz_val (x : Fp) : fz x.val = x := Fin.ext (Nat.mod_eq_of_lt x.isLt)
theorem fz_zero {a : Nat} (h : fz a = 0) : pP ∣ a := Nat.dvd_of_mod_eq_zero (by simpa using fz_inj (b := 0) h)
theorem fz_of_dvd {a : Nat} (h : pP ∣ a) : fz a = 0 := fz_eq (b := 0) (by rw [Nat.mod_eq_zero_of_dvd h]; rfl)
theorem fp_mul {x y : Fp} (h : x * y = 0) : x = 0 ∨ y = 0 := by
  rw [← fz_val x, ← fz_val y, ← fz_mul] at h
  rcases pr_P.mul (fz_zero h) with h | h
  · exact .inl (by rw [← fz_val x]; exact fz_of_dvd h)
  · exact .inr (by rw [← fz_val y]; exact fz_of_dvd h)
theorem fz_pow (a : Nat) : ∀ k : Nat, fz (a ^ k) = fz a ^ k
  | 0 => by rw [Nat.pow_zero, fp_pow_zero]; rfl
  | k + 1 => by rw [Nat.pow_succ, fz_mul, fz_pow a k, fp_pow_succ]
theorem fz_fermat (n : Nat) : fz n ^ pP = fz n := by
  rw [← fz_pow]
  obtain ⟨k, hk⟩ : ∃ k, pP = k + 1 := ⟨pP - 1, by have := pr_P.1; omega⟩
  have e4 : n ^ pP = n ^ k * n := by rw [hk, Nat.pow_succ]
  rw [e4]
  by_cases h : pP ∣ n
  · rw [fz_of_dvd h]
    exact fz_of_dvd (Nat.dvd_trans h (Nat.dvd_mul_left _ _))
  · have e := fermat pr_P h
    have e2 : pP - 1 = k := by omega
    rw [e2] at e
    have e3 : fz (n ^ k) = 1 := by
      rw [← fz_1]
      exact fz_eq (by rw [e]; rfl)
    rw [fz_mul, e3]
    exact fp_one_mul _
theorem fp_fermat (x : Fp) : x ^ pP = x := by
  have := fz_fermat x.val
  rwa [fz_val] at this
def bP : Nat := 41058363725152142129326129780047268409114441015993725554835256314039467401291
structure Tri where
  a : Nat
  b : Nat
  c : Nat
deriving DecidableEq
def Tri.mul (s t : Tri) : Tri :=
  let d3 := s.b * t.c + s.c * t.b
  let d4 := s.c * t.c
  ⟨(s.a * t.a + (pP - bP) * d3) % pP, (s.a * t.b + s.b * t.a + 3 * d3 + (pP - bP) * d4) % pP, (s.a * t.c + s.b * t.b + s.c * t.a + 3 * d4) % pP⟩
def Tri.ev (t : Tri) (x : Fp) : Fp := fz t.a + fz t.b * x + fz t.c * (x * x)
theorem fz_nb : fz (pP - bP) = - fz bP := by
  rw [fz_sub (by decide), fz_p]
  grind -lia
theorem Tri.ev_mul (s t : Tri) (x : Fp) (h : x * x * x = 3 * x - fz bP) : (s.mul t).ev x = s.ev x * t.ev x := by
  have h4 : x * x * (x * x) = 3 * (x * x) - fz bP * x := by grind -lia
  simp only [Tri.mul, Tri.ev, fz_mod, fz_add, fz_mul, fz_nb, fz_3]
  generalize fz s.a = a0 at *
  generalize fz s.b = a1 at *
  generalize fz s.c = a2 at *
  generalize fz t.a = b0 at *
  generalize fz t.b = b1 at *
  generalize fz t.c = b2 at *
  generalize fz bP = b at *
  have e : (a0 + a1 * x + a2 * (x * x)) * (b0 + b1 * x + b2 * (x * x)) = a0 * b0 + (a0 * b1 + a1 * b0) * x + (a0 * b2 + a1 * b1 + a2 * b0) * (x * x) + (a1 * b2 + a2 * b1) * (x * x * x) + a2 * b2 * (x * x * (x * x)) := by grind -lia
  rw [e, h, h4]
  grind -lia
def Tri.pow (t : Tri) : Nat → Nat → Tri
  | 0, e => ⟨1, 0, 0⟩
  | f + 1, e => if e = 0 then ⟨1, 0, 0⟩ else
    let h := t.pow f (e / 2)
    let q := h.mul h
    if e % 2 = 0 then q else q.mul t
theorem Tri.ev_one (x : Fp) : (⟨1, 0, 0⟩ : Tri).ev x = 1 := by
  simp only [Tri.ev, fz_0, fz_1]
  exact fp_lin2 _ _ _
theorem Tri.ev_pow (t : Tri) (x : Fp) (h : x * x * x = 3 * x - fz bP) : ∀ f e, e < 2 ^ f → (t.pow f e).ev x = t.ev x ^ e
  | 0, e, he => by
    have : e = 0 := by simp at he; omega
    subst this
    rw [Tri.pow, Tri.ev_one, fp_pow_zero]
  | f + 1, e, he => by
    rw [Tri.pow]
    split
    · rename_i h0
      subst h0
      rw [Tri.ev_one, fp_pow_zero]
    · have ih := Tri.ev_pow t x h f (e / 2) (by rw [Nat.pow_succ] at he; omega)
      simp only
      split
      · rename_i h0
        rw [Tri.ev_mul _ _ _ h, ih, ← fp_pow_add]
        congr 1
        omega
      · rename_i h0
        rw [Tri.ev_mul _ _ _ h, Tri.ev_mul _ _ _ h, ih, ← fp_pow_add, ← fp_pow_succ]
        congr 1
        omega
theorem tri_p : (⟨0, 1, 0⟩ : Tri).pow 256 pP = ⟨66434390973925144466073271287821796038003695194169110494110089305650096453661, 12402202686218762177567235911775779164004716598278868847786114277539554646092, 24678849118215552148312087830792888746041224110560601850711771001608500700145⟩ := by decide +kernel
theorem no_root (x : Fp) : x * x * x - 3 * x + fz bP ≠ 0 := by
  intro h0
  have h : x * x * x = 3 * x - fz bP := by grind -lia
  have e := Tri.ev_pow ⟨0, 1, 0⟩ x h 256 pP (by decide)
  have ex : (⟨0, 1, 0⟩ : Tri).ev x = x := by
    simp only [Tri.ev, fz_0, fz_1]
    grind -lia
  rw [tri_p, ex, fp_fermat] at e
  simp only [Tri.ev] at e
  have hv : (fz 34768139465301476436978405170953382516735956999154666452188405812258086013549 * (x * x) + fz 74462945259064871768191128030512052509059297803194871526163573358218695456204 * x + fz 76626890310466861426869089647039036757962535851890885406097439786770458211455) *
      (fz 66434390973925144466073271287821796038003695194169110494110089305650096453661 + fz (12402202686218762177567235911775779164004716598278868847786114277539554646092 + (pP - 1)) * x + fz 24678849118215552148312087830792888746041224110560601850711771001608500700145 * (x * x)) +
      (fz 6389611969556882025875921584714237703390037729321797349080302270353162149340 * x + fz 107286402702237026811154678719514266289498743974321057492273529440068429825344) * (x * x * x + fz (pP - 3) * x + fz bP) = 1 := by
    have c0 : fz 76626890310466861426869089647039036757962535851890885406097439786770458211455 * fz 66434390973925144466073271287821796038003695194169110494110089305650096453661 + fz 107286402702237026811154678719514266289498743974321057492273529440068429825344 * fz bP = 1 := by
      rw [← fz_mul, ← fz_mul, ← fz_add, ← fz_1]; exact fz_eq (by decide +kernel)
    have c1 : fz 74462945259064871768191128030512052509059297803194871526163573358218695456204 * fz 66434390973925144466073271287821796038003695194169110494110089305650096453661 + fz 76626890310466861426869089647039036757962535851890885406097439786770458211455 * fz (12402202686218762177567235911775779164004716598278868847786114277539554646092 + (pP - 1)) + fz 6389611969556882025875921584714237703390037729321797349080302270353162149340 * fz bP + fz 107286402702237026811154678719514266289498743974321057492273529440068429825344 * fz (pP - 3) = 0 := by
      rw [← fz_mul, ← fz_mul, ← fz_mul, ← fz_mul, ← fz_add, ← fz_add, ← fz_add, ← fz_0]; exact fz_eq (by decide +kernel)
    have c2 : fz 34768139465301476436978405170953382516735956999154666452188405812258086013549 * fz 66434390973925144466073271287821796038003695194169110494110089305650096453661 + fz 74462945259064871768191128030512052509059297803194871526163573358218695456204 * fz (12402202686218762177567235911775779164004716598278868847786114277539554646092 + (pP - 1)) + fz 76626890310466861426869089647039036757962535851890885406097439786770458211455 * fz 24678849118215552148312087830792888746041224110560601850711771001608500700145 + fz 6389611969556882025875921584714237703390037729321797349080302270353162149340 * fz (pP - 3) = 0 := by
      rw [← fz_mul, ← fz_mul, ← fz_mul, ← fz_mul, ← fz_add, ← fz_add, ← fz_add, ← fz_0]; exact fz_eq (by decide +kernel)
    have c3 : fz 34768139465301476436978405170953382516735956999154666452188405812258086013549 * fz (12402202686218762177567235911775779164004716598278868847786114277539554646092 + (pP - 1)) + fz 74462945259064871768191128030512052509059297803194871526163573358218695456204 * fz 24678849118215552148312087830792888746041224110560601850711771001608500700145 + fz 107286402702237026811154678719514266289498743974321057492273529440068429825344 = 0 := by
      rw [← fz_mul, ← fz_mul, ← fz_add, ← fz_add, ← fz_0]; exact fz_eq (by decide +kernel)
    have c4 : fz 34768139465301476436978405170953382516735956999154666452188405812258086013549 * fz 24678849118215552148312087830792888746041224110560601850711771001608500700145 + fz 6389611969556882025875921584714237703390037729321797349080302270353162149340 = 0 := by
      rw [← fz_mul, ← fz_add, ← fz_0]; exact fz_eq (by decide +kernel)
    generalize fz 34768139465301476436978405170953382516735956999154666452188405812258086013549 = u2 at *
    generalize fz 74462945259064871768191128030512052509059297803194871526163573358218695456204 = u1 at *
    generalize fz 76626890310466861426869089647039036757962535851890885406097439786770458211455 = u0 at *
    generalize fz 66434390973925144466073271287821796038003695194169110494110089305650096453661 = q0 at *
    generalize fz (12402202686218762177567235911775779164004716598278868847786114277539554646092 + (pP - 1)) = q1 at *
    generalize fz 24678849118215552148312087830792888746041224110560601850711771001608500700145 = q2 at *
    generalize fz 6389611969556882025875921584714237703390037729321797349080302270353162149340 = v1 at *
    generalize fz 107286402702237026811154678719514266289498743974321057492273529440068429825344 = v0 at *
    generalize fz (pP - 3) = m3 at *
    generalize fz bP = b at *
    clear e ex h h0
    have f : (u2 * (x * x) + u1 * x + u0) * (q0 + q1 * x + q2 * (x * x)) + (v1 * x + v0) * (x * x * x + m3 * x + b) = (u0 * q0 + v0 * b) + (u1 * q0 + u0 * q1 + v1 * b + v0 * m3) * x + (u2 * q0 + u1 * q1 + u0 * q2 + v1 * m3) * (x * x) + (u2 * q1 + u1 * q2 + v0) * (x * x * x) + (u2 * q2 + v1) * (x * x * (x * x)) := by grind -lia
    rw [f, c0, c1, c2, c3, c4]
    exact fp_lin4 _ _ _ _ _
  have z1 : fz 66434390973925144466073271287821796038003695194169110494110089305650096453661 + fz (12402202686218762177567235911775779164004716598278868847786114277539554646092 + (pP - 1)) * x + fz 24678849118215552148312087830792888746041224110560601850711771001608500700145 * (x * x) = 0 := by
    have m1 : fz (pP - 1) = - 1 := by
      rw [fz_sub (by decide), fz_p, fz_1]
      exact fp_zsub _
    rw [fz_add, m1]
    generalize fz 66434390973925144466073271287821796038003695194169110494110089305650096453661 = q0 at *
    generalize fz 12402202686218762177567235911775779164004716598278868847786114277539554646092 = q1 at *
    generalize fz 24678849118215552148312087830792888746041224110560601850711771001608500700145 = q2 at *
    clear hv
    grind -lia
  have z2 : x * x * x + fz (pP - 3) * x + fz bP = 0 := by
    have m3 : fz (pP - 3) = - 3 := by
      rw [fz_sub (by decide), fz_p, fz_3]
      exact fp_zsub _
    rw [m3]
    grind -lia
  rw [z1, z2] at hv
  have one : (1 : Fp) = 0 := fp_nil hv
  have := fz_lt (a := 1) (b := 0) (by decide) (by decide) one
  omega
end Go.Proofs.YtpimliebiapnfaaGreatDoor
/- Points with their divisions put off, in the field: sums and doubles stay on the curve. Nothing here speaks of the program. -/
namespace Go.Proofs.YtpimliebiapnfaaGreatDoor
set_option linter.unusedVariables false
structure Jp where
  x : Fp
  y : Fp
  z : Fp
def Jp.On (a : Jp) : Prop := a.y * a.y = a.x * a.x * a.x - 3 * a.x * (a.z * a.z * (a.z * a.z)) + fz bP * (a.z * a.z * (a.z * a.z) * (a.z * a.z))
def Jp.zero : Jp := ⟨0, 0, 0⟩
def Jp.scl (a : Jp) (k : Fp) : Jp := ⟨a.x * (k * k), a.y * (k * k * k), a.z * k⟩
def Jp.third (a b : Jp) (rise run : Fp) : Jp :=
  let c := a.scl run
  let x := rise * rise - c.x - b.x * (run * run)
  ⟨x, rise * (c.x - x) - c.y, c.z⟩
def Jp.twice (a : Jp) : Jp := a.third a (3 * ((a.x + a.z * a.z) * (a.x - a.z * a.z))) (a.y + a.y)
theorem fp_sq {x y : Fp} (h : x * x = y * y) : x = y ∨ x = -y := by
  have : (x - y) * (x + y) = 0 := by grind -lia
  rcases fp_mul this with h | h
  · left; grind -lia
  · right; grind -lia
end Go.Proofs.YtpimliebiapnfaaGreatDoor
/- The points of the curve are added in any order: lines that meet it three times. Nothing here speaks of the program. -/
namespace Go.Proofs.YtpimliebiapnfaaGreatDoor
set_option linter.unusedVariables false
structure Pt where
  x : Fp
  y : Fp
def Pt.On (p : Pt) : Prop := p.y * p.y = p.x * p.x * p.x - 3 * p.x + fz bP
def Pt.neg (p : Pt) : Pt := ⟨p.x, -p.y⟩
structure Line (m t : Fp) (p q r : Pt) : Prop where
  lp : p.y = m * p.x + t
  lq : q.y = m * q.x + t
  lr : r.y = m * r.x + t
  ls : p.x + q.x + r.x = m * m
  lt : p.x * q.x + q.x * r.x + p.x * r.x = -3 - 2 * m * t
  lu : p.x * q.x * r.x = t * t - fz bP
theorem Line.neg {m t : Fp} {p q r : Pt} (h : Line m t p q r) : Line (-m) (-t) p.neg q.neg r.neg := by
  obtain ⟨a, b, c, d, e, f⟩ := h
  constructor <;> simp only [Pt.neg]
  · rw [a]; clear a b c d e f; grind -lia
  · rw [b]; clear a b c d e f; grind -lia
  · rw [c]; clear a b c d e f; grind -lia
  · rw [d]; clear a b c d e f; grind -lia
  · rw [e]; clear a b c d e f; grind -lia
  · rw [f]; clear a b c d e f; grind -lia
theorem Line.swap {m t : Fp} {p q r : Pt} (h : Line m t p q r) : Line m t q p r := by
  obtain ⟨a, b, c, d, e, f⟩ := h
  refine ⟨b, a, c, ?_, ?_, ?_⟩
  · rw [← d]; clear a b c d e f; grind -lia
  · rw [← e]; clear a b c d e f; grind -lia
  · rw [← f]; clear a b c d e f; grind -lia
theorem Line.turn {m t : Fp} {p q r : Pt} (h : Line m t p q r) : Line m t p r q := by
  obtain ⟨a, b, c, d, e, f⟩ := h
  refine ⟨a, c, b, ?_, ?_, ?_⟩
  · rw [← d]; clear a b c d e f; grind -lia
  · rw [← e]; clear a b c d e f; grind -lia
  · rw [← f]; clear a b c d e f; grind -lia
theorem Line.poly {m t : Fp} {p q r : Pt} (h : Line m t p q r) (X : Fp) : X * X * X - 3 * X + fz bP - (m * X + t) * (m * X + t) = (X - p.x) * (X - q.x) * (X - r.x) := by
  obtain ⟨a, b, c, d, e, f⟩ := h
  have g : (X - p.x) * (X - q.x) * (X - r.x) = X * X * X - (p.x + q.x + r.x) * (X * X) + (p.x * q.x + q.x * r.x + p.x * r.x) * X - p.x * q.x * r.x := by clear a b c d e f; grind -lia
  rw [g, d, e, f]
  clear a b c d e f g
  grind -lia
theorem Line.on {m t : Fp} {p q r : Pt} (h : Line m t p q r) : p.On := by
  have e := h.poly p.x
  rw [← h.lp] at e
  unfold Pt.On
  have g : (p.x - p.x) * (p.x - q.x) * (p.x - r.x) = 0 := by clear e; grind -lia
  rw [g] at e
  clear h g
  grind -lia
theorem fp_fermat_at (x : Fp) {n : Nat} (h : n = pP) : x ^ n = x := by
  subst h
  exact fp_fermat x
theorem fp_inv {x : Fp} (h : x ≠ 0) : ∃ y, x * y = 1 := by
  obtain ⟨k, hk⟩ : ∃ k, pP = k + 2 := ⟨pP - 2, by have := pr_P.1; omega⟩
  have e := fp_fermat_at x hk.symm
  rw [fp_pow_succ, fp_pow_succ] at e
  generalize x ^ k = w at *
  refine ⟨w, ?_⟩
  have : x * (x * w - 1) = 0 := by grind -lia
  rcases fp_mul this with h' | h'
  · exact absurd h' h
  · grind -lia
theorem fp_cancel {u x y : Fp} (hu : u ≠ 0) (h : u * x = u * y) : x = y := by
  have : u * (x - y) = 0 := by grind -lia
  rcases fp_mul this with h' | h'
  · exact absurd h' hu
  · grind -lia
theorem fp_sub {x y : Fp} (h : x ≠ y) : x - y ≠ 0 := fun e => h (by grind -lia)
theorem two_ne : (2 : Fp) ≠ 0 := fun h => by
  have := fz_lt (a := 2) (b := 0) (by decide) (by decide) h
  omega
theorem Pt.On.y_ne {p : Pt} (h : p.On) : p.y ≠ 0 := fun e => by
  unfold Pt.On at h
  rw [e] at h
  exact no_root p.x (by grind -lia)
theorem Pt.On.yy_ne {p : Pt} (h : p.On) : 2 * p.y ≠ 0 := fun e => by
  rcases fp_mul e with e | e
  · exact two_ne e
  · exact h.y_ne e
theorem tangent {m t x y r : Fp} (a : y = m * x + t) (s : x + x + r = m * m) (u : x * x + x * r + x * r = -3 - 2 * m * t) : 2 * y * m = 3 * x * x - 3 := by
  have : r = m * m - x - x := by grind -lia
  subst this
  subst a
  grind -lia
theorem Line.slope {m t k l : Fp} {p q r r' : Pt} (h : Line m t p q r) (g : Line k l p q r') : m = k := by
  by_cases hx : p.x = q.x
  · have hy := h.on.yy_ne
    have f1 : 2 * p.y * m = 3 * p.x * p.x - 3 := tangent h.lp (r := r.x) (by have := h.ls; rwa [← hx] at this) (by have := h.lt; rwa [← hx] at this)
    have f2 : 2 * p.y * k = 3 * p.x * p.x - 3 := tangent g.lp (r := r'.x) (by have := g.ls; rwa [← hx] at this) (by have := g.lt; rwa [← hx] at this)
    exact fp_cancel hy (f1.trans f2.symm)
  · refine fp_cancel (fp_sub hx) ?_
    have e1 := h.lp
    have e2 := h.lq
    have e3 := g.lp
    have e4 := g.lq
    clear h g
    grind -lia
theorem Line.same {m t k l : Fp} {p q r r' : Pt} (h : Line m t p q r) (g : Line k l p q r') : r = r' := by
  have e := h.slope g
  subst e
  have et : t = l := by
    have e3 := h.lp
    have e4 := g.lp
    clear h g
    grind -lia
  subst et
  have ex : r.x = r'.x := by
    have e1 := h.ls
    have e2 := g.ls
    clear h g
    grind -lia
  have ey : r.y = r'.y := by rw [h.lr, g.lr, ex]
  cases r; cases r'; simp_all
theorem Pt.ext2 {p q : Pt} (hx : p.x = q.x) (hy : p.y = q.y) : p = q := by
  cases p; cases q; simp_all
theorem Line.mk2 {p q : Pt} (hp : p.On) (hq : q.On) (hne : p ≠ q.neg) : ∃ m t r, Line m t p q r := by
  by_cases hx : p.x = q.x
  · have hy : p.y = q.y := by
      have : (p.y - q.y) * (p.y + q.y) = 0 := by
        unfold Pt.On at hp hq
        rw [hx] at hp
        have : p.y * p.y = q.y * q.y := hp.trans hq.symm
        clear hp hq
        grind -lia
      rcases fp_mul this with h | h
      · clear hp hq; grind -lia
      · exact absurd (Pt.ext2 (by simp only [Pt.neg]; exact hx) (by simp only [Pt.neg]; clear hp hq this; grind -lia)) hne
    obtain ⟨i, hi⟩ := fp_inv hp.yy_ne
    obtain ⟨m, hm⟩ : ∃ m, m = (3 * p.x * p.x - 3) * i := ⟨_, rfl⟩
    have hm2 : 2 * p.y * m = 3 * p.x * p.x - 3 := by
      have e : 2 * p.y * m = (3 * p.x * p.x - 3) * (2 * p.y * i) := by rw [hm]; clear hm hi hp hq; grind -lia
      rw [e, hi]; clear hm hi hp hq e; grind -lia
    unfold Pt.On at hp
    refine ⟨m, p.y - m * p.x, ⟨m * m - p.x - p.x, m * (m * m - p.x - p.x) + (p.y - m * p.x)⟩, ?_, ?_, rfl, ?_, ?_, ?_⟩ <;> (try simp only) <;> (try rw [← hx]) <;> (try rw [← hy])
    · clear hm hi hp hq hm2; grind -lia
    · clear hm hi hp hq hm2; grind -lia
    · clear hm hi hp hq hm2; grind -lia
    · clear hm hi hp hq; grind -lia
    · have : fz bP = p.y * p.y - p.x * p.x * p.x + 3 * p.x := by clear hm hi hq hm2; grind -lia
      rw [this]
      clear hm hi hp hq this
      grind -lia
  · have hd : q.x - p.x ≠ 0 := fp_sub (fun h => hx h.symm)
    obtain ⟨i, hi⟩ := fp_inv hd
    obtain ⟨m, hm⟩ : ∃ m, m = (q.y - p.y) * i := ⟨_, rfl⟩
    have hm2 : q.y = p.y + m * (q.x - p.x) := by
      have e : m * (q.x - p.x) = (q.y - p.y) * ((q.x - p.x) * i) := by rw [hm]; clear hm hi hp hq; grind -lia
      rw [e, hi]; clear hm hi hp hq e; grind -lia
    unfold Pt.On at hp hq
    have hb : fz bP = p.y * p.y - p.x * p.x * p.x + 3 * p.x := by clear hm hi hq hm2; grind -lia
    rw [hm2, hb] at hq
    refine ⟨m, p.y - m * p.x, ⟨m * m - p.x - q.x, m * (m * m - p.x - q.x) + (p.y - m * p.x)⟩, ?_, ?_, rfl, ?_, ?_, ?_⟩ <;> (try simp only)
    · clear hm hi hp hq hm2; grind -lia
    · rw [hm2]; clear hm hi hp hq hm2; grind -lia
    · clear hm hi hp hq hm2; grind -lia
    · refine fp_cancel hd ?_
      clear hm hi hp hm2 hb
      grind -lia
    · refine fp_cancel hd ?_
      rw [hb]
      clear hm hi hp hm2 hb
      grind -lia
theorem Line.group {s a v b : Fp} {p1 p2 p3 p4 p5 : Pt} (h : Line s a p1 p2 p4.neg) (g : Line v b p2 p3 p5.neg) (hne : v ≠ s) :
    ∃ l c m d p7, Line l c p3 p4 p7 ∧ Line m d p1 p5 p7 := by
  have hu := fp_sub hne
  obtain ⟨i, hi⟩ := fp_inv hu
  obtain ⟨c, hc⟩ : ∃ c, c = (p4.x - p5.x) * i := ⟨_, rfl⟩
  have hc2 : (v - s) * c = p4.x - p5.x := by
    have e : (v - s) * c = (p4.x - p5.x) * ((v - s) * i) := by rw [hc]; clear hc hi h g; grind -lia
    rw [e, hi]; clear hc hi h g e; grind -lia
  clear hc hi i
  obtain ⟨h1, h2, h3, h4, h5, h6⟩ := h
  obtain ⟨g1, g2, g3, g4, g5, g6⟩ := g
  simp only [Pt.neg] at *
  obtain ⟨x1, y1⟩ := p1
  obtain ⟨x2, y2⟩ := p2
  obtain ⟨x3, y3⟩ := p3
  obtain ⟨x4, y4⟩ := p4
  obtain ⟨x5, y5⟩ := p5
  simp only at *
  obtain ⟨u, rfl⟩ : ∃ u, v = s + u := ⟨v - s, by clear h1 h2 h3 h4 h5 h6 g1 g2 g3 g4 g5 g6 hc2; grind -lia⟩
  have hu2 : u ≠ 0 := fun e => hne (by subst e; clear h1 h2 h3 h4 h5 h6 g1 g2 g3 g4 g5 g6 hc2; grind -lia)
  have k5 : x5 = x4 - u * c := by clear h1 h2 h3 h4 h5 h6 g1 g2 g3 g4 g5 g6; grind -lia
  have kb : b = a - u * x2 := by clear h1 h3 h4 h5 h6 g2 g3 g4 g5 g6 hc2; grind -lia
  have kB : fz bP = a * a - x1 * x2 * x4 := by rw [h6]; clear h1 h2 h3 h4 h5 h6 g1 g2 g3 g4 g5 g6 hc2; grind -lia
  have k3 : -3 = x1 * x2 + x2 * x4 + x1 * x4 + 2 * s * a := by rw [h5]; clear h1 h2 h3 h4 h5 h6 g1 g2 g3 g4 g5 g6 hc2; grind -lia
  have k1 : x1 = x3 - u * c - u * (2 * s + u) := by
    subst k5
    clear h1 h2 h3 h5 h6 g1 g2 g3 g5 g6 hc2 kB k3 kb
    grind -lia
  have k2 : x2 = (s + u) * (s + u) + u * c - x3 - x4 := by
    subst k5
    clear h1 h2 h3 h5 h6 g1 g2 g3 g5 g6 hc2 kB k3 kb h4 k1
    grind -lia
  have kA : 2 * a = u * x2 + c * (x3 - x4) - (2 * s + u) * x4 := by
    refine fp_cancel hu2 ?_
    have e : x2 * x3 + x3 * x5 + x2 * x5 = x1 * x2 + x2 * x4 + x1 * x4 + 2 * s * a - 2 * (s + u) * (a - u * x2) := by rw [g5, ← k3, kb]
    subst k5
    clear h1 h2 h3 h4 h5 h6 g1 g2 g3 g4 g5 g6 hc2 kB k3 kb k2
    subst k1
    grind -lia
  clear hc2 h4 h5 h6 g4 g5 g6 hu hne
  refine ⟨s + u + c, a - u * x2 - c * x3, s + c, a - c * x1, ⟨x2 + c * (u + 2 * s + c), (s + c) * (x2 + c * (u + 2 * s + c)) + (a - c * x1)⟩, ⟨?_, ?_, ?_, ?_, ?_, ?_⟩, ⟨?_, ?_, ?_, ?_, ?_, ?_⟩⟩ <;> simp only
  · rw [g2, kb]; clear h1 h2 h3 g1 g2 g3 kB k3 kA kb k1 k2 k5; grind -lia
  · clear h1 h2 g1 g2 g3 kB k3 kb k1 k2 k5; grind -lia
  · rw [k1]; clear h1 h2 h3 g1 g2 g3 kB k3 kA kb k1 k2 k5; grind -lia
  · rw [k2]; clear h1 h2 h3 g1 g2 g3 kB k3 kA kb k1 k2 k5; grind -lia
  · rw [k3, k1]; clear h1 h2 h3 g1 g2 g3 kB k3 kb k1 k5; rw [k2] at *; clear k2; grind -lia
  · rw [kB, k1]; clear h1 h2 h3 g1 g2 g3 kB k3 kb k1 k5; rw [k2] at *; clear k2; grind -lia
  · rw [h1]; clear h1 h2 h3 g1 g2 g3 kB k3 kA kb k1 k2 k5; grind -lia
  · rw [kb] at g3; rw [k1]; clear h1 h2 h3 g1 g2 kB k3 kb k1 k2; subst k5; grind -lia
  · rw [k1, k2, k5]; clear h1 h2 h3 g1 g2 g3 kB k3 kA kb k1 k2 k5; grind -lia
  · rw [k3, k1, k5]; clear h1 h2 h3 g1 g2 g3 kB k3 kb k1 k5; rw [k2] at *; clear k2; grind -lia
  · rw [kB, k1, k5]; clear h1 h2 h3 g1 g2 g3 kB k3 kb k1 k5; rw [k2] at *; clear k2; grind -lia
end Go.Proofs.YtpimliebiapnfaaGreatDoor
/- The points of the curve, with the one that is nowhere, are a group. Nothing here speaks of the program. -/
namespace Go.Proofs.YtpimliebiapnfaaGreatDoor
set_option linter.unusedVariables false
def OnO : Option Pt → Prop
  | none => True
  | some p => p.On
inductive Adds : Option Pt → Option Pt → Option Pt → Prop
  | left (q : Option Pt) : Adds none q q
  | right (p : Option Pt) : Adds p none p
  | opp (p : Pt) : Adds (some p) (some p.neg) none
  | line {m t : Fp} {p q r : Pt} (h : Line m t p q r.neg) : Adds (some p) (some q) (some r)
theorem Pt.neg_neg (p : Pt) : p.neg.neg = p := by
  unfold Pt.neg
  refine Pt.ext2 rfl ?_
  simp only
  grind -lia
theorem neg_inj {p q : Pt} (h : p.neg = q.neg) : p = q := by
  rw [← p.neg_neg, h, q.neg_neg]
theorem Pt.On.neg {p : Pt} (h : p.On) : p.neg.On := by
  unfold Pt.On Pt.neg at *
  simp only
  rw [← h]
  clear h
  grind -lia
theorem Line.on2 {m t : Fp} {p q r : Pt} (h : Line m t p q r) : q.On := h.swap.on
theorem Line.on3 {m t : Fp} {p q r : Pt} (h : Line m t p q r) : r.On := h.turn.on2
theorem Line.not_opp {m t : Fp} {p r : Pt} (h : Line m t p p.neg r) : False := by
  have e1 := h.lp
  have e2 := h.lq
  have hy := h.on.yy_ne
  simp only [Pt.neg] at e2
  refine hy ?_
  clear h hy
  grind -lia
theorem Adds.comm {a b c : Option Pt} (h : Adds a b c) : Adds b a c := by
  cases h with
  | left => exact .right _
  | right => exact .left _
  | opp p => have := Adds.opp p.neg; rwa [Pt.neg_neg] at this
  | line h => exact .line h.swap
theorem Adds.on {a b c : Option Pt} (h : Adds a b c) (ha : OnO a) (hb : OnO b) : OnO c := by
  cases h with
  | left => exact hb
  | right => exact ha
  | opp p => trivial
  | line h => have := h.on3.neg; rwa [Pt.neg_neg] at this
theorem Adds.same {a b c d : Option Pt} (h : Adds a b c) (g : Adds a b d) : c = d := by
  cases h with
  | left => cases g <;> rfl
  | right => cases g <;> rfl
  | opp p =>
    cases g with
    | opp => rfl
    | line g => exact g.not_opp.elim
  | line h =>
    cases g with
    | opp => exact h.not_opp.elim
    | line g =>
      exact congrArg some (neg_inj (h.same g))
theorem Adds.ex {a b : Option Pt} (ha : OnO a) (hb : OnO b) : ∃ c, Adds a b c := by
  cases a with
  | none => exact ⟨_, .left _⟩
  | some p =>
    cases b with
    | none => exact ⟨_, .right _⟩
    | some q =>
      by_cases e : p = q.neg
      · subst e
        have := Adds.opp q.neg
        rw [Pt.neg_neg] at this
        exact ⟨_, this⟩
      · obtain ⟨m, t, r, h⟩ := Line.mk2 ha hb e
        exact ⟨some r.neg, .line (m := m) (t := t) (by rwa [Pt.neg_neg])⟩
theorem Line.back {m t : Fp} {p q r : Pt} (h : Line m t p q r.neg) : Line (-m) (-t) p.neg r q.neg := by
  have := h.neg.turn
  rwa [Pt.neg_neg] at this
theorem Line.pick {m t : Fp} {p1 p2 p3 p4 p5 : Pt} {t' : Fp} (h : Line m t p1 p2 p4) (g : Line m t' p2 p3 p5) : (p1 = p3 ∧ p4 = p5) ∨ (p1 = p5 ∧ p4 = p3) := by
  have et : t = t' := by
    have e1 := h.lq
    have e2 := g.lp
    clear h g
    grind -lia
  subst et
  have e1 : p1.x + p4.x = p3.x + p5.x := by
    have e1 := h.ls
    have e2 := g.ls
    clear h g
    grind -lia
  have e2 : p1.x * p4.x = p3.x * p5.x := by
    have f1 := h.lt
    have f2 := g.lt
    have g1 : p2.x * (p1.x + p4.x) + p1.x * p4.x = -3 - 2 * m * t := by rw [← f1]; clear f1 f2 e1 h g; grind -lia
    have g2 : p2.x * (p1.x + p4.x) + p3.x * p5.x = -3 - 2 * m * t := by rw [← f2, e1]; clear f1 f2 g1 e1 h g; grind -lia
    clear h g e1 f1 f2
    grind -lia
  have e3 : (p1.x - p3.x) * (p1.x - p5.x) = 0 := by clear h g; grind -lia
  rcases fp_mul e3 with e | e
  · have a1 : p1.x = p3.x := by clear h g e1 e2 e3; grind -lia
    have a2 : p4.x = p5.x := by clear h g e2 e3; grind -lia
    exact .inl ⟨Pt.ext2 a1 (by rw [h.lp, g.lq, a1]), Pt.ext2 a2 (by rw [h.lr, g.lr, a2])⟩
  · have a1 : p1.x = p5.x := by clear h g e1 e2 e3; grind -lia
    have a2 : p4.x = p3.x := by clear h g e2 e3; grind -lia
    exact .inr ⟨Pt.ext2 a1 (by rw [h.lp, g.lr, a1]), Pt.ext2 a2 (by rw [h.lr, g.lq, a2])⟩
theorem Adds.back {p : Pt} {c e : Option Pt} (h : Adds (some p.neg) c e) : Adds (some p) e c := by
  cases h with
  | right => exact .opp p
  | opp => rw [Pt.neg_neg]; exact .right _
  | line h =>
    have := h.back
    rw [Pt.neg_neg] at this
    exact .line this
theorem Adds.assoc {a b c d e f : Option Pt} (h1 : Adds a b d) (h2 : Adds b c e) (h3 : Adds d c f) : Adds a e f := by
  cases h1 with
  | left => rw [Adds.same h2 h3]; exact .left _
  | right => rw [← Adds.same h2 (.left c)] at h3; exact h3
  | opp p =>
    rw [Adds.same h3 (.left c)]
    exact h2.back
  | line h1 =>
    rename_i m t p q r
    cases h2 with
    | right => rw [Adds.same h3 (.right _)]; exact .line h1
    | opp =>
      have g : Adds (some q) (some p) (some r) := .line h1.swap
      rw [← Pt.neg_neg q] at g
      rw [Adds.same h3 g.back.comm]
      exact .right _
    | line h2 =>
      rename_i m' t' s w
      by_cases hm : m' = m
      · subst hm
        rcases h1.pick h2 with ⟨e1, e2⟩ | ⟨e1, e2⟩
        · subst e1
          rw [← neg_inj e2]
          exact h3.comm
        · subst e1
          subst e2
          rw [Adds.same h3 (.opp r)]
          have := Adds.opp w.neg
          rwa [Pt.neg_neg] at this
      · obtain ⟨l, c, k, d, p7, g1, g2⟩ := h1.group h2 hm
        have g3 : Adds (some s) (some r) (some p7.neg) := .line (m := l) (t := c) (by rwa [Pt.neg_neg])
        rw [Adds.same h3 g3.comm]
        exact .line (m := k) (t := d) (by rwa [Pt.neg_neg])
structure Ec where
  o : Option Pt
  on : OnO o
theorem Ec.ext2 {a b : Ec} (h : a.o = b.o) : a = b := by
  cases a; cases b; simp_all
def Ec.zero : Ec := ⟨none, trivial⟩
noncomputable def Ec.add (a b : Ec) : Ec := ⟨Classical.choose (Adds.ex a.on b.on), (Classical.choose_spec (Adds.ex a.on b.on)).on a.on b.on⟩
theorem Ec.add_adds (a b : Ec) : Adds a.o b.o (a.add b).o := Classical.choose_spec (Adds.ex a.on b.on)
theorem Ec.add_of {a b c : Ec} (h : Adds a.o b.o c.o) : a.add b = c := Ec.ext2 ((a.add_adds b).same h)
theorem Ec.add_comm (a b : Ec) : a.add b = b.add a := Ec.add_of (b.add_adds a).comm
theorem Ec.add_assoc (a b c : Ec) : (a.add b).add c = a.add (b.add c) :=
  (Ec.add_of ((a.add_adds b).assoc (b.add_adds c) ((a.add b).add_adds c))).symm
theorem Ec.zero_add (a : Ec) : Ec.zero.add a = a := Ec.add_of (.left _)
theorem Ec.add_zero (a : Ec) : a.add Ec.zero = a := Ec.add_of (.right _)
def Ec.neg (a : Ec) : Ec := match a with
  | ⟨none, h⟩ => ⟨none, h⟩
  | ⟨some p, h⟩ => ⟨some p.neg, Pt.On.neg h⟩
theorem Ec.add_neg (a : Ec) : a.add a.neg = Ec.zero := by
  refine Ec.add_of ?_
  rcases a with ⟨_ | p, h⟩
  · exact .left _
  · exact .opp p
theorem Ec.neg_add (a : Ec) : a.neg.add a = Ec.zero := by rw [Ec.add_comm, Ec.add_neg]
theorem Ec.cancel {a b c : Ec} (h : a.add b = a.add c) : b = c := by
  have := congrArg (Ec.add a.neg) h
  rwa [← Ec.add_assoc, ← Ec.add_assoc, Ec.neg_add, Ec.zero_add, Ec.zero_add] at this
theorem Ec.no_two {a : Ec} (h : a.add a = Ec.zero) : a = Ec.zero := by
  have e : a = a.neg := by
    have g := a.add_neg
    rw [← h] at g
    exact (Ec.cancel g).symm
  rcases a with ⟨_ | p, hp⟩
  · rfl
  · exfalso
    have e2 : some p = some p.neg := congrArg Ec.o e
    have e3 : p.y = -p.y := congrArg Pt.y (Option.some.inj e2)
    exact Pt.On.yy_ne hp (by clear e e2 h; grind -lia)
noncomputable def Ec.mul : Nat → Ec → Ec
  | 0, _ => Ec.zero
  | k + 1, a => (Ec.mul k a).add a
theorem Ec.mul_add (a : Ec) (k : Nat) : ∀ l, Ec.mul (k + l) a = (Ec.mul k a).add (Ec.mul l a)
  | 0 => (Ec.add_zero _).symm
  | l + 1 => by
    rw [← Nat.add_assoc, Ec.mul, Ec.mul_add a k l, Ec.mul, Ec.add_assoc]
theorem Ec.mul_zero : ∀ k, Ec.mul k Ec.zero = Ec.zero
  | 0 => rfl
  | k + 1 => by rw [Ec.mul, Ec.mul_zero k, Ec.add_zero]
theorem Ec.mul_mul (a : Ec) (k : Nat) : ∀ l, Ec.mul (k * l) a = Ec.mul l (Ec.mul k a)
  | 0 => rfl
  | l + 1 => by rw [Nat.mul_succ, Ec.mul_add, Ec.mul_mul a k l, Ec.mul]
end Go.Proofs.YtpimliebiapnfaaGreatDoor
/- As often as the order says, every point of the curve is nowhere: n is prime, three rows of n points do not fit among 2 p + 1. Nothing here speaks of the program. -/
namespace Go.Proofs.YtpimliebiapnfaaGreatDoor
set_option linter.unusedVariables false
theorem pr_naaa : Pr 191039911 := pr_small (k := 13821) (by decide) (by decide +kernel) (by decide)
theorem pr_naab : Pr 3023 := pr_small (k := 54) (by decide) (by decide +kernel) (by decide)
theorem pr_naa : Pr 208150935158385979 := pr2 (q := 191039911) (s := 3023) (m := 1089567798) (k := 68855750962086) (a := 2) (b := 2) pr_naaa pr_naab (by decide) (by decide +kernel) (by decide +kernel) (by decide +kernel)
theorem pr_na : Pr 2624747550333869278416773953 := pr1 (q := 208150935158385979) (m := 12609828288) (a := 2) pr_naa (by decide +kernel) (by decide +kernel)
theorem pr_nba : Pr 3969899 := pr_small (k := 1992) (by decide) (by decide +kernel) (by decide)
theorem pr_nb : Pr 1002328039319 := pr1 (q := 3969899) (m := 252482) (a := 2) pr_nba (by decide +kernel) (by decide +kernel)
def nN : Nat := 115792089210356248762697446949407573529996955224135760342422259061068512044369
theorem pr_N : Pr nN := pr2 (q := 2624747550333869278416773953) (s := 1002328039319) (m := 44115514726598157485257412756682202504057278751056) (k := 115523146782392231311324540489179156958562150085032625197564538672) (a := 2) (b := 2) pr_na pr_nb (by decide) (by decide +kernel) (by decide +kernel) (by decide +kernel)
theorem pigeons {N M : Nat} {f : Nat → Nat} (hf : ∀ i < N, f i < M) (hi : ∀ i < N, ∀ j < N, f i = f j → i = j) : N ≤ M := by
  have hp : ((List.range N).map f).Nodup := nodup_map List.nodup_range (fun x hx y hy => hi x (List.mem_range.1 hx) y (List.mem_range.1 hy))
  by_cases h : N ≤ M
  · exact h
  · have := (perm_of_sub _ (List.range M) hp (fun x hx => by
      obtain ⟨i, h1, rfl⟩ := List.mem_map.1 hx
      exact List.mem_range.2 (hf i (List.mem_range.1 h1))) (by simp; omega)).length_eq
    simp at this
    omega
def Ec.num (a : Ec) : Nat := match a.o with
  | none => 2 * pP
  | some p => 2 * p.x.val + p.y.val % 2
theorem Ec.num_lt (a : Ec) : a.num < 2 * pP + 1 := by
  unfold Ec.num
  split
  · omega
  · rename_i p _
    have : p.x.val < pP := p.x.isLt
    omega
theorem fp_neg_val {y : Fp} (h : y ≠ 0) : (-y).val = pP - y.val := by
  have h0 : 0 < y.val := Nat.pos_of_ne_zero fun e => h (by rw [← fz_val y, e]; rfl)
  have hl : y.val < pP := y.isLt
  have e : fz (pP - y.val) = -y := by
    rw [fz_sub (by omega), fz_p, fz_val]
    grind -lia
  rw [← e]
  show (pP - y.val) % pP = _
  exact Nat.mod_eq_of_lt (by omega)
theorem Ec.num_inj {a b : Ec} (h : a.num = b.num) : a = b := by
  refine Ec.ext2 ?_
  rcases a with ⟨_ | p, ha⟩ <;> rcases b with ⟨_ | q, hb⟩
  · rfl
  · have : q.x.val < pP := q.x.isLt
    simp only [Ec.num] at h
    omega
  · have : p.x.val < pP := p.x.isLt
    simp only [Ec.num] at h
    omega
  · simp only [Ec.num] at h
    have ex : p.x = q.x := Fin.ext (by omega)
    have hy : p.y * p.y = q.y * q.y := by
      have h1 : p.On := ha
      have h2 : q.On := hb
      unfold Pt.On at h1 h2
      rw [h1, h2, ex]
    have hs : (p.y - q.y) * (p.y + q.y) = 0 := by clear h ex ha hb; grind -lia
    refine congrArg some (Pt.ext2 ex ?_)
    rcases fp_mul hs with e | e
    · clear h ex ha hb hy hs; grind -lia
    · exfalso
      have e2 : p.y = -q.y := by clear h ex ha hb hy hs; grind -lia
      have h2 : q.On := hb
      have e3 : p.y.val = pP - q.y.val := by rw [e2]; exact fp_neg_val h2.y_ne
      have hl : q.y.val < pP := q.y.isLt
      have hpo : pP % 2 = 1 := by decide
      rw [ex] at h
      omega
theorem Ec.add4 (a b c d : Ec) : (a.add b).add (c.add d) = (a.add c).add (b.add d) := by
  rw [Ec.add_assoc a b, ← Ec.add_assoc b c d, Ec.add_comm b c, Ec.add_assoc c b d, ← Ec.add_assoc a c]
theorem Ec.mul_mod (a : Ec) {n : Nat} (hn : Ec.mul n a = Ec.zero) (k : Nat) : Ec.mul (k % n) a = Ec.mul k a := by
  have e : Ec.mul (n * (k / n) + k % n) a = Ec.mul k a := by rw [Nat.div_add_mod]
  rwa [Ec.mul_add, Ec.mul_mul, hn, Ec.mul_zero, Ec.zero_add] at e
theorem Ec.mul_gcd (a : Ec) (m n : Nat) : Ec.mul m a = Ec.zero → Ec.mul n a = Ec.zero → Ec.mul (Nat.gcd m n) a = Ec.zero := by
  induction m, n using Nat.gcd.induction with
  | H0 n => intro _ h; rwa [Nat.gcd_zero_left]
  | H1 m n hm ih =>
    intro h1 h2
    rw [Nat.gcd_rec]
    exact ih (by rw [Ec.mul_mod a h1]; exact h2) h1
theorem Ec.mul_sub (a : Ec) {i j : Nat} (hij : i ≤ j) (h : Ec.mul i a = Ec.mul j a) : Ec.mul (j - i) a = Ec.zero := by
  have e : Ec.mul (i + (j - i)) a = Ec.mul j a := by rw [Nat.add_sub_cancel' hij]
  rw [Ec.mul_add, ← h] at e
  refine Ec.cancel (a := Ec.mul i a) ?_
  rw [e, Ec.add_zero]
theorem Ec.mul_inj {a : Ec} {n : Nat} (hp : Pr n) (hn : Ec.mul n a = Ec.zero) (ha : a ≠ Ec.zero) {i j : Nat} (hi : i < n) (hj : j < n) (h : Ec.mul i a = Ec.mul j a) : i = j := by
  have key : ∀ i j, i < j → j < n → Ec.mul i a = Ec.mul j a → False := fun i j hij hj h => by
    have e := Ec.mul_sub a (Nat.le_of_lt hij) h
    have g := Ec.mul_gcd a n (j - i) hn e
    have c : Nat.gcd n (j - i) = 1 := hp.cop fun hd => by
      have := Nat.le_of_dvd (by omega) hd
      omega
    rw [c] at g
    exact ha (by rw [← g, Ec.mul, Ec.mul, Ec.zero_add])
  rcases Nat.lt_trichotomy i j with hl | rfl | hl
  · exact (key i j hl hj h).elim
  · rfl
  · exact (key j i hl hi h.symm).elim
theorem Ec.shift {a b g : Ec} {n i j : Nat} (hn : Ec.mul n g = Ec.zero) (hi : i < n) (h : a.add (Ec.mul i g) = b.add (Ec.mul j g)) : a = b.add (Ec.mul (j + (n - i)) g) := by
  have e : a.add (Ec.mul (i + (n - i)) g) = b.add (Ec.mul (j + (n - i)) g) := by
    rw [Ec.mul_add, ← Ec.add_assoc, h, Ec.add_assoc, ← Ec.mul_add]
  rw [Nat.add_sub_cancel' (Nat.le_of_lt hi), hn, Ec.add_zero] at e
  exact e
theorem Ec.all {g : Ec} (hn : Ec.mul nN g = Ec.zero) (hg : g ≠ Ec.zero) (a : Ec) : ∃ k, a = Ec.mul k g := by
  refine Classical.byContradiction fun hno => ?_
  have hno : ∀ k, a ≠ Ec.mul k g := fun k e => hno ⟨k, e⟩
  have hinj : ∀ {i j : Nat}, i < nN → j < nN → Ec.mul i g = Ec.mul j g → i = j := fun hi hj h => Ec.mul_inj pr_N hn hg hi hj h
  have h1 : ∀ i j, j < nN → Ec.mul i g ≠ a.add (Ec.mul j g) := fun i j hj h => by
    have e := Ec.shift (a := a) (b := Ec.zero) (j := i) hn hj (by rw [Ec.zero_add]; exact h.symm)
    rw [Ec.zero_add] at e
    exact hno _ e
  have h2 : ∀ i j, i < nN → Ec.mul i g ≠ a.neg.add (Ec.mul j g) := fun i j hi h => by
    have e : a.add (Ec.mul i g) = Ec.zero.add (Ec.mul j g) := by rw [h, ← Ec.add_assoc, Ec.add_neg]
    have e := Ec.shift hn hi e
    rw [Ec.zero_add] at e
    exact hno _ e
  have h3 : ∀ i j, i < nN → a.add (Ec.mul i g) ≠ a.neg.add (Ec.mul j g) := fun i j hi h => by
    have e := Ec.shift hn hi h
    obtain ⟨k, hk⟩ : ∃ k, k = j + (nN - i) := ⟨_, rfl⟩
    rw [← hk] at e
    have e2 : a.add a = Ec.mul k g := by
      have := congrArg (Ec.add a) e
      rwa [← Ec.add_assoc, Ec.add_neg, Ec.zero_add] at this
    obtain ⟨m, hm⟩ : ∃ m, m = (nN + 1) / 2 * k := ⟨_, rfl⟩
    have e3 : (Ec.mul m g).add (Ec.mul m g) = Ec.mul k g := by
      rw [← Ec.mul_add]
      have : m + m = nN * k + k := by
        rw [hm, ← Nat.add_mul, show (nN + 1) / 2 + (nN + 1) / 2 = nN + 1 from by decide, Nat.succ_mul]
      rw [this, Ec.mul_add, Ec.mul_mul, hn, Ec.mul_zero, Ec.zero_add]
    obtain ⟨b, hb⟩ : ∃ b, b = a.add (Ec.mul m g).neg := ⟨_, rfl⟩
    have eb : b.add (Ec.mul m g) = a := by rw [hb, Ec.add_assoc, Ec.neg_add, Ec.add_zero]
    have e4 : (b.add b).add (Ec.mul k g) = Ec.mul k g := by
      rw [← e3]
      rw [Ec.add4, eb, e2, e3]
    have e5 : b.add b = Ec.zero := by
      rw [Ec.add_comm] at e4
      exact Ec.cancel (e4.trans (Ec.add_zero _).symm)
    have e6 := Ec.no_two e5
    rw [e6, Ec.zero_add] at eb
    exact hno _ eb.symm
  have := pigeons (N := 3 * nN) (M := 2 * pP + 1) (f := fun i => (if i < nN then Ec.mul i g else if i < 2 * nN then a.add (Ec.mul (i - nN) g) else a.neg.add (Ec.mul (i - 2 * nN) g)).num) (fun i _ => Ec.num_lt _) (fun i hi j hj h => by
    have e := Ec.num_inj h
    clear h
    have ci : i < nN ∨ (¬ i < nN ∧ i < 2 * nN) ∨ (¬ i < nN ∧ ¬ i < 2 * nN) := by omega
    have cj : j < nN ∨ (¬ j < nN ∧ j < 2 * nN) ∨ (¬ j < nN ∧ ¬ j < 2 * nN) := by omega
    rcases ci with ci | ⟨ci, ci2⟩ | ⟨ci, ci2⟩ <;> rcases cj with cj | ⟨cj, cj2⟩ | ⟨cj, cj2⟩
    · simp only [ci, cj, if_true] at e
      exact hinj ci cj e
    · simp only [ci, cj, cj2, if_true, if_false] at e
      exact (h1 _ _ (by omega) e).elim
    · simp only [ci, cj, cj2, if_true, if_false] at e
      exact (h2 _ _ ci e).elim
    · simp only [ci, ci2, cj, if_true, if_false] at e
      exact (h1 _ _ (by omega) e.symm).elim
    · simp only [ci, ci2, cj, cj2, if_true, if_false] at e
      have := hinj (by omega) (by omega) (Ec.cancel e)
      omega
    · simp only [ci, ci2, cj, cj2, if_true, if_false] at e
      exact (h3 _ _ (by omega) e).elim
    · simp only [ci, ci2, cj, if_true, if_false] at e
      exact (h2 _ _ cj e.symm).elim
    · simp only [ci, ci2, cj, cj2, if_true, if_false] at e
      exact (h3 _ _ (by omega) e.symm).elim
    · simp only [ci, ci2, cj, cj2, if_false] at e
      have := hinj (by omega) (by omega) (Ec.cancel e)
      omega)
  revert this
  decide
end Go.Proofs.YtpimliebiapnfaaGreatDoor