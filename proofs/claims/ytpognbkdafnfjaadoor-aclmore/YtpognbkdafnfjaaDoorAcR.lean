/- Layer 13: rules, and what they tell of an address: facts alone. -/
import Derived.Test.YtpognbkdafnfjaaDoorAcF
namespace Go.Proofs.YtpognbkdafnfjaaDoor
set_option linter.unusedVariables false

structure Rl where
  p : Ad
  n : Int
  act : Int
deriving DecidableEq
/-- its words and numbers are such. -/
def Rl.ok (r : Rl) : Prop := r.p.ok ∧ (-9223372036854775808 ≤ r.n ∧ r.n ≤ 9223372036854775807) ∧ (-9223372036854775808 ≤ r.act ∧ r.act ≤ 9223372036854775807)
def Rl.good (r : Rl) : Prop := (0 ≤ r.n ∧ okP r.p r.n.toNat) ∧ (r.act = 1 ∨ r.act = 2 ∨ r.act = 3)
instance (r : Rl) : Decidable r.good := inferInstanceAs (Decidable (_ ∧ _))
def Rl.holds (r : Rl) (a : Ad) : Prop := 0 ≤ r.n ∧ Go.Proofs.YtpognbkdafnfjaaDoor.holds r.p r.n.toNat a
instance (r : Rl) (a : Ad) : Decidable (r.holds a) := inferInstanceAs (Decidable (_ ∧ _))
/-- they have other prefixes. -/
def Rl.apart (a b : Rl) : Prop := ¬ (a.p = b.p ∧ a.n = b.n)
instance (a b : Rl) : Decidable (a.apart b) := inferInstanceAs (Decidable (¬ _))
theorem Rl.apart.symm {a b : Rl} (h : a.apart b) : b.apart a := fun ⟨h1, h2⟩ => h ⟨h1.symm, h2.symm⟩
/-- rules may be. -/
def OkRs (rs : List Rl) : Prop := (∀ r ∈ rs, r.good) ∧ rs.Pairwise Rl.apart
theorem OkRs.nil : OkRs [] := ⟨by simp, by simp⟩
theorem okRs_snoc {rs : List Rl} {r : Rl} : OkRs (rs ++ [r]) ↔ OkRs rs ∧ r.good ∧ ∀ x ∈ rs, x.apart r := by
  unfold OkRs
  rw [List.pairwise_append]
  simp only [List.mem_append, List.mem_singleton, List.pairwise_singleton]
  constructor
  · rintro ⟨h1, h2, _, h3⟩
    exact ⟨⟨fun x hx => h1 x (.inl hx), h2⟩, h1 r (.inr rfl), fun x hx => h3 x hx r rfl⟩
  · rintro ⟨⟨h1, h2⟩, h3, h4⟩
    exact ⟨fun x hx => hx.elim (h1 x) (fun e => e ▸ h3), h2, trivial, fun x hx y hy => hy ▸ h4 x hx⟩
theorem OkRs.sub {rs rs' : List Rl} (h : OkRs (rs ++ rs')) : OkRs rs := ⟨fun r hr => h.1 r (by simp [hr]), (List.pairwise_append.1 h.2).1⟩
theorem OkRs.rev {rs : List Rl} (h : OkRs rs) : OkRs rs.reverse := ⟨fun r hr => h.1 r (by simpa using hr), by
  rw [List.pairwise_reverse]
  exact h.2.imp fun hab => hab.symm⟩
theorem OkRs.eq_of {rs : List Rl} (h : OkRs rs) {a b : Rl} (ha : a ∈ rs) (hb : b ∈ rs) (hp : a.p = b.p) (hn : a.n = b.n) : a = b := by
  induction rs with
  | nil => simp at ha
  | cons r rs ih =>
    have hs := List.pairwise_cons.1 h.2
    rcases List.mem_cons.1 ha with rfl | ha'
    · rcases List.mem_cons.1 hb with rfl | hb'
      · rfl
      · exact absurd ⟨hp, hn⟩ (hs.1 b hb')
    · rcases List.mem_cons.1 hb with rfl | hb'
      · exact absurd ⟨hp.symm, hn.symm⟩ (hs.1 a ha')
      · exact ih ⟨fun x hx => h.1 x (by simp [hx]), hs.2⟩ ha' hb'
/-- what is told of an address: what is done, a prefix, whether there is one. -/
structure Res where
  act : Int
  p : Ad
  n : Int
  is : Bool
deriving DecidableEq
def noRes : Res := ⟨2, ⟨false, 0, 0⟩, 0, false⟩
def Fnd (rs : List Rl) (a : Ad) (res : Res) : Prop := ((∀ r ∈ rs, ¬ r.holds a) ∧ res = noRes) ∨ ∃ r ∈ rs, r.holds a ∧ (∀ r' ∈ rs, r'.holds a → r'.n ≤ r.n) ∧ res = ⟨r.act, r.p, r.n, true⟩
theorem Fnd.uniq {rs : List Rl} {a : Ad} {x y : Res} (h : OkRs rs) (hx : Fnd rs a x) (hy : Fnd rs a y) : x = y := by
  rcases hx with ⟨h1, rfl⟩ | ⟨r, hr, hh, hm, rfl⟩
  · rcases hy with ⟨_, rfl⟩ | ⟨r, hr, hh, _, _⟩
    · rfl
    · exact absurd hh (h1 r hr)
  · rcases hy with ⟨h1, _⟩ | ⟨r', hr', hh', hm', rfl⟩
    · exact absurd hh (h1 r hr)
    · have hn : r.n = r'.n := Int.le_antisymm (hm' r hr hh) (hm r' hr' hh')
      obtain rfl : r = r' := h.eq_of hr hr' (by rw [← hh.2.2.2.2, ← hh'.2.2.2.2, hn]) hn
      rfl
theorem Fnd.mem {rs rs' : List Rl} {a : Ad} {x : Res} (h : ∀ r, r ∈ rs ↔ r ∈ rs') (hx : Fnd rs a x) : Fnd rs' a x := by
  rcases hx with ⟨h1, rfl⟩ | ⟨r, hr, hh, hm, rfl⟩
  · exact .inl ⟨fun r hr => h1 r ((h r).2 hr), rfl⟩
  · exact .inr ⟨r, (h r).1 hr, hh, fun r' hr' => hm r' ((h r').2 hr'), rfl⟩

/-! ### what is at the end of a way of bits -/
def Rl.at (r : Rl) (v : Bool) (q : List Bool) : Prop := r.p.v6 = v ∧ pth r.p r.n.toNat = q
instance (r : Rl) (v : Bool) (q : List Bool) : Decidable (r.at v q) := inferInstanceAs (Decidable (_ ∧ _))
def look : List Rl → Bool → List Bool → Int
  | [], _, _ => 0
  | r :: rs, v, q => if r.at v q then r.act else look rs v q
theorem look_snoc (rs : List Rl) (r : Rl) (v : Bool) (q : List Bool) (h : ∀ x ∈ rs, ¬ (x.at v q)) : look (rs ++ [r]) v q = if r.at v q then r.act else 0 := by
  induction rs with
  | nil => rfl
  | cons x rs ih =>
    rw [List.cons_append, look, if_neg (h x (by simp)), ih (fun y hy => h y (by simp [hy]))]
theorem look_other (rs : List Rl) (r : Rl) (v : Bool) (q : List Bool) (h : ¬ r.at v q) : look (rs ++ [r]) v q = look rs v q := by
  induction rs with
  | nil => simp [look, h]
  | cons x rs ih => rw [List.cons_append, look, look, ih]
theorem look_mem {rs : List Rl} {v : Bool} {q : List Bool} (h : look rs v q ≠ 0) : ∃ r ∈ rs, r.at v q ∧ look rs v q = r.act := by
  induction rs with
  | nil => exact absurd rfl h
  | cons r rs ih =>
    by_cases hr : r.at v q
    · exact ⟨r, by simp, hr, by rw [look, if_pos hr]⟩
    · rw [look, if_neg hr] at h
      obtain ⟨x, hx, h1, h2⟩ := ih h
      exact ⟨x, by simp [hx], h1, by rw [look, if_neg hr, h2]⟩
theorem look_none {rs : List Rl} {v : Bool} {q : List Bool} (hg : ∀ r ∈ rs, r.good) (h : look rs v q = 0) : ∀ r ∈ rs, ¬ r.at v q := by
  induction rs with
  | nil => simp
  | cons r rs ih =>
    by_cases hr : r.at v q
    · rw [look, if_pos hr] at h
      have := (hg r (by simp)).2
      omega
    · rw [look, if_neg hr] at h
      intro x hx
      rcases List.mem_cons.1 hx with rfl | hx
      · exact hr
      · exact ih (fun y hy => hg y (by simp [hy])) h x hx
theorem at_apart {a b : Rl} {v : Bool} {q : List Bool} (ha : a.ok) (hb : b.ok) (hga : a.good) (hgb : b.good) (h1 : a.at v q) (h2 : b.at v q) : ¬ a.apart b := by
  obtain ⟨h3, h4⟩ := pth_inj ha.1 hb.1 hga.1.2 hgb.1.2 (h1.1.trans h2.1.symm) (h1.2.trans h2.2.symm)
  have h5 := hga.1.1
  have h6 := hgb.1.1
  exact fun h => h ⟨h3, by omega⟩
theorem look_add {rs : List Rl} {r : Rl} (h : OkRs (rs ++ [r])) (ho : ∀ x ∈ rs ++ [r], x.ok) : (∀ v q, look (rs ++ [r]) v q = if r.at v q then r.act else look rs v q) ∧ look rs r.p.v6 (pth r.p r.n.toNat) = 0 := by
  have hs := okRs_snoc.1 h
  have hno : ∀ v q, r.at v q → ∀ x ∈ rs, ¬ x.at v q := fun v q hr x hx hxa => at_apart (ho x (by simp [hx])) (ho r (by simp)) (hs.1.1 x hx) hs.2.1 hxa hr (hs.2.2 x hx)
  have hzero : ∀ v q, r.at v q → look rs v q = 0 := fun v q hr => by
    by_cases hz : look rs v q = 0
    · exact hz
    · obtain ⟨x, hx, hxa, _⟩ := look_mem hz
      exact absurd hxa (hno v q hr x hx)
  refine ⟨fun v q => ?_, hzero _ _ ⟨rfl, rfl⟩⟩
  by_cases hr : r.at v q
  · rw [look_snoc _ _ _ _ (hno v q hr)]
    simp [hr]
  · rw [look_other _ _ _ _ hr, if_neg hr]
theorem not_add {rs : List Rl} {r : Rl} (h : OkRs rs) (hr : r.good) (ho : ∀ x ∈ rs ++ [r], x.ok) : OkRs (rs ++ [r]) ↔ look rs r.p.v6 (pth r.p r.n.toNat) = 0 := by
  constructor
  · intro h'
    exact (look_add h' ho).2
  · intro h'
    refine okRs_snoc.2 ⟨h, hr, fun x hx => ?_⟩
    have hn := look_none h.1 h' x hx
    rintro ⟨h1, h2⟩
    exact hn ⟨by rw [h1], by rw [h1, h2]⟩
/-- the last one on an address's way. -/
def Best (A : Bool → List Bool → Int) (a : Ad) (m : Nat) (act : Int) (bits : Nat) : Prop :=
  (act = 0 ∧ bits = 0 ∧ ∀ k, k < m → A a.v6 (pth a k) = 0) ∨ (act ≠ 0 ∧ bits < m ∧ A a.v6 (pth a bits) = act ∧ ∀ k, bits < k → k < m → A a.v6 (pth a k) = 0)
theorem Best.zero (A : Bool → List Bool → Int) (a : Ad) : Best A a 0 0 0 := .inl ⟨rfl, rfl, fun k hk => by omega⟩
theorem Best.none {A : Bool → List Bool → Int} {a : Ad} {m : Nat} {act : Int} {bits : Nat} (h : Best A a m act bits) (hn : A a.v6 (pth a m) = 0) : Best A a (m + 1) act bits := by
  rcases h with ⟨h1, h2, h3⟩ | ⟨h1, h2, h3, h4⟩
  · refine .inl ⟨h1, h2, fun k hk => ?_⟩
    rcases Nat.lt_or_eq_of_le (Nat.le_of_lt_succ hk) with h | rfl
    · exact h3 k h
    · exact hn
  · refine .inr ⟨h1, by omega, h3, fun k hk hk' => ?_⟩
    rcases Nat.lt_or_eq_of_le (Nat.le_of_lt_succ hk') with h | rfl
    · exact h4 k hk h
    · exact hn
theorem Best.some {A : Bool → List Bool → Int} {a : Ad} {m : Nat} (hn : A a.v6 (pth a m) ≠ 0) : Best A a (m + 1) (A a.v6 (pth a m)) m :=
  .inr ⟨hn, by omega, rfl, fun k hk hk' => by omega⟩
theorem Best.far {A : Bool → List Bool → Int} {a : Ad} {m m' : Nat} {act : Int} {bits : Nat} (h : Best A a m act bits) (hle : m ≤ m') (hn : ∀ k, m ≤ k → k < m' → A a.v6 (pth a k) = 0) : Best A a m' act bits := by
  rcases h with ⟨h1, h2, h3⟩ | ⟨h1, h2, h3, h4⟩
  · exact .inl ⟨h1, h2, fun k hk => if h : k < m then h3 k h else hn k (by omega) hk⟩
  · exact .inr ⟨h1, by omega, h3, fun k hk hk' => if h : k < m then h4 k hk h else hn k (by omega) hk'⟩
theorem at_holds {r : Rl} {a : Ad} {k : Nat} (ho : r.ok) (ha : a.ok) (hr : a.right) (hg : r.good) (hk : k ≤ a.wd) : r.at a.v6 (pth a k) ↔ r.holds a ∧ r.n = k := by
  constructor
  · rintro ⟨h1, h2⟩
    have hl : r.n.toNat = k := by have := congrArg List.length h2; rwa [pth_len, pth_len] at this
    have h0 := hg.1.1
    refine ⟨⟨h0, (holds_iff ho.1 ha).2 ⟨hg.1.2, hr, h1, ?_⟩⟩, by omega⟩
    rw [h2, hl]
  · rintro ⟨⟨h0, h1⟩, h2⟩
    have h3 := (holds_iff ho.1 ha).1 h1
    refine ⟨h3.2.2.1, ?_⟩
    rw [h3.2.2.2]
    congr 1
    omega
theorem best_fnd {rs : List Rl} {a : Ad} {act : Int} {bits : Nat} (h : ∀ r ∈ rs, r.good) (ho : ∀ r ∈ rs, r.ok) (ha : a.ok) (hr : a.right) (hb : Best (look rs) a (a.wd + 1) act bits) :
    Fnd rs a (if act = 0 then noRes else ⟨act, a.fst bits, bits, true⟩) := by
  rcases hb with ⟨h1, _, h3⟩ | ⟨h1, h2, h3, h4⟩
  · rw [if_pos h1]
    refine .inl ⟨fun r hr' hh => ?_, rfl⟩
    have hle : r.n.toNat ≤ a.wd := by rw [← wd_v6 hh.2.2.2.1]; exact hh.2.1.2.1
    have h0 := hh.1
    exact look_none h (h3 r.n.toNat (by omega)) r hr' ((at_holds (ho r hr') ha hr (h r hr') hle).2 ⟨hh, by omega⟩)
  · rw [if_neg h1]
    obtain ⟨r, hr', hra, hact⟩ := look_mem (rs := rs) (v := a.v6) (q := pth a bits) (by rw [h3]; exact h1)
    have hh := (at_holds (ho r hr') ha hr (h r hr') (by omega)).1 hra
    refine .inr ⟨r, hr', hh.1, fun r' hr'' hh' => ?_, ?_⟩
    · have hle : r'.n.toNat ≤ a.wd := by rw [← wd_v6 hh'.2.2.2.1]; exact hh'.2.1.2.1
      have h0 := hh'.1
      have hn : r.n = (bits : Int) := hh.2
      by_cases hlt : bits < r'.n.toNat
      · exact absurd ((at_holds (ho r' hr'') ha hr (h r' hr'') hle).2 ⟨hh', by omega⟩) (look_none h (h4 r'.n.toNat hlt (by omega)) r' hr'')
      · omega
    · have e1 := hh.1.2.2.2.2
      rw [show r.n.toNat = bits by have := hh.2; omega] at e1
      rw [hh.2, e1, ← hact, h3]
end Go.Proofs.YtpognbkdafnfjaaDoor
