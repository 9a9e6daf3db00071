/- Texts of this proof, joined: CRep, CDoc, CNum, CNumD, CBase, CEq. -/
import Derived.Test.YtpimliebiapnfaaGreatDoorJ6
import Derived.Test.YtpimliebiapnfaaGreatDoorJ5
import Derived.Deep.MidRow
import Derived.Great.FillDense
import Derived.Deep.RegionHeld3
import Derived.Laws.EntriesVeiled
import Derived.ChangeKeysEq
/- Points with their divisions put off are points of the curve: sums and doubles of them. Nothing here speaks of the program. -/
namespace Go.Proofs.YtpimliebiapnfaaGreatDoor
set_option linter.unusedVariables false
def Rep (j : Jp) : Option Pt → Prop
  | none => j = Jp.zero
  | some p => j.z ≠ 0 ∧ j.x = p.x * (j.z * j.z) ∧ j.y = p.y * (j.z * j.z * j.z)
theorem fp_mul_ne {x y : Fp} (hx : x ≠ 0) (hy : y ≠ 0) : x * y ≠ 0 := fun h => by
  rcases fp_mul h with h | h
  · exact hx h
  · exact hy h
theorem Rep.scl {j : Jp} {a : Option Pt} (h : Rep j a) {k : Fp} (hk : k ≠ 0) : Rep (j.scl k) a := by
  cases a with
  | none =>
    have : j = Jp.zero := h
    subst this
    unfold Jp.scl Jp.zero
    simp only [Rep, Jp.zero, Jp.mk.injEq]
    refine ⟨?_, ?_, ?_⟩ <;> clear hk h <;> grind -lia
  | some p =>
    obtain ⟨h1, h2, h3⟩ := h
    refine ⟨fp_mul_ne h1 hk, ?_, ?_⟩ <;> simp only [Jp.scl]
    · rw [h2]; clear h1 h2 h3 hk; grind -lia
    · rw [h3]; clear h1 h2 h3 hk; grind -lia
theorem Pt.On.ne_neg {p : Pt} (h : p.On) : p ≠ p.neg := fun e => by
  have e3 : p.y = -p.y := congrArg Pt.y e
  exact h.yy_ne (by clear e; grind -lia)
theorem rep_twice {X Y m t z : Fp} (hy : Y = m * X + t) (hm : 2 * Y * m = 3 * X * X - 3) :
    Jp.twice ⟨X * (z * z), Y * (z * z * z), z⟩ = ⟨(m * m - X - X) * ((2 * Y * (z * z * (z * z))) * (2 * Y * (z * z * (z * z)))), -(m * (m * m - X - X) + t) * ((2 * Y * (z * z * (z * z))) * (2 * Y * (z * z * (z * z))) * (2 * Y * (z * z * (z * z)))), 2 * Y * (z * z * (z * z))⟩ := by
  have e : 3 * ((X * (z * z) + z * z) * (X * (z * z) - z * z)) = 2 * Y * m * (z * z * (z * z)) := by rw [hm]; clear hm hy; grind -lia
  have et : t = Y - m * X := by clear hm e; grind -lia
  subst et
  unfold Jp.twice Jp.third Jp.scl
  simp only
  rw [e]
  clear e hm hy
  simp only [Jp.mk.injEq]
  refine ⟨?_, ?_, ?_⟩ <;> grind -lia
theorem Rep.twice {j : Jp} {a c : Option Pt} (h : Rep j a) (ha : OnO a) (hc : Adds a a c) : Rep j.twice c := by
  cases a with
  | none =>
    have : j = Jp.zero := h
    subst this
    rw [Adds.same hc (.left _)]
    unfold Jp.twice Jp.third Jp.scl Jp.zero
    simp only [Rep, Jp.zero, Jp.mk.injEq]
    refine ⟨?_, ?_, ?_⟩ <;> clear h ha hc <;> decide +kernel
  | some p =>
    have hp : p.On := ha
    obtain ⟨m, t, r, hl⟩ := Line.mk2 hp hp hp.ne_neg
    have e : c = some r.neg := Adds.same hc (.line (m := m) (t := t) (by rwa [Pt.neg_neg]))
    subst e
    obtain ⟨h1, h2, h3⟩ := h
    obtain ⟨x, y, z⟩ := j
    simp only at h1 h2 h3
    subst h2
    subst h3
    rw [rep_twice hl.lp (tangent hl.lp hl.ls hl.lt)]
    have er : r.x = m * m - p.x - p.x := by
      have := hl.ls
      clear hl h1 hc
      grind -lia
    refine ⟨fp_mul_ne hp.yy_ne (fp_mul_ne (fp_mul_ne h1 h1) (fp_mul_ne h1 h1)), ?_, ?_⟩ <;> simp only [Pt.neg]
    · rw [er]
    · rw [hl.lr, er]
theorem rep_third {X Y X2 m t z : Fp} (hy : Y = m * X + t) :
    Jp.third ⟨X * (z * z), Y * (z * z * z), z⟩ ⟨X2 * (z * z), (m * X2 + t) * (z * z * z), z⟩ ((m * X2 + t) * (z * z * z) - Y * (z * z * z)) (X2 * (z * z) - X * (z * z)) =
      ⟨(m * m - X - X2) * (((X2 - X) * (z * z * z)) * ((X2 - X) * (z * z * z))), -(m * (m * m - X - X2) + t) * (((X2 - X) * (z * z * z)) * ((X2 - X) * (z * z * z)) * ((X2 - X) * (z * z * z))), (X2 - X) * (z * z * z)⟩ := by
  subst hy
  unfold Jp.third Jp.scl
  simp only [Jp.mk.injEq]
  refine ⟨?_, ?_, ?_⟩ <;> grind -lia
theorem Rep.third {j k : Jp} {p q : Pt} {c : Option Pt} (h : Rep j (some p)) (g : Rep k (some q)) (hz : j.z = k.z) (hp : p.On) (hq : q.On) (hne : p.x ≠ q.x) (hc : Adds (some p) (some q) c) :
    Rep (j.third k (k.y - j.y) (k.x - j.x)) c := by
  obtain ⟨m, t, r, hl⟩ := Line.mk2 hp hq (fun e => hne (by rw [e]; rfl))
  have e : c = some r.neg := Adds.same hc (.line (m := m) (t := t) (by rwa [Pt.neg_neg]))
  subst e
  obtain ⟨h1, h2, h3⟩ := h
  obtain ⟨g1, g2, g3⟩ := g
  obtain ⟨x, y, z⟩ := j
  obtain ⟨x', y', z'⟩ := k
  simp only at h1 h2 h3 g1 g2 g3 hz
  subst hz
  subst h2 h3 g2 g3
  rw [hl.lq, rep_third hl.lp]
  have er : r.x = m * m - p.x - q.x := by
    have := hl.ls
    clear hl h1 hc hne
    grind -lia
  refine ⟨fp_mul_ne (fp_sub fun e => hne e.symm) (fp_mul_ne (fp_mul_ne h1 h1) h1), ?_, ?_⟩ <;> simp only [Pt.neg]
  · rw [er]
  · rw [hl.lr, er]
instance : DecidableEq Jp := fun a b => if h : a.x = b.x ∧ a.y = b.y ∧ a.z = b.z then .isTrue (by cases a; cases b; simp_all) else .isFalse (fun e => h (by subst e; exact ⟨rfl, rfl, rfl⟩))
def Jp.opp (a : Jp) : Jp := ⟨a.x, 0 - a.y, a.z⟩
def Jp.sum (a b : Jp) : Jp :=
  if a = Jp.zero then b else if b = Jp.zero then a else
    let c := a.scl b.z
    let d := b.scl a.z
    if c = d then c.twice else if c = d.opp then Jp.zero else c.third d (d.y - c.y) (d.x - c.x)
theorem Rep.ne {j : Jp} {p : Pt} (h : Rep j (some p)) : j ≠ Jp.zero := fun e => by
  subst e
  exact h.1 rfl
theorem Rep.same {j k : Jp} {p q : Pt} (h : Rep j (some p)) (g : Rep k (some q)) (hz : j.z = k.z) : (j.x = k.x ↔ p.x = q.x) ∧ (j.y = k.y ↔ p.y = q.y) := by
  obtain ⟨h1, h2, h3⟩ := h
  obtain ⟨g1, g2, g3⟩ := g
  rw [h2, h3, g2, g3, hz]
  have n2 := fp_mul_ne g1 g1
  have n3 := fp_mul_ne n2 g1
  refine ⟨⟨fun e => fp_cancel n2 ?_, fun e => by rw [e]⟩, ⟨fun e => fp_cancel n3 ?_, fun e => by rw [e]⟩⟩
  · rw [fp_mul_comm, e, fp_mul_comm]
  · rw [fp_mul_comm, e, fp_mul_comm]
theorem Rep.opp {j : Jp} {p : Pt} (h : Rep j (some p)) : Rep j.opp (some p.neg) := by
  obtain ⟨h1, h2, h3⟩ := h
  refine ⟨h1, h2, ?_⟩
  simp only [Jp.opp, Pt.neg]
  rw [h3]
  clear h1 h2 h3
  grind -lia
theorem Rep.eq {j k : Jp} {p q : Pt} (h : Rep j (some p)) (g : Rep k (some q)) (hz : j.z = k.z) : j = k ↔ p = q := by
  obtain ⟨h1, h2⟩ := h.same g hz
  constructor
  · intro e
    exact Pt.ext2 (h1.1 (by rw [e])) (h2.1 (by rw [e]))
  · intro e
    have a1 := h1.2 (by rw [e])
    have a2 := h2.2 (by rw [e])
    cases j; cases k; simp_all
theorem Rep.sum {j k : Jp} {a b c : Option Pt} (h : Rep j a) (g : Rep k b) (ha : OnO a) (hb : OnO b) (hc : Adds a b c) : Rep (j.sum k) c := by
  cases a with
  | none =>
    have e : j = Jp.zero := h
    rw [Adds.same hc (.left _), Jp.sum, if_pos e]
    exact g
  | some p =>
    rw [Jp.sum, if_neg h.ne]
    cases b with
    | none =>
      have e : k = Jp.zero := g
      rw [Adds.same hc (.right _), if_pos e]
      exact h
    | some q =>
      rw [if_neg g.ne]
      have h' := h.scl g.1
      have g' := g.scl h.1
      have hz : (j.scl k.z).z = (k.scl j.z).z := fp_mul_comm _ _
      have hp : p.On := ha
      have hq : q.On := hb
      simp only
      by_cases e1 : j.scl k.z = k.scl j.z
      · rw [if_pos e1]
        have e2 := (h'.eq g' hz).1 e1
        subst e2
        exact h'.twice ha hc
      · rw [if_neg e1]
        have e2 : p ≠ q := fun e => e1 ((h'.eq g' hz).2 e)
        by_cases e3 : j.scl k.z = (k.scl j.z).opp
        · rw [if_pos e3]
          have e4 := (h'.eq g'.opp hz).1 e3
          subst e4
          have := Adds.opp q.neg
          rw [Pt.neg_neg] at this
          rw [Adds.same hc this]
          rfl
        · rw [if_neg e3]
          have e4 : p ≠ q.neg := fun e => e3 ((h'.eq g'.opp hz).2 e)
          refine h'.third g' hz hp hq (fun ex => ?_) hc
          have hy : p.y * p.y = q.y * q.y := by
            unfold Pt.On at hp hq
            rw [hp, hq, ex]
          rcases fp_sq hy with e | e
          · exact e2 (Pt.ext2 ex e)
          · exact e4 (Pt.ext2 ex e)
def Jp.times (a : Jp) : Nat → Nat → Jp
  | 0, _ => Jp.zero
  | f + 1, k =>
    let h := (a.times f (k / 2)).twice
    if k % 2 = 1 then h.sum a else h
theorem Rep.times {j : Jp} {a : Ec} (h : Rep j a.o) : ∀ f k, k < 2 ^ f → Rep (j.times f k) (Ec.mul k a).o
  | 0, k, hk => by
    have : k = 0 := by simp at hk; omega
    subst this
    rfl
  | f + 1, k, hk => by
    have ih := Rep.times h f (k / 2) (by rw [Nat.pow_succ] at hk; omega)
    have i2 := ih.twice (Ec.mul (k / 2) a).on (Ec.add_adds _ _)
    rw [← Ec.mul_add] at i2
    rw [Jp.times]
    split
    · rename_i hk2
      have i3 := i2.sum h (Ec.mul (k / 2 + k / 2) a).on a.on (Ec.add_adds _ _)
      have e : k / 2 + k / 2 + 1 = k := by omega
      have i4 : Rep (((j.times f (k / 2)).twice).sum j) (Ec.mul (k / 2 + k / 2 + 1) a).o := i3
      rw [e] at i4
      exact i4
    · rename_i hk2
      have e : k / 2 + k / 2 = k := by omega
      rw [e] at i2
      exact i2
def bX : Nat := 48439561293906451759052585252797914202762949526041747995844080717082404635286
def bY : Nat := 36134250956749795798585127919587881956611106672985015071877198253568414405109
def ecG : Ec := ⟨some ⟨fz bX, fz bY⟩, by unfold OnO Pt.On; decide +kernel⟩
end Go.Proofs.YtpimliebiapnfaaGreatDoor
/- The document's own steps, in the field: its twice, plus and sum are the sums of the curve's points. Nothing here speaks of the program. -/
namespace Go.Proofs.YtpimliebiapnfaaGreatDoor
set_option linter.unusedVariables false
def Jp.dtwice (a : Jp) : Jp :=
  if a.z = 0 then a else
    let yy := a.y * a.y
    let zz := a.z * a.z
    let s := 4 * (a.x * yy)
    let m := 3 * ((a.x - zz) * (a.x + zz))
    let x := m * m - (s + s)
    ⟨x, m * (s - x) - 8 * (yy * yy), (a.y + a.y) * a.z⟩
def Jp.dplus (a : Jp) (b : Pt) : Jp :=
  if a.z = 0 then ⟨b.x, b.y, 1⟩ else
    let zz := a.z * a.z
    let h := b.x * zz - a.x
    let r := b.y * zz * a.z - a.y
    if h = 0 then if r = 0 then a.dtwice else Jp.zero else
      let hh := h * h
      let v := a.x * hh
      let hhh := hh * h
      let x := r * r - hhh - (v + v)
      ⟨x, r * (v - x) - a.y * hhh, a.z * h⟩
theorem Rep.z_none {j : Jp} {a : Option Pt} (h : Rep j a) (hz : j.z = 0) : a = none := by
  cases a with
  | none => rfl
  | some p => exact absurd hz h.1
theorem Jp.dtwice_eq {a : Jp} (h : a.z ≠ 0) : a.dtwice = a.twice := by
  rw [Jp.dtwice, if_neg h]
  unfold Jp.twice Jp.third Jp.scl
  simp only [Jp.mk.injEq]
  refine ⟨?_, ?_, ?_⟩ <;> grind -lia
theorem Rep.dtwice {j : Jp} {a c : Option Pt} (h : Rep j a) (ha : OnO a) (hc : Adds a a c) : Rep j.dtwice c := by
  by_cases hz : j.z = 0
  · have e := h.z_none hz
    subst e
    rw [Adds.same hc (.left _), Jp.dtwice, if_pos hz]
    exact h
  · rw [Jp.dtwice_eq hz]
    exact h.twice ha hc
theorem rep_one (b : Pt) : Rep ⟨b.x, b.y, 1⟩ (some b) := by
  refine ⟨?_, ?_, ?_⟩
  · exact fun h => by
      have := fz_lt (a := 1) (b := 0) (by decide) (by decide) h
      omega
  · simp only; grind -lia
  · simp only; grind -lia
theorem Rep.dplus {j : Jp} {a c : Option Pt} {b : Pt} (h : Rep j a) (ha : OnO a) (hb : b.On) (hc : Adds a (some b) c) : Rep (j.dplus b) c := by
  by_cases hz : j.z = 0
  · have e := h.z_none hz
    subst e
    rw [Adds.same hc (.left _), Jp.dplus, if_pos hz]
    exact rep_one b
  · cases a with
    | none => exact absurd (by have e : j = Jp.zero := h; rw [e]; rfl) hz
    | some p =>
      have hp : p.On := ha
      have g := (rep_one b).scl hz
      rw [Jp.dplus, if_neg hz]
      have ez : j.z = (Jp.scl ⟨b.x, b.y, 1⟩ j.z).z := by simp only [Jp.scl]; grind -lia
      obtain ⟨s1, s2⟩ := h.same g ez
      have ex : (Jp.scl ⟨b.x, b.y, 1⟩ j.z).x = b.x * (j.z * j.z) := rfl
      have ey : (Jp.scl ⟨b.x, b.y, 1⟩ j.z).y = b.y * (j.z * j.z * j.z) := rfl
      simp only
      by_cases h0 : b.x * (j.z * j.z) - j.x = 0
      · rw [if_pos h0]
        have e1 : p.x = b.x := s1.1 (by rw [ex]; clear s1 s2 g h hc ez ex ey; grind -lia)
        by_cases r0 : b.y * (j.z * j.z) * j.z - j.y = 0
        · rw [if_pos r0]
          have e2 : p.y = b.y := s2.1 (by rw [ey]; clear s1 s2 g h hc ez ex ey h0; grind -lia)
          have e3 := Pt.ext2 e1 e2
          subst e3
          exact h.dtwice ha hc
        · rw [if_neg r0]
          have e2 : p.y ≠ b.y := fun e => r0 (by have := s2.2 e; rw [ey] at this; clear s1 s2 g h hc ez ex ey h0 r0; grind -lia)
          have hy : p.y * p.y = b.y * b.y := by
            unfold Pt.On at hp hb
            rw [hp, hb, e1]
          rcases fp_sq hy with e | e
          · exact absurd e e2
          · have e4 : p = b.neg := Pt.ext2 e1 e
            subst e4
            have := Adds.opp b.neg
            rw [Pt.neg_neg] at this
            rw [Adds.same hc this]
            rfl
      · rw [if_neg h0]
        have e1 : p.x ≠ b.x := fun e => h0 (by have := s1.2 e; rw [ex] at this; clear s1 s2 g h hc ez ex ey h0; grind -lia)
        have := h.third g ez hp hb e1 hc
        rw [ex, ey] at this
        refine Eq.mp (congrArg (fun w => Rep w c) ?_) this
        clear s1 s2 g h hc ez ex ey h0 this e1 hp ha hb
        unfold Jp.third Jp.scl
        simp only [Jp.mk.injEq]
        refine ⟨?_, ?_, ?_⟩ <;> grind -lia
theorem adds_slope {p q : Pt} {s : Fp} (hp : p.On) (hq : q.On) (h : (p.x ≠ q.x ∧ s * (q.x - p.x) = q.y - p.y) ∨ (p = q ∧ s * (p.y + p.y) = 3 * (p.x * p.x) - 3)) :
    Adds (some p) (some q) (some ⟨s * s - p.x - q.x, s * (p.x - (s * s - p.x - q.x)) - p.y⟩) := by
  have hne : p ≠ q.neg := fun e => by
    rcases h with ⟨h, _⟩ | ⟨h, _⟩
    · exact h (by rw [e]; rfl)
    · exact hq.ne_neg (h.symm.trans e)
  obtain ⟨m, t, r, hl⟩ := Line.mk2 hp hq hne
  have em : m = s := by
    rcases h with ⟨h1, h2⟩ | ⟨h1, h2⟩
    · refine fp_cancel (fp_sub fun e => h1 e.symm) (u := q.x - p.x) ?_
      have e1 := hl.lp
      have e2 := hl.lq
      clear hl h1 hne hp hq
      grind -lia
    · subst h1
      refine fp_cancel hp.yy_ne ?_
      rw [tangent hl.lp hl.ls hl.lt]
      clear hl hne hp hq
      grind -lia
  subst em
  have er : r.x = m * m - p.x - q.x := by
    have := hl.ls
    clear hl hne h
    grind -lia
  have et : t = p.y - m * p.x := by
    have := hl.lp
    clear hl hne h er
    grind -lia
  have e : (⟨m * m - p.x - q.x, m * (p.x - (m * m - p.x - q.x)) - p.y⟩ : Pt) = r.neg := by
    refine Pt.ext2 er.symm ?_
    simp only [Pt.neg]
    rw [hl.lr, er, et]
    clear hl hne h er et
    grind -lia
  rw [e]
  exact .line (m := m) (t := t) (by rwa [Pt.neg_neg])
theorem Rep.plain {j : Jp} {p : Pt} {i : Fp} (h : Rep j (some p)) (hi : j.z * i = 1) : j.x * (i * i) = p.x ∧ j.y * (i * i * i) = p.y := by
  obtain ⟨h1, h2, h3⟩ := h
  rw [h2, h3]
  constructor
  · have e : p.x * (j.z * j.z) * (i * i) = p.x * ((j.z * i) * (j.z * i)) := by clear hi h1 h2 h3; grind -lia
    rw [e, hi]; clear hi h1 h2 h3 e; grind -lia
  · have e : p.y * (j.z * j.z * j.z) * (i * i * i) = p.y * ((j.z * i) * (j.z * i) * (j.z * i)) := by clear hi h1 h2 h3; grind -lia
    rw [e, hi]; clear hi h1 h2 h3 e; grind -lia
end Go.Proofs.YtpimliebiapnfaaGreatDoor
/- The program's own steps, as numbers: each is the field's. Nothing here walks the program. -/
namespace Go.Proofs.YtpimliebiapnfaaGreatDoor
set_option linter.unusedVariables false
def mplus (a b : Nat) : Nat := if a + b < pP then a + b else a + b - pP
def mminus (a b : Nat) : Nat := if b ≤ a then a - b else pP - (b - a)
def mtimes (a b : Nat) : Nat := a * b % pP
theorem mplus_lt {a b : Nat} (ha : a < pP) (hb : b < pP) : mplus a b < pP := by unfold mplus; split <;> omega
theorem mminus_lt {a b : Nat} (ha : a < pP) (hb : b < pP) : mminus a b < pP := by unfold mminus; split <;> omega
theorem mtimes_lt (a b : Nat) : mtimes a b < pP := Nat.mod_lt _ (by decide)
theorem fz_plus (a b : Nat) : fz (mplus a b) = fz a + fz b := by
  unfold mplus
  split
  · exact fz_add a b
  · rw [fz_sub (by omega), fz_add, fz_p]
    generalize fz a = x
    generalize fz b = y
    grind -lia
theorem fz_minus {a b : Nat} (hb : b < pP) : fz (mminus a b) = fz a - fz b := by
  unfold mminus
  split
  · exact fz_sub ‹_›
  · rw [fz_sub (by omega), fz_sub (by omega), fz_p]
    generalize fz a = x
    generalize fz b = y
    grind -lia
theorem fz_times (a b : Nat) : fz (mtimes a b) = fz a * fz b := by
  unfold mtimes
  rw [fz_mod, fz_mul]
structure T3 where
  x : Nat
  y : Nat
  z : Nat
deriving DecidableEq
def T3.zero : T3 := ⟨0, 0, 0⟩
def T3.jp (a : T3) : Jp := ⟨fz a.x, fz a.y, fz a.z⟩
def T3.Ok (a : T3) : Prop := a.x < pP ∧ a.y < pP ∧ a.z < pP
theorem T3.zero_ok : T3.zero.Ok := by unfold T3.Ok T3.zero; decide
theorem T3.jp_inj {a b : T3} (ha : a.Ok) (hb : b.Ok) : a.jp = b.jp ↔ a = b := by
  constructor
  · intro h
    have h1 := fz_lt ha.1 hb.1 (congrArg Jp.x h)
    have h2 := fz_lt ha.2.1 hb.2.1 (congrArg Jp.y h)
    have h3 := fz_lt ha.2.2 hb.2.2 (congrArg Jp.z h)
    cases a; cases b; simp_all
  · intro h; rw [h]
def T3.scl (a : T3) (k : Nat) : T3 := ⟨mtimes a.x (mtimes k k), mtimes a.y (mtimes (mtimes k k) k), mtimes a.z k⟩
theorem T3.scl_ok (a : T3) (k : Nat) : (a.scl k).Ok := ⟨mtimes_lt _ _, mtimes_lt _ _, mtimes_lt _ _⟩
theorem T3.scl_jp (a : T3) (k : Nat) : (a.scl k).jp = a.jp.scl (fz k) := by
  simp only [T3.scl, T3.jp, Jp.scl, fz_times]
def T3.third (a b : T3) (rise run : Nat) : T3 :=
  let bx := mtimes b.x (mtimes run run)
  let c := a.scl run
  let x := mminus (mminus (mtimes rise rise) c.x) bx
  ⟨x, mminus (mtimes rise (mminus c.x x)) c.y, c.z⟩
theorem T3.third_ok (a b : T3) (rise run : Nat) : (a.third b rise run).Ok := by
  have hc := a.scl_ok run
  have hx := mminus_lt (mminus_lt (mtimes_lt rise rise) hc.1) (mtimes_lt b.x (mtimes run run))
  exact ⟨hx, mminus_lt (mtimes_lt _ _) hc.2.1, hc.2.2⟩
theorem T3.third_jp (a b : T3) (rise run : Nat) : (a.third b rise run).jp = a.jp.third b.jp (fz rise) (fz run) := by
  have hc := a.scl_ok run
  have hx := mminus_lt (mminus_lt (mtimes_lt rise rise) hc.1) (mtimes_lt b.x (mtimes run run))
  have e := a.scl_jp run
  have e1 := congrArg Jp.x e
  have e2 := congrArg Jp.y e
  have e3 := congrArg Jp.z e
  simp only [T3.jp] at e1 e2 e3
  unfold T3.third Jp.third
  simp only [T3.jp]
  rw [fz_minus hc.2.1, fz_times, fz_minus hx, fz_minus (mtimes_lt _ _), fz_minus hc.1, fz_times, fz_times, fz_times, e1, e2, e3]
def T3.twice (a : T3) : T3 :=
  let square := mtimes a.z a.z
  a.third a (mtimes 3 (mtimes (mplus a.x square) (mminus a.x square))) (mplus a.y a.y)
theorem T3.twice_ok (a : T3) : a.twice.Ok := T3.third_ok _ _ _ _
theorem T3.twice_jp (a : T3) : a.twice.jp = a.jp.twice := by
  unfold T3.twice Jp.twice
  simp only
  rw [T3.third_jp, fz_times, fz_times, fz_plus, fz_minus (mtimes_lt _ _), fz_times, fz_plus, fz_3]
  rfl
def T3.opp (a : T3) : T3 := ⟨a.x, mminus 0 a.y, a.z⟩
theorem T3.opp_ok {a : T3} (h : a.Ok) : a.opp.Ok := ⟨h.1, mminus_lt (by decide) h.2.1, h.2.2⟩
theorem T3.opp_jp {a : T3} (h : a.Ok) : a.opp.jp = a.jp.opp := by
  simp only [T3.opp, T3.jp, Jp.opp, fz_minus h.2.1, fz_0]
def T3.sum (a b : T3) : T3 :=
  if a = T3.zero then b else if b = T3.zero then a else
    let c := a.scl b.z
    let d := b.scl a.z
    if c = d then c.twice else if c = d.opp then T3.zero else c.third d (mminus d.y c.y) (mminus d.x c.x)
theorem T3.sum_ok {a b : T3} (ha : a.Ok) (hb : b.Ok) : (a.sum b).Ok := by
  unfold T3.sum
  simp only
  split
  · exact hb
  · split
    · exact ha
    · split
      · exact T3.twice_ok _
      · split
        · exact T3.zero_ok
        · exact T3.third_ok _ _ _ _
theorem T3.sum_jp {a b : T3} (ha : a.Ok) (hb : b.Ok) : (a.sum b).jp = a.jp.sum b.jp := by
  have h1 : a.jp = Jp.zero ↔ a = T3.zero := T3.jp_inj ha T3.zero_ok
  have h2 : b.jp = Jp.zero ↔ b = T3.zero := T3.jp_inj hb T3.zero_ok
  have hc := a.scl_ok b.z
  have hd := b.scl_ok a.z
  have h3 := T3.jp_inj hc hd
  have h4 := T3.jp_inj hc (T3.opp_ok hd)
  rw [T3.opp_jp hd] at h4
  have ec : (a.scl b.z).jp = a.jp.scl b.jp.z := T3.scl_jp _ _
  have ed : (b.scl a.z).jp = b.jp.scl a.jp.z := T3.scl_jp _ _
  unfold T3.sum Jp.sum
  simp only [← ec, ← ed, h1, h2, h3, h4]
  split
  · rfl
  · split
    · rfl
    · split
      · exact T3.twice_jp _
      · split
        · rfl
        · rw [T3.third_jp, fz_minus hc.2.1, fz_minus hc.1]
          rfl
def T3.times (a : T3) : Nat → Nat → T3
  | 0, _ => T3.zero
  | f + 1, k => if k % 2 = 1 then ((a.times f (k / 2)).twice).sum a else (a.times f (k / 2)).twice
theorem T3.times_ok {a : T3} (ha : a.Ok) : ∀ f k, (a.times f k).Ok
  | 0, _ => T3.zero_ok
  | f + 1, k => by
    rw [T3.times]
    split
    · exact T3.sum_ok (T3.twice_ok _) ha
    · exact T3.twice_ok _
theorem T3.times_jp {a : T3} (ha : a.Ok) : ∀ f k, (a.times f k).jp = a.jp.times f k
  | 0, _ => rfl
  | f + 1, k => by
    rw [T3.times, Jp.times, ← T3.times_jp ha f (k / 2), ← T3.twice_jp]
    split
    · exact T3.sum_jp (T3.twice_ok _) ha
    · rfl
theorem T3.rep_sum {a b : T3} {p q : Ec} (ha : a.Ok) (hb : b.Ok) (h : Rep a.jp p.o) (g : Rep b.jp q.o) : Rep (a.sum b).jp (p.add q).o := by
  rw [T3.sum_jp ha hb]
  exact h.sum g p.on q.on (Ec.add_adds p q)
theorem T3.rep_times {a : T3} {p : Ec} (ha : a.Ok) (h : Rep a.jp p.o) {f k : Nat} (hk : k < 2 ^ f) : Rep (a.times f k).jp (Ec.mul k p).o := by
  rw [T3.times_jp ha]
  exact Rep.times h f k hk
end Go.Proofs.YtpimliebiapnfaaGreatDoor
/- The document's own steps, as numbers: each is the field's. Nothing here walks the document. -/
namespace Go.Proofs.YtpimliebiapnfaaGreatDoor
set_option linter.unusedVariables false
theorem dadd_eq {a b : Nat} (ha : a < pP) (hb : b < pP) : (a + b) % pP = mplus a b := by
  unfold mplus
  split
  · exact Nat.mod_eq_of_lt ‹_›
  · rw [Nat.mod_eq_sub_mod (by omega)]
    exact Nat.mod_eq_of_lt (by omega)
theorem dsub_eq {a b : Nat} (ha : a < pP) (hb : b < pP) : (a + pP - b) % pP = mminus a b := by
  unfold mminus
  split
  · rw [Nat.mod_eq_sub_mod (by omega), show a + pP - b - pP = a - b from by omega]
    exact Nat.mod_eq_of_lt (by omega)
  · rw [show a + pP - b = pP - (b - a) from by omega]
    exact Nat.mod_eq_of_lt (by omega)
theorem fz_4 : fz 4 = 4 := rfl
theorem fz_8 : fz 8 = 8 := rfl
theorem fz_eq0 {a : Nat} (h : a < pP) : fz a = 0 ↔ a = 0 :=
  ⟨fun e => fz_lt h (by decide) (e.trans fz_0.symm), fun e => by rw [e, fz_0]⟩
def T3.dtwice (a : T3) : T3 :=
  if a.z = 0 then a else
    let yy := mtimes a.y a.y
    let zz := mtimes a.z a.z
    let s := mtimes 4 (mtimes a.x yy)
    let m := mtimes 3 (mtimes (mminus a.x zz) (mplus a.x zz))
    let x := mminus (mtimes m m) (mplus s s)
    ⟨x, mminus (mtimes m (mminus s x)) (mtimes 8 (mtimes yy yy)), mtimes (mplus a.y a.y) a.z⟩
theorem T3.dtwice_ok {a : T3} (h : a.Ok) : a.dtwice.Ok := by
  unfold T3.dtwice
  simp only
  split
  · exact h
  · exact ⟨mminus_lt (mtimes_lt _ _) (mplus_lt (mtimes_lt _ _) (mtimes_lt _ _)), mminus_lt (mtimes_lt _ _) (mtimes_lt _ _), mtimes_lt _ _⟩
theorem T3.dtwice_jp {a : T3} (h : a.Ok) : a.dtwice.jp = a.jp.dtwice := by
  have hz : a.jp.z = 0 ↔ a.z = 0 := fz_eq0 h.2.2
  unfold T3.dtwice Jp.dtwice
  simp only [hz]
  split
  · rfl
  · have hx : ∀ s m, mminus (mtimes m m) (mplus (mtimes 4 s) (mtimes 4 s)) < pP := fun s m => mminus_lt (mtimes_lt _ _) (mplus_lt (mtimes_lt _ _) (mtimes_lt _ _))
    have hp : ∀ s, mplus (mtimes 4 s) (mtimes 4 s) < pP := fun s => mplus_lt (mtimes_lt _ _) (mtimes_lt _ _)
    simp only [T3.jp, fz_minus (mtimes_lt _ _), fz_minus (hx _ _), fz_minus (hp _), fz_times, fz_plus, fz_4, fz_8, fz_3]
def T3.dplus (a : T3) (bx byy : Nat) : T3 :=
  if a.z = 0 then ⟨bx, byy, 1⟩ else
    let zz := mtimes a.z a.z
    let h := mminus (mtimes bx zz) a.x
    let r := mminus (mtimes (mtimes byy zz) a.z) a.y
    if h = 0 then if r = 0 then a.dtwice else T3.zero else
      let hh := mtimes h h
      let v := mtimes a.x hh
      let hhh := mtimes hh h
      let x := mminus (mminus (mtimes r r) hhh) (mplus v v)
      ⟨x, mminus (mtimes r (mminus v x)) (mtimes a.y hhh), mtimes a.z h⟩
theorem T3.dplus_ok {a : T3} (h : a.Ok) {bx byy : Nat} (h1 : bx < pP) (h2 : byy < pP) : (a.dplus bx byy).Ok := by
  unfold T3.dplus
  simp only
  split
  · exact ⟨h1, h2, show 1 < pP from by decide⟩
  · split
    · split
      · exact T3.dtwice_ok h
      · exact T3.zero_ok
    · exact ⟨mminus_lt (mminus_lt (mtimes_lt _ _) (mtimes_lt _ _)) (mplus_lt (mtimes_lt _ _) (mtimes_lt _ _)), mminus_lt (mtimes_lt _ _) (mtimes_lt _ _), mtimes_lt _ _⟩
theorem T3.dplus_jp {a : T3} (h : a.Ok) {bx byy : Nat} (h1 : bx < pP) (h2 : byy < pP) : (a.dplus bx byy).jp = a.jp.dplus ⟨fz bx, fz byy⟩ := by
  have hz : a.jp.z = 0 ↔ a.z = 0 := fz_eq0 h.2.2
  have hh := fz_eq0 (mminus_lt (mtimes_lt bx (mtimes a.z a.z)) h.1)
  have hr := fz_eq0 (mminus_lt (mtimes_lt (mtimes byy (mtimes a.z a.z)) a.z) h.2.1)
  rw [fz_minus h.1, fz_times, fz_times] at hh
  rw [fz_minus h.2.1, fz_times, fz_times, fz_times] at hr
  unfold T3.dplus Jp.dplus
  simp only [hz]
  split
  · rfl
  · simp only [T3.jp, hh, hr]
    split
    · split
      · exact T3.dtwice_jp h
      · rfl
    · have hv : ∀ u v, mplus (mtimes u v) (mtimes u v) < pP := fun _ _ => mplus_lt (mtimes_lt _ _) (mtimes_lt _ _)
      have hx : ∀ r u w t v, mminus (mminus (mtimes r r) (mtimes u w)) (mplus (mtimes t v) (mtimes t v)) < pP := fun _ _ _ _ _ => mminus_lt (mminus_lt (mtimes_lt _ _) (mtimes_lt _ _)) (hv _ _)
      simp only [fz_minus (mtimes_lt _ _), fz_minus (hx _ _ _ _ _), fz_minus (hv _ _), fz_minus h.1, fz_minus h.2.1, fz_times, fz_plus]
def T3.dtimes (bx byy : Nat) : Nat → Nat → T3
  | 0, _ => T3.zero
  | f + 1, k => if k % 2 = 1 then ((T3.dtimes bx byy f (k / 2)).dtwice).dplus bx byy else (T3.dtimes bx byy f (k / 2)).dtwice
theorem T3.dtimes_rep {bx byy : Nat} (h1 : bx < pP) (h2 : byy < pP) (p : Ec) (hp : p.o = some ⟨fz bx, fz byy⟩) : ∀ f k, k < 2 ^ f → (T3.dtimes bx byy f k).Ok ∧ Rep (T3.dtimes bx byy f k).jp (Ec.mul k p).o
  | 0, k, hk => by
    have : k = 0 := by simp at hk; omega
    subst this
    exact ⟨T3.zero_ok, rfl⟩
  | f + 1, k, hk => by
    obtain ⟨ok, ih⟩ := T3.dtimes_rep h1 h2 p hp f (k / 2) (by rw [Nat.pow_succ] at hk; omega)
    have i2 := ih.dtwice (Ec.mul (k / 2) p).on (Ec.add_adds _ _)
    rw [← Ec.mul_add, ← T3.dtwice_jp ok] at i2
    have ok2 := T3.dtwice_ok ok
    rw [T3.dtimes]
    split
    · rename_i hk2
      have hon : Pt.On ⟨fz bx, fz byy⟩ := by
        have := p.on
        rw [hp] at this
        exact this
      have ha := Ec.add_adds (Ec.mul (k / 2 + k / 2) p) p
      rw [hp] at ha
      have i3 := i2.dplus (Ec.mul (k / 2 + k / 2) p).on hon ha
      rw [← T3.dplus_jp ok2 h1 h2] at i3
      have e : k / 2 + k / 2 + 1 = k := by omega
      have i4 : Rep (((T3.dtimes bx byy f (k / 2)).dtwice).dplus bx byy).jp (Ec.mul (k / 2 + k / 2 + 1) p).o := i3
      rw [e] at i4
      exact ⟨T3.dplus_ok ok2 h1 h2, i4⟩
    · rename_i hk2
      have e : k / 2 + k / 2 = k := by omega
      rw [e] at i2
      exact ⟨ok2, i2⟩
theorem T3.told {a : T3} {p : Pt} {i : Nat} (h : Rep a.jp (some p)) (hi : a.z * i % pP = 1) : mtimes a.x (mtimes i i) = p.x.val ∧ mtimes a.y (mtimes (mtimes i i) i) = p.y.val := by
  have e : a.jp.z * fz i = 1 := by
    have : fz (a.z * i) = fz 1 := fz_eq (by rw [hi]; decide)
    rw [fz_mul] at this
    exact this
  obtain ⟨e1, e2⟩ := h.plain e
  have f1 : fz (mtimes a.x (mtimes i i)) = p.x := by rw [fz_times, fz_times]; exact e1
  have f2 : fz (mtimes a.y (mtimes (mtimes i i) i)) = p.y := by rw [fz_times, fz_times, fz_times]; exact e2
  constructor
  · rw [← f1]; exact (Nat.mod_eq_of_lt (mtimes_lt _ _)).symm
  · rw [← f2]; exact (Nat.mod_eq_of_lt (mtimes_lt _ _)).symm
theorem cop_p {a : Nat} (h : a < pP) (h0 : a ≠ 0) : Nat.gcd a pP = 1 := by
  rw [Nat.gcd_comm]
  exact pr_P.cop fun hd => by
    have := Nat.le_of_dvd (Nat.pos_of_ne_zero h0) hd
    omega
theorem cop_n {a : Nat} (h : a < nN) (h0 : a ≠ 0) : Nat.gcd a nN = 1 := by
  rw [Nat.gcd_comm]
  exact pr_N.cop fun hd => by
    have := Nat.le_of_dvd (Nat.pos_of_ne_zero h0) hd
    omega
end Go.Proofs.YtpimliebiapnfaaGreatDoor
/- Layer 7's ground: points as wholes, boxes that stay. -/
namespace Go.Proofs.YtpimliebiapnfaaGreatDoor
set_option linter.unusedVariables false
open Go.RowKit
noncomputable def ptL (a : T3) : List Value := N.natL a.x ++ N.natL a.y ++ N.natL a.z
theorem ptL_len (a : T3) : (ptL a).length = 387 := by simp [ptL, N.natL_len]
theorem ptL_cells (a : T3) : ∀ v ∈ ptL a, v.oneCell' = true := fun v hv => by
  rw [ptL] at hv
  rcases List.mem_append.1 hv with h | h
  · rcases List.mem_append.1 h with h | h
    · exact N.natL_cells _ v h
    · exact N.natL_cells _ v h
  · exact N.natL_cells _ v h
structure Fm (W : World) (l : List (Nat × Obj)) (w : World) : Prop where
  has : ∀ (i b : Nat) (o : Obj), l[i]? = some (b, o) → w.heap[b]? = some o
  own : ∀ p ∈ l, W.heap.size ≤ p.1
  nd : (l.map Prod.fst).Nodup
  bel : Below W.heap.size W w
theorem Fm.start (W : World) : Fm W [] W := ⟨fun _ _ _ h => by simp at h, fun _ h => by simp at h, by simp, Below.refl _ _⟩
theorem Fm.get {W w : World} {l : List (Nat × Obj)} (h : Fm W l w) (i : Nat) {b : Nat} {o : Obj} (e : l[i]? = some (b, o)) : w.heap[b]? = some o := h.has i b o e
theorem Fm.drew {W w : World} {l : List (Nat × Obj)} (h : Fm W l w) : Fm W l w.drew := ⟨h.has, h.own, h.nd, h.bel.drew⟩
theorem Fm.blk {W w w' : World} {l : List (Nat × Obj)} (h : Fm W l w) (hb : Below w.heap.size w w') : Fm W l w' :=
  ⟨fun i b o e => (hb.block _ (N.box_lt (h.has i b o e))).trans (h.has i b o e), h.own, h.nd, N.bthen h.bel hb⟩
theorem Fm.alloc {W w : World} {l : List (Nat × Obj)} (h : Fm W l w) (o : Obj) : Fm W l (w.alloc o) := h.blk ((Below.refl _ _).alloc (Nat.le_refl _) _)
theorem Fm.new {W w : World} {l : List (Nat × Obj)} (h : Fm W l w) (o : Obj) : Fm W ((w.heap.size, o) :: l) (w.alloc o) where
  has := fun i b o' e => by
    cases i with
    | zero =>
      simp only [List.getElem?_cons_zero, Option.some.injEq, Prod.mk.injEq] at e
      obtain ⟨rfl, rfl⟩ := e
      exact N.heap_new _ _
    | succ i => exact (h.alloc o).has i b o' (by simpa using e)
  own := fun p hp => by
    rcases List.mem_cons.1 hp with rfl | hp
    · exact h.bel.size
    · exact h.own p hp
  nd := by
    rw [List.map_cons, List.nodup_cons]
    refine ⟨fun hm => ?_, h.nd⟩
    obtain ⟨p, hp, e⟩ := List.mem_map.1 hm
    obtain ⟨i, hi⟩ := List.getElem?_of_mem hp
    have := N.box_lt (h.has i p.1 p.2 hi)
    omega
  bel := (h.alloc o).bel
theorem Fm.old {W w : World} {l : List (Nat × Obj)} (h : Fm W l w) {b : Nat} {o : Obj} (e : W.heap[b]? = some o) : w.heap[b]? = some o := (h.bel.block _ (N.box_lt e)).trans e
theorem Fm.lt {W w : World} {l : List (Nat × Obj)} (h : Fm W l w) (i : Nat) {b : Nat} {o : Obj} (e : l[i]? = some (b, o)) : b < w.heap.size := N.box_lt (h.get i e)
theorem Fm.put {W w : World} {l : List (Nat × Obj)} (h : Fm W l w) (i : Nat) {b : Nat} {L : Array Value} {t : TypeId} (x : Array Value) (e : l[i]? = some (b, .cells L t (0, 0))) : Fm W (l.set i (b, .cells x t (0, 0))) (w.setRow b x) where
  has := fun j b' o' e' => by
    by_cases hij : i = j
    · subst hij
      have hl : i < l.length := (List.getElem?_eq_some_iff.1 e).1
      rw [List.getElem?_set_self hl] at e'
      simp only [Option.some.injEq, Prod.mk.injEq] at e'
      obtain ⟨rfl, rfl⟩ := e'
      exact setRow_heap _ _ _ _ _ _ (h.get i e)
    · rw [List.getElem?_set_ne hij] at e'
      have hne : b ≠ b' := by
        intro hb
        have h1 : (l.map Prod.fst)[i]? = some b := by rw [List.getElem?_map, e]; rfl
        have h2 : (l.map Prod.fst)[j]? = some b := by rw [List.getElem?_map, e', hb]; rfl
        obtain ⟨l1, g1⟩ := List.getElem?_eq_some_iff.1 h1
        obtain ⟨l2, g2⟩ := List.getElem?_eq_some_iff.1 h2
        rcases Nat.lt_or_gt_of_ne hij with hh | hh
        · exact List.pairwise_iff_getElem.1 h.nd i j l1 l2 hh (g1.trans g2.symm)
        · exact List.pairwise_iff_getElem.1 h.nd j i l2 l1 hh (g2.trans g1.symm)
      exact (setRow_other _ _ _ _ (Ne.symm hne)).trans (h.get j e')
  own := fun p hp => by
    rcases List.mem_or_eq_of_mem_set hp with hp | rfl
    · exact h.own p hp
    · exact h.own (b, .cells L t (0, 0)) (List.mem_of_getElem? e)
  nd := by
    have : (l.set i (b, Obj.cells x t (0, 0))).map Prod.fst = l.map Prod.fst := by
      rw [List.map_set]
      have h1 : (l.map Prod.fst)[i]? = some b := by rw [List.getElem?_map, e]; rfl
      obtain ⟨l1, g1⟩ := List.getElem?_eq_some_iff.1 h1
      rw [← g1, List.set_getElem_self]
    rw [this]
    exact h.nd
  bel := N.below_row h.bel (h.own _ (List.mem_of_getElem? e)) _
theorem Fm.box1 (W : World) (o1 : Obj) : Fm W [(W.heap.size, o1)] (W.alloc o1) := (Fm.start W).new o1
theorem Fm.box2 (W : World) (o1 o2 : Obj) : Fm W [(W.heap.size + 1, o2), (W.heap.size, o1)] ((W.alloc o1).alloc o2) := by
  have h := (Fm.box1 W o1).new o2
  rwa [show (W.alloc o1).heap.size = W.heap.size + 1 by simp] at h
theorem Fm.box3 (W : World) (o1 o2 o3 : Obj) : Fm W [(W.heap.size + 2, o3), (W.heap.size + 1, o2), (W.heap.size, o1)] (((W.alloc o1).alloc o2).alloc o3) := by
  have h := (Fm.box2 W o1 o2).new o3
  rwa [show ((W.alloc o1).alloc o2).heap.size = W.heap.size + 2 by simp] at h
theorem Fm.box4 (W : World) (o1 o2 o3 o4 : Obj) : Fm W [(W.heap.size + 3, o4), (W.heap.size + 2, o3), (W.heap.size + 1, o2), (W.heap.size, o1)] ((((W.alloc o1).alloc o2).alloc o3).alloc o4) := by
  have h := (Fm.box3 W o1 o2 o3).new o4
  rwa [show (((W.alloc o1).alloc o2).alloc o3).heap.size = W.heap.size + 3 by simp] at h
theorem Fm.box5 (W : World) (o1 o2 o3 o4 o5 : Obj) : Fm W [(W.heap.size + 4, o5), (W.heap.size + 3, o4), (W.heap.size + 2, o3), (W.heap.size + 1, o2), (W.heap.size, o1)] (((((W.alloc o1).alloc o2).alloc o3).alloc o4).alloc o5) := by
  have h := (Fm.box4 W o1 o2 o3 o4).new o5
  rwa [show ((((W.alloc o1).alloc o2).alloc o3).alloc o4).heap.size = W.heap.size + 4 by simp] at h
theorem Fm.late {W V w : World} {l : List (Nat × Obj)} (hV : Fm W l V) (h : Fm W l w) {A x : Array Value} {t : TypeId} (e : w.heap[V.heap.size]? = some (.cells A t (0, 0))) : Fm W ((V.heap.size, .cells x t (0, 0)) :: l) (w.setRow V.heap.size x) where
  has := fun i b o e' => by
    cases i with
    | zero =>
      simp only [List.getElem?_cons_zero, Option.some.injEq, Prod.mk.injEq] at e'
      obtain ⟨rfl, rfl⟩ := e'
      exact setRow_heap _ _ _ _ _ _ e
    | succ i =>
      have e'' : l[i]? = some (b, o) := by simpa using e'
      have := hV.lt i e''
      exact (setRow_other _ _ _ _ (by omega)).trans (h.get i e'')
  own := fun p hp => by
    rcases List.mem_cons.1 hp with rfl | hp
    · exact hV.bel.size
    · exact h.own p hp
  nd := (hV.new (.cells A t (0, 0))).nd
  bel := N.below_row h.bel hV.bel.size _
def ptLoad (v : Value) : Sem Value := Instr.loadAt 40 v
def ptStore (a x : Value) : Sem Unit := Instr.storeAt 40 a x
theorem loadAt_pt (v : Value) : Instr.loadAt 40 v = ptLoad v := rfl
theorem storeAt_pt (a x : Value) : Instr.storeAt 40 a x = ptStore a x := rfl
theorem sizePt : (Tryz.prog.info? 40).map (·.size) = some 387 := by kernel_rfl
theorem pt_loadV {W : World} {b : Nat} {a : T3} {fz : Nat × Nat} (h : W.heap[b]? = some (.cells (ptL a).toArray 40 fz)) : (loadVar 40 ⟨b, 0, none⟩).run Tryz.prog W = .ok (.agg (ptL a).toArray) W :=
  run_loadVar_row W b _ _ _ fz _ h Tryz.underlying40 rfl (by rw [List.size_toArray, ptL_len]; exact sizePt)
theorem ptLoad_run {W : World} {b : Nat} {a : T3} (h : W.heap[b]? = some (.cells (ptL a).toArray 40)) : (ptLoad (.pointer (some ⟨b, 0, none⟩))).run Tryz.prog W = .ok (.agg (ptL a).toArray) W := by
  unfold ptLoad
  simp only [Instr.loadAt, Instr.sureAddr, Sem.run_bind, Sem.run_pure, Result.andThen]
  exact pt_loadV h
theorem ptStore_run {W : World} {b : Nat} {a c : T3} (h : W.heap[b]? = some (.cells (ptL a).toArray 40)) : (ptStore (.pointer (some ⟨b, 0, none⟩)) (.agg (ptL c).toArray)).run Tryz.prog W = .ok () (W.setRow b (ptL c).toArray) := by
  unfold ptStore
  simp only [Instr.storeAt, Instr.sureAddr, Sem.run_bind, Sem.run_pure, Result.andThen]
  exact run_storeVar_row W b _ _ _ _ h (by rw [List.size_toArray, ptL_len]; exact sizePt) (by rw [List.size_toArray, List.size_toArray, ptL_len, ptL_len]) (by simpa using ptL_cells c)
theorem natLoad_mid {W : World} {b o n t : Nat} {L A B : List Value} {fz : Nat × Nat} (h : W.heap[b]? = some (.cells L.toArray t fz)) (hL : L = A ++ N.natL n ++ B) (ho : A.length = o) : (N.natLoad (.pointer (some ⟨b, o, none⟩))).run Tryz.prog W = .ok (.agg (N.natL n).toArray) W := by
  refine run_loadAt_mid W b o _ (N.natL n) _ (fun j v hv => ?_) Tryz.underlying38 rfl (by rw [N.natL_len]; exact N.size26)
  subst hL ho
  have : (A ++ N.natL n ++ B)[A.length + j]? = some v := by
    obtain ⟨hl, hg⟩ := List.getElem?_eq_some_iff.1 hv
    rw [List.append_assoc, List.getElem?_append_right (by omega), Nat.add_sub_cancel_left, List.getElem?_append_left hl]
    exact hv
  unfold World.cell?
  simp only [h]
  simpa using this
theorem natLoad_any {W : World} {b n t : Nat} (h : W.heap[b]? = some (.cells (N.natL n).toArray t (0, 0))) : (N.natLoad (.pointer (some ⟨b, 0, none⟩))).run Tryz.prog W = .ok (.agg (N.natL n).toArray) W :=
  natLoad_mid (A := []) (B := []) h (by simp) rfl
theorem ptX {W : World} {b : Nat} {a : T3} (h : W.heap[b]? = some (.cells (ptL a).toArray 40)) : (N.natLoad (.pointer (some ⟨b, 0, none⟩))).run Tryz.prog W = .ok (.agg (N.natL a.x).toArray) W :=
  natLoad_mid (A := []) (B := N.natL a.y ++ N.natL a.z) h (by simp [ptL]) rfl
theorem ptY {W : World} {b : Nat} {a : T3} (h : W.heap[b]? = some (.cells (ptL a).toArray 40)) : (N.natLoad (.pointer (some ⟨b, 129, none⟩))).run Tryz.prog W = .ok (.agg (N.natL a.y).toArray) W :=
  natLoad_mid (A := N.natL a.x) (B := N.natL a.z) h (by simp [ptL]) (N.natL_len _)
theorem ptZ {W : World} {b : Nat} {a : T3} (h : W.heap[b]? = some (.cells (ptL a).toArray 40)) : (N.natLoad (.pointer (some ⟨b, 258, none⟩))).run Tryz.prog W = .ok (.agg (N.natL a.z).toArray) W :=
  natLoad_mid (A := N.natL a.x ++ N.natL a.y) (B := []) h (by simp [ptL]) (by simp [N.natL_len])
theorem ptst1 (w : World) (a c : T3) : (ptStore (.pointer (some ⟨w.heap.size, 0, none⟩)) (.agg (ptL c).toArray)).run Tryz.prog (w.alloc (.cells (ptL a).toArray 40)) = .ok () (w.alloc (.cells (ptL c).toArray 40)) := by
  rw [ptStore_run (N.heap_new _ _), N.setRow_new]
theorem ptst1d (w : World) (a c : T3) : (ptStore (.pointer (some ⟨w.heap.size, 0, none⟩)) (.agg (ptL c).toArray)).run Tryz.prog (w.alloc (.cells (ptL a).toArray 40)).drew = .ok () (w.alloc (.cells (ptL c).toArray 40)).drew := ptst1 w.drew a c
theorem ptZero : (ptL T3.zero).toArray = ((N.wl (List.replicate 128 0) ++ [Value.int .i64 0]) ++ (N.wl (List.replicate 128 0) ++ [Value.int .i64 0]) ++ (N.wl (List.replicate 128 0) ++ [Value.int .i64 0])).toArray := by
  unfold ptL T3.zero
  simp only [N.natZ]
theorem zeroPt (W : World) : (zeroValue 40).run Tryz.prog W = .ok (.agg (ptL T3.zero).toArray) W := by
  rw [ptZero]
  kernel_rfl
def ptBuild0 : Sem Value := Instr.build 40 #[]
theorem build_pt0 : Instr.build 40 #[] = ptBuild0 := rfl
theorem build_pt0' (f : Nat × Operand → Nat × Value) : Instr.build 40 (Array.map f #[]) = ptBuild0 := by rw [Array.map_empty]; rfl
theorem ptBuild0_run (W : World) : ptBuild0.run Tryz.prog W = .ok (.agg (ptL T3.zero).toArray) W := by
  rw [ptZero]
  kernel_rfl
def ptBuild (x y z : Value) : Sem Value := Instr.build 40 #[(0, x), (1, y), (2, z)]
def ptBuild3 (p q r : Nat × Value) : Sem Value := Instr.build 40 #[p, q, r]
theorem build_pt (x y z : Value) : ptBuild3 (0, x) (1, y) (2, z) = ptBuild x y z := rfl
theorem build_pt' (f : Nat × Operand → Nat × Value) (x y z : Nat × Operand) : Instr.build 40 (Array.map f #[x, y, z]) = ptBuild3 (f x) (f y) (f z) := by simp [ptBuild3]
theorem fold_mid (A M B L : List Value) (hl : L.length = M.length) (o : Nat) (ho : A.length = o) : L.toArray.zipIdx.foldl (fun cs (x : Value × Nat) => cs.setIfInBounds (o + x.2) x.1) (A ++ M ++ B).toArray = (A ++ L ++ B).toArray := by
  subst ho
  rw [← Array.foldl_toList, Array.toList_zipIdx]
  obtain ⟨_, h2⟩ := Great.foldl_set A.length L 0 (A ++ M ++ B).toArray
  apply Array.ext_getElem?
  intro k
  rw [show (L.toArray.toList.zipIdx 0) = L.zipIdx 0 from rfl, h2 k]
  simp only [Nat.add_zero, List.size_toArray, List.length_append, List.getElem?_toArray]
  split
  · rename_i hk
    rw [List.append_assoc, List.getElem?_append_right (by omega), List.getElem?_append_left (by omega)]
  · rename_i hk
    by_cases h1 : k < A.length
    · rw [List.append_assoc, List.append_assoc, List.getElem?_append_left h1, List.getElem?_append_left h1]
    · rw [List.append_assoc, List.append_assoc, List.getElem?_append_right (l₁ := A) (by omega), List.getElem?_append_right (l₁ := A) (by omega)]
      by_cases h3 : k < A.length + M.length + B.length
      · rw [List.getElem?_append_right (l₁ := M) (by omega), List.getElem?_append_right (l₁ := L) (by omega), hl]
      · rw [List.getElem?_eq_none (by rw [List.length_append]; omega), List.getElem?_eq_none (by rw [List.length_append]; omega)]
set_option maxRecDepth 100000 in
theorem ptBuild_run (x y z : Nat) (W : World) : (ptBuild (.agg (N.natL x).toArray) (.agg (N.natL y).toArray) (.agg (N.natL z).toArray)).run Tryz.prog W = .ok (.agg (ptL ⟨x, y, z⟩).toArray) W := by
  have hpl : (#[(⟨0, 129⟩ : Nat × Nat), (129, 129), (258, 129)]) = #[(0, 129), (129, 129), (258, 129)] := rfl
  have hf : Instr.fill (fun i => (#[(0, 129), (129, 129), (258, 129)] : Array (Nat × Nat))[i]?) (ptL T3.zero).toArray [(0, .agg (N.natL x).toArray), (1, .agg (N.natL y).toArray), (2, .agg (N.natL z).toArray)] = some (ptL ⟨x, y, z⟩).toArray := by
    have n0 := N.natL_len 0
    have nx := N.natL_len x
    have ny := N.natL_len y
    have nz := N.natL_len z
    have e0 : (ptL T3.zero).toArray = ([] ++ N.natL 0 ++ (N.natL 0 ++ N.natL 0)).toArray := by simp [ptL, T3.zero]
    have f0 := fold_mid [] (N.natL 0) (N.natL 0 ++ N.natL 0) (N.natL x) (by rw [nx, n0]) 0 rfl
    have f1 := fold_mid (N.natL x) (N.natL 0) (N.natL 0) (N.natL y) (by rw [ny, n0]) 129 nx
    have f2 := fold_mid (N.natL x ++ N.natL y) (N.natL 0) [] (N.natL z) (by rw [nz, n0]) 258 (by simp [nx, ny])
    rw [e0]
    unfold Instr.fill
    simp only [Value.cells, List.getElem?_toArray, List.getElem?_cons_zero, List.size_toArray]
    rw [if_neg (by simp [n0, nx]), f0]
    unfold Instr.fill
    simp only [Value.cells, List.getElem?_cons_zero, List.getElem?_cons_succ, List.size_toArray]
    rw [if_neg (by simp [n0, nx, ny]), show [] ++ N.natL x ++ (N.natL 0 ++ N.natL 0) = N.natL x ++ N.natL 0 ++ N.natL 0 by simp, f1]
    unfold Instr.fill
    simp only [Value.cells, List.getElem?_cons_zero, List.getElem?_cons_succ, List.size_toArray]
    rw [if_neg (by simp [n0, nx, ny, nz]), show N.natL x ++ N.natL y ++ N.natL 0 = N.natL x ++ N.natL y ++ N.natL 0 ++ [] by simp, f2]
    unfold Instr.fill
    simp [ptL]
  unfold ptBuild Instr.build
  have hu : Tryz.prog.underlying 40 = some (.struct (Tryz.prog.fieldsOf 40)) := by kernel_rfl
  have hp : (((Tryz.prog.fieldsOf 40).mapM fun f => do pure (f.offset, ← sizeOf f.type)) : Sem (Array (Nat × Nat))).run Tryz.prog W = .ok #[(0, 129), (129, 129), (258, 129)] W := by kernel_rfl
  simp only [Sem.run_bind, zeroPt, Result.andThen_ok, run_underlying hu]
  rw [hp]
  simp only [Result.andThen_ok]
  rw [show Value.cells (.agg (ptL T3.zero).toArray) = (ptL T3.zero).toArray from rfl]
  simp only [hf]
  rfl
end Go.Proofs.YtpimliebiapnfaaGreatDoor
/- Numbers and points compared as wholes. -/
namespace Go.Proofs.YtpimliebiapnfaaGreatDoor
set_option linter.unusedVariables false
set_option linter.unusedSimpArgs false
open Go.RowKit
theorem eqItems_u32 (d : Nat) (W : World) (xs ys : Array Value) (f g : Nat → BitVec 32) : ∀ (l : List Nat), (∀ i ∈ l, xs[i]? = some (.int .u32 ((f i).toNat : Int)) ∧ ys[i]? = some (.int .u32 ((g i).toNat : Int))) →
    (Op.eqItems (d + 1) 35 1 xs ys l).run Tryz.prog W = .ok (l.all fun i => f i == g i) W
  | [], _ => by simp [Op.eqItems]
  | i :: l, h => by
    obtain ⟨h1, h2⟩ := h i (by simp)
    have he : Tryz.prog.plainKey 35 = true := by kernel_rfl
    have hu : Tryz.prog.underlying 35 = some (.int .u32) := by kernel_rfl
    have ih := eqItems_u32 d W xs ys f g l fun j hj => h j (by simp [hj])
    simp only [Op.eqItems, Nat.mul_one, Sem.run_bind, run_part_plain W he h1, run_part_plain W he h2, Result.andThen_ok, run_equalIn_int W d _ .u32 .u32 _ _ hu, List.all_cons]
    by_cases e : f i = g i
    · rw [e]
      simpa using ih
    · have e2 : (((f i).toNat : Int) == ((g i).toNat : Int)) = false := by
        rw [beq_eq_false_iff_ne]
        intro h
        exact e (BitVec.eq_of_toNat_eq (by omega))
      have e3 : (f i == g i) = false := by rw [beq_eq_false_iff_ne]; exact e
      simp [e2, e3]
theorem nat_inj {a b : Nat} (ha : a < N.Lim) (hb : b < N.Lim) : (∀ i, i < 128 → (N.dg a)[i]?.getD 0 = (N.dg b)[i]?.getD 0) → a = b := by
  intro h
  rw [← N.dg_val a ha, ← N.dg_val b hb]
  congr 1
  apply List.ext_getElem?
  intro i
  by_cases hi : i < 128
  · have h1 : i < (N.dg a).length := by rw [N.dg_len]; exact hi
    have h2 : i < (N.dg b).length := by rw [N.dg_len]; exact hi
    have := h i hi
    rw [List.getElem?_eq_getElem h1, List.getElem?_eq_getElem h2] at this ⊢
    simpa using this
  · rw [List.getElem?_eq_none (by rw [N.dg_len]; omega), List.getElem?_eq_none (by rw [N.dg_len]; omega)]
theorem ext_digits (n : Nat) (B : List Value) : ((N.natL n ++ B).toArray.extract 0 128) = (N.wl (N.dg n)).toArray := by
  apply Array.toList_inj.1
  rw [Array.toList_extract]
  simp only [List.extract_eq_take_drop, List.drop_zero, Nat.sub_zero]
  rw [N.natL, List.append_assoc, List.take_append_of_le_length (by rw [N.wl_len, N.dg_len]; exact Nat.le_refl _), List.take_of_length_le (by rw [N.wl_len, N.dg_len]; exact Nat.le_refl _)]
theorem wl_at (l : List (BitVec 32)) (i : Nat) (h : i < l.length) : (N.wl l)[i]? = some (.int .u32 ((l[i]?.getD 0).toNat : Int)) := by
  unfold N.wl
  rw [List.getElem?_map, List.getElem?_eq_getElem h]
  rfl
theorem eqFields_cons {d : Nat} {xs ys : Array Value} {f : Field} {fs : List Field} (h : f.name ≠ "_") : Op.eqFields d xs ys (f :: fs) = (do
    let a ← part f.type xs f.offset
    let b ← part f.type ys f.offset
    let r ← Op.equalIn d f.type a b
    if (!r) = true then pure false else Op.eqFields d xs ys fs) := by rw [Op.eqFields, if_pos h]
theorem natEq_run (d : Nat) (W : World) {a b : Nat} (ha : a < N.Lim) (hb : b < N.Lim) : (Op.equalIn (d + 3) 38 (.agg (N.natL a).toArray) (.agg (N.natL b).toArray)).run Tryz.prog W = .ok (decide (a = b)) W := by
  have hu : Tryz.prog.underlying 38 = some (.struct (Tryz.prog.fieldsOf 38)) := by kernel_rfl
  have hst : Tryz.prog.stoodInHeld 38 = false := by kernel_rfl
  obtain ⟨f1, f2, hf, n1, n2, t1, t2, o1, o2⟩ : ∃ f1 f2 : Field, (Tryz.prog.fieldsOf 38).toList = [f1, f2] ∧ f1.name = "digits" ∧ f2.name = "many" ∧ f1.type = 36 ∧ f2.type = 3 ∧ f1.offset = 0 ∧ f2.offset = 128 :=
    ⟨(Tryz.prog.fieldsOf 38)[0]!, (Tryz.prog.fieldsOf 38)[1]!, by kernel_rfl, by kernel_rfl, by kernel_rfl, by kernel_rfl, by kernel_rfl, by kernel_rfl, by kernel_rfl⟩
  replace n1 : f1.name ≠ "_" := by rw [n1]; simp
  replace n2 : f2.name ≠ "_" := by rw [n2]; simp
  have ua : Tryz.prog.underlying 36 = some (.array 128 35) := by kernel_rfl
  have sa : (sizeOf 36).run Tryz.prog W = .ok 128 W := by kernel_rfl
  have ui : Tryz.prog.underlying 3 = some (.int .i64) := by kernel_rfl
  have hi : Tryz.prog.plainKey 3 = true := by kernel_rfl
  obtain ⟨i, hinf⟩ : ∃ i, Tryz.prog.info? 35 = some i := Option.isSome_iff_exists.1 (by kernel_rfl)
  have hc : Tryz.prog.cellsOf 35 = 1 := by kernel_rfl
  have pa : ∀ n, (part 36 (N.natL n).toArray 0).run Tryz.prog W = .ok (.agg (N.wl (N.dg n)).toArray) W := fun n => by
    have := ext_digits n []
    rw [List.append_nil] at this
    unfold part isAgg
    simp only [Sem.run_bind, run_underlying ua, Result.andThen_ok, Sem.run_pure, if_true, sa, Nat.zero_add, this]
  have pm : ∀ n, (part 3 (N.natL n).toArray 128).run Tryz.prog W = .ok (.int .i64 (N.mny n : Int)) W := fun n => run_part_plain W hi (by rw [List.getElem?_toArray]; exact N.nat_many n)
  have ei := eqItems_u32 d W (N.wl (N.dg a)).toArray (N.wl (N.dg b)).toArray (fun i => (N.dg a)[i]?.getD 0) (fun i => (N.dg b)[i]?.getD 0) (List.range 128) fun i hi => by
    have hi' : i < 128 := by simpa using hi
    constructor
    · rw [List.getElem?_toArray]; exact wl_at _ _ (by rw [N.dg_len]; exact hi')
    · rw [List.getElem?_toArray]; exact wl_at _ _ (by rw [N.dg_len]; exact hi')
  have hr : ((List.range 128).all fun i => (N.dg a)[i]?.getD 0 == (N.dg b)[i]?.getD 0) = decide (a = b) := by
    rw [Bool.eq_iff_iff, decide_eq_true_iff, List.all_eq_true]
    constructor
    · intro h
      refine nat_inj ha hb fun i hi => ?_
      have := h i (List.mem_range.2 hi)
      exact eq_of_beq this
    · intro h i _
      rw [h]
      exact beq_self_eq_true _
  rw [hr] at ei
  rw [run_equalIn_struct W (d + 2) _ _ _ hu hst, hf]
  rw [eqFields_cons n1, t1, o1, Sem.run_bind, pa a, Result.andThen_ok, Sem.run_bind, pa b, Result.andThen_ok, Sem.run_bind, run_equalIn_array W (d + 1) _ _ ua hinf, hc, ei, Result.andThen_ok]
  by_cases e : a = b
  · subst e
    rw [decide_eq_true rfl, if_neg (by simp), eqFields_cons n2, t2, o2, Sem.run_bind, pm a, Result.andThen_ok, Sem.run_bind, pm a, Result.andThen_ok, Sem.run_bind, run_equalIn_int W (d + 1) _ .i64 .i64 _ _ ui, Result.andThen_ok, beq_self_eq_true, if_neg (by simp), Op.eqFields, Sem.run_pure]
  · rw [decide_eq_false e, if_pos (by simp), Sem.run_pure]
def T3.Lm (a : T3) : Prop := a.x < N.Lim ∧ a.y < N.Lim ∧ a.z < N.Lim
theorem pP_lim : pP < N.Lim := N.lim_big 8 pP (by omega) (by decide)
theorem nN_lim : nN < N.Lim := N.lim_big 8 nN (by omega) (by decide)
theorem lim_p {n : Nat} (h : n < pP) : n < N.Lim := Nat.lt_trans h pP_lim
theorem T3.Ok.lm {a : T3} (h : a.Ok) : a.Lm := ⟨lim_p h.1, lim_p h.2.1, lim_p h.2.2⟩
theorem ext_mid (A L B : List Value) (o n : Nat) (ho : A.length = o) (hl : L.length = n) : (A ++ L ++ B).toArray.extract o (o + n) = L.toArray := by
  subst ho hl
  apply Array.toList_inj.1
  rw [Array.toList_extract]
  simp only [List.extract_eq_take_drop]
  rw [List.append_assoc, List.drop_left, Nat.add_sub_cancel_left, List.take_left]
theorem ptEq_run (W : World) {a b : T3} (ha : a.Lm) (hb : b.Lm) : (Op.equalIn 10000 40 (.agg (ptL a).toArray) (.agg (ptL b).toArray)).run Tryz.prog W = .ok (decide (a = b)) W := by
  have hu : Tryz.prog.underlying 40 = some (.struct (Tryz.prog.fieldsOf 40)) := by kernel_rfl
  have hst : Tryz.prog.stoodInHeld 40 = false := by kernel_rfl
  obtain ⟨f1, f2, f3, hf, n1, n2, n3, t1, t2, t3, o1, o2, o3⟩ : ∃ f1 f2 f3 : Field, (Tryz.prog.fieldsOf 40).toList = [f1, f2, f3] ∧ f1.name = "x" ∧ f2.name = "y" ∧ f3.name = "z" ∧ f1.type = 38 ∧ f2.type = 38 ∧ f3.type = 38 ∧ f1.offset = 0 ∧ f2.offset = 129 ∧ f3.offset = 258 :=
    ⟨(Tryz.prog.fieldsOf 40)[0]!, (Tryz.prog.fieldsOf 40)[1]!, (Tryz.prog.fieldsOf 40)[2]!, by kernel_rfl, by kernel_rfl, by kernel_rfl, by kernel_rfl, by kernel_rfl, by kernel_rfl, by kernel_rfl, by kernel_rfl, by kernel_rfl, by kernel_rfl⟩
  replace n1 : f1.name ≠ "_" := by rw [n1]; simp
  replace n2 : f2.name ≠ "_" := by rw [n2]; simp
  replace n3 : f3.name ≠ "_" := by rw [n3]; simp
  have un : Tryz.prog.underlying 38 = some (.struct (Tryz.prog.fieldsOf 38)) := by kernel_rfl
  have sn : (sizeOf 38).run Tryz.prog W = .ok 129 W := by kernel_rfl
  have p1 : ∀ c : T3, (part 38 (ptL c).toArray 0).run Tryz.prog W = .ok (.agg (N.natL c.x).toArray) W := fun c => by
    have := ext_mid [] (N.natL c.x) (N.natL c.y ++ N.natL c.z) 0 129 rfl (N.natL_len _)
    rw [List.nil_append, ← List.append_assoc] at this
    unfold part isAgg ptL
    simp only [Sem.run_bind, run_underlying un, Result.andThen_ok, Sem.run_pure, if_true, sn, this]
  have p2 : ∀ c : T3, (part 38 (ptL c).toArray 129).run Tryz.prog W = .ok (.agg (N.natL c.y).toArray) W := fun c => by
    have := ext_mid (N.natL c.x) (N.natL c.y) (N.natL c.z) 129 129 (N.natL_len _) (N.natL_len _)
    simp only [Nat.reduceAdd] at this
    unfold part isAgg ptL
    simp only [Sem.run_bind, run_underlying un, Result.andThen_ok, Sem.run_pure, if_true, sn, this]
  have p3 : ∀ c : T3, (part 38 (ptL c).toArray 258).run Tryz.prog W = .ok (.agg (N.natL c.z).toArray) W := fun c => by
    have := ext_mid (N.natL c.x ++ N.natL c.y) (N.natL c.z) [] 258 129 (by simp [N.natL_len]) (N.natL_len _)
    rw [List.append_nil] at this
    simp only [Nat.reduceAdd] at this
    unfold part isAgg ptL
    simp only [Sem.run_bind, run_underlying un, Result.andThen_ok, Sem.run_pure, if_true, sn, this]
  have e1 := natEq_run 9996 W ha.1 hb.1
  have e2 := natEq_run 9996 W ha.2.1 hb.2.1
  have e3 := natEq_run 9996 W ha.2.2 hb.2.2
  rw [run_equalIn_struct W 9999 _ _ _ hu hst, hf]
  have hab : a = b ↔ a.x = b.x ∧ a.y = b.y ∧ a.z = b.z := by
    cases a; cases b; simp
  rw [eqFields_cons n1, t1, o1, Sem.run_bind, p1 a, Result.andThen_ok, Sem.run_bind, p1 b, Result.andThen_ok, Sem.run_bind, e1, Result.andThen_ok]
  by_cases q1 : a.x = b.x
  · rw [decide_eq_true q1, if_neg (by simp), eqFields_cons n2, t2, o2, Sem.run_bind, p2 a, Result.andThen_ok, Sem.run_bind, p2 b, Result.andThen_ok, Sem.run_bind, e2, Result.andThen_ok]
    by_cases q2 : a.y = b.y
    · rw [decide_eq_true q2, if_neg (by simp), eqFields_cons n3, t3, o3, Sem.run_bind, p3 a, Result.andThen_ok, Sem.run_bind, p3 b, Result.andThen_ok, Sem.run_bind, e3, Result.andThen_ok]
      by_cases q3 : a.z = b.z
      · rw [decide_eq_true q3, decide_eq_true (hab.2 ⟨q1, q2, q3⟩), if_neg (by simp), Op.eqFields, Sem.run_pure]
      · rw [decide_eq_false q3, decide_eq_false (fun h => q3 (hab.1 h).2.2), if_pos (by simp), Sem.run_pure]
    · rw [decide_eq_false q2, decide_eq_false (fun h => q2 (hab.1 h).2.1), if_pos (by simp), Sem.run_pure]
  · rw [decide_eq_false q1, decide_eq_false (fun h => q1 (hab.1 h).1), if_pos (by simp), Sem.run_pure]
end Go.Proofs.YtpimliebiapnfaaGreatDoor