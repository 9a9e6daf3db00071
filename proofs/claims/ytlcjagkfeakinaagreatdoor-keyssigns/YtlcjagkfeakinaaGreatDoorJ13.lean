/- Texts of this proof, joined: NInvF, NInv, NIv, NHas, NEx, NFx. -/
import Derived.Test.YtlcjagkfeakinaaGreatDoorJ12
import Derived.Deep.RegionHeld3
import Derived.Deep.LoopGhost
/- Facts on Euclid's steps: what stands while a number's inverse is looked for. -/
namespace Go.Proofs.YtlcjagkfeakinaaGreatDoor.N
set_option linter.unusedVariables false
open Go.RowKit
theorem mod_cancel {x y c M : Nat} (h : (x + c) % M = (y + c) % M) : x % M = y % M := by
  have h1 : ((x : Int) + (c : Int)) % (M : Int) = ((y : Int) + (c : Int)) % (M : Int) := by exact_mod_cast congrArg (Nat.cast : Nat → Int) h
  have h2 := (Int.emod_add_cancel_right (c : Int)).1 h1
  exact_mod_cast h2
/-- what stands ahead of a step: g and l are what is divided, f and n their factors without signs, b whether g's is below 0. -/
structure Euc (A M g l f n : Nat) (b : Bool) : Prop where
  gpos : 0 < g
  gcd : Nat.gcd g l = Nat.gcd M A
  tot : f * l + n * g = M
  less : l < g
  npos : 0 < n
  pos : b = true → (g + f * A) % M = 0 ∧ n * A % M = l % M
  neg : b = false → f * A % M = g % M ∧ (l + n * A) % M = 0
theorem euc_start (A M : Nat) (hM : M ≠ 0) : Euc A M M (A % M) 0 1 true where
  gpos := by omega
  gcd := by rw [Nat.gcd_comm M (A % M), ← Nat.gcd_rec]
  tot := by omega
  less := Nat.mod_lt _ (by omega)
  npos := by omega
  pos := fun _ => ⟨by simp, by simp⟩
  neg := fun h => by cases h
theorem euc_step (A M g l f n : Nat) (b : Bool) (h : Euc A M g l f n b) (hl : 0 < l) : Euc A M l (g % l) n (g / l * n + f) (!b) where
  gpos := hl
  gcd := by rw [← h.gcd, Nat.gcd_comm l (g % l), ← Nat.gcd_rec, Nat.gcd_comm]
  tot := by
    have e := Nat.div_add_mod g l
    have t := h.tot
    have : (g / l * n + f) * l = n * (l * (g / l)) + f * l := by
      rw [Nat.add_mul, Nat.mul_comm (g / l) n, Nat.mul_assoc, Nat.mul_comm (g / l) l]
    rw [this, ← Nat.add_assoc, ← Nat.mul_add, Nat.add_comm (g % l), e]
    omega
  less := Nat.mod_lt _ hl
  npos := by
    have h1 : 0 < g / l := Nat.div_pos (Nat.le_of_lt h.less) hl
    have h2 := Nat.mul_pos h1 h.npos
    omega
  pos := fun hb => by
    have hb' : b = false := by cases b <;> simp_all
    obtain ⟨p1, p2⟩ := h.neg hb'
    refine ⟨p2, ?_⟩
    have e := Nat.div_add_mod g l
    -- (q n + f) A ≡ g - q l
    generalize g / l = q at *
    generalize g % l = r at *
    have a1 : (q * n + f) * A + q * l = q * (l + n * A) + f * A := by
      rw [Nat.add_mul, Nat.mul_add, Nat.mul_assoc]; omega
    have a2 : (q * (l + n * A) + f * A) % M = g % M := by
      rw [Nat.add_mod, Nat.mul_mod, p2, Nat.mul_zero, Nat.zero_mod, Nat.zero_add, Nat.mod_mod, p1]
    rw [← a1, ← e, Nat.mul_comm l q, Nat.add_comm (q * l) r] at a2
    have a3 : ((q * n + f) * A + q * l) % M = (r + q * l) % M := a2
    exact mod_cancel a3
  neg := fun hb => by
    have hb' : b = true := by cases b <;> simp_all
    obtain ⟨p1, p2⟩ := h.pos hb'
    refine ⟨p2, ?_⟩
    have e := Nat.div_add_mod g l
    generalize g / l = q at *
    generalize g % l = r at *
    have a1 : r + (q * n + f) * A + q * l = (g + f * A) + q * (n * A) := by
      rw [Nat.add_mul, Nat.mul_assoc, ← e, Nat.mul_comm l q]; omega
    have a2 : ((g + f * A) + q * (n * A)) % M = (0 + q * l) % M := by
      rw [Nat.add_mod, p1, Nat.mul_mod, p2, ← Nat.mul_mod, Nat.zero_add, Nat.zero_add, Nat.mod_mod]
    rw [← a1] at a2
    have a3 := mod_cancel a2
    have a4 : (r + (q * n + f) * A) % M = 0 % M := a3
    rw [a4, Nat.zero_mod]
theorem Euc.le {A M g l f n : Nat} {b : Bool} (h : Euc A M g l f n b) : n ≤ M ∧ (0 < l → f ≤ M) := by
  have t := h.tot
  have g0 := h.gpos
  constructor
  · have : n * 1 ≤ n * g := Nat.mul_le_mul_left _ g0
    omega
  · intro hl
    have : f * 1 ≤ f * l := Nat.mul_le_mul_left _ hl
    omega
theorem Euc.gle {A M g l f n : Nat} {b : Bool} (h : Euc A M g l f n b) : g ≤ M ∧ l < M := by
  have t := h.tot
  have : 1 * g ≤ n * g := Nat.mul_le_mul_right _ h.npos
  have := h.less
  omega
theorem euc_more (A M g l f n : Nat) (b : Bool) (h : Euc A M g l f n b) (hl : 0 < l) : g / l * n + f ≤ M ∧ n ≤ M := ⟨(euc_step A M g l f n b h hl).le.1, h.le.1⟩
/-- the inverse, or that there is none. -/
def InvIs (A M I : Nat) (v : Int) : Prop := (v = 0 ∧ I < M ∧ A * I % M = 1 % M) ∨ (v = 13 ∧ I = 0 ∧ Nat.gcd M A ≠ 1)
theorem euc_none (A M g f n : Nat) (b : Bool) (h : Euc A M g 0 f n b) (h1 : g ≠ 1) : InvIs A M 0 13 := by
  refine Or.inr ⟨rfl, rfl, ?_⟩
  rw [← h.gcd, Nat.gcd_zero_right]
  exact h1
theorem euc_above (A M f n : Nat) (h : Euc A M 1 0 f n false) (hM : M ≠ 0) : InvIs A M (f % M) 0 := by
  obtain ⟨p1, p2⟩ := h.neg rfl
  refine Or.inl ⟨rfl, Nat.mod_lt _ (by omega), ?_⟩
  rw [Nat.mul_mod, Nat.mod_mod, ← Nat.mul_mod, Nat.mul_comm]
  exact p1
theorem euc_below (A M f n : Nat) (h : Euc A M 1 0 f n true) (hf : f ≤ M) (hM : M ≠ 0) : InvIs A M ((M - f) % M) 0 := by
  obtain ⟨p1, p2⟩ := h.pos rfl
  refine Or.inl ⟨rfl, Nat.mod_lt _ (by omega), ?_⟩
  rw [Nat.mul_mod, Nat.mod_mod, ← Nat.mul_mod, Nat.mul_comm]
  refine mod_cancel (c := f * A) ?_
  rw [← Nat.add_mul, Nat.sub_add_cancel hf, Nat.mul_comm, Nat.mul_mod_left, p1]
theorem inv_one {A M I : Nat} {v : Int} (h : InvIs A M I v) : ∀ {J : Nat} {u : Int}, InvIs A M J u → (v = u ∧ I = J) := by
  intro J u k
  have cop : ∀ K, A * K % M = 1 % M → Nat.gcd M A = 1 := fun K hK => by
    have d1 : Nat.gcd M A ∣ M := Nat.gcd_dvd_left _ _
    have d2 : Nat.gcd M A ∣ A * K := Nat.dvd_trans (Nat.gcd_dvd_right _ _) (Nat.dvd_mul_right _ _)
    have d3 : Nat.gcd M A ∣ A * K % M := (Nat.dvd_mod_iff d1).2 d2
    rw [hK] at d3
    have d4 := (Nat.dvd_mod_iff d1).1 d3
    exact Nat.dvd_one.1 d4
  rcases h with ⟨a1, a2, a3⟩ | ⟨a1, a2, a3⟩ <;> rcases k with ⟨b1, b2, b3⟩ | ⟨b1, b2, b3⟩
  · refine ⟨by rw [a1, b1], ?_⟩
    have e : ∀ x y, x < M → A * x % M = 1 % M → A * y % M = 1 % M → x = y % M := fun x y hx h1 h2 => by
      have q : x * (A * y) % M = y * (A * x) % M := by rw [Nat.mul_left_comm, Nat.mul_left_comm y, Nat.mul_comm x y]
      rw [Nat.mul_mod, h2, Nat.mul_mod y, h1, ← Nat.mul_mod, ← Nat.mul_mod, Nat.mul_one, Nat.mul_one, Nat.mod_eq_of_lt hx] at q
      exact q
    have := e I J a2 a3 b3
    rw [Nat.mod_eq_of_lt b2] at this
    exact this
  · exact absurd (cop I a3) b3
  · exact absurd (cop J b3) a3
  · exact ⟨by rw [a1, b1], by rw [a2, b2]⟩
end Go.Proofs.YtlcjagkfeakinaaGreatDoor.N

/- inverse. -/
namespace Go.Proofs.YtlcjagkfeakinaaGreatDoor.N
set_option linter.unusedVariables false
open Go.RowKit
attribute [local go_sem ↓] loadAt_nat storeAt_nat build_nat build_nat'
attribute [local go_sem] st1 st2a st2b st1d st2ad st2bd natBuild_run
theorem blk {w w' : World} {b : Nat} {o : Obj} (hb : Below w.heap.size w w') (h : w.heap[b]? = some o) : w'.heap[b]? = some o := (hb.block _ (box_lt h)).trans h
end Go.Proofs.YtlcjagkfeakinaaGreatDoor.N

/- Inv. -/
namespace Go.Proofs.YtlcjagkfeakinaaGreatDoor.N
set_option linter.unusedVariables false
open Go.RowKit
attribute [local go_sem ↓] loadAt_nat storeAt_nat build_nat build_nat'
attribute [local go_sem] st1 st2a st2b natBuild_run
end Go.Proofs.YtlcjagkfeakinaaGreatDoor.N

/- Numbers that lie in boxes of their own; Of, at most so many bytes. -/
namespace Go.Proofs.YtlcjagkfeakinaaGreatDoor.N
set_option linter.unusedVariables false
open Go.RowKit
attribute [local go_sem ↓] loadAt_nat storeAt_nat build_nat build_nat'
attribute [local go_sem] st1 st2a st2b natBuild_run
def Has (w : World) : List (Nat × Nat) → Prop
  | [] => True
  | p :: l => w.heap[p.1]? = some (.cells (natL p.2).toArray 43 (0, 0)) ∧ Has w l
theorem Has.blk {w w' : World} (hb : Below w.heap.size w w') : ∀ {l : List (Nat × Nat)}, Has w l → Has w' l
  | [], _ => trivial
  | _ :: _, h => ⟨Go.Proofs.YtlcjagkfeakinaaGreatDoor.N.blk hb h.1, Has.blk hb h.2⟩
theorem Has.get {w : World} : ∀ {l : List (Nat × Nat)} (i : Nat) {b N : Nat}, Has w l → l[i]? = some (b, N) → w.heap[b]? = some (.cells (natL N).toArray 43 (0, 0))
  | [], _, _, _, _, h => by simp at h
  | p :: l, 0, b, N, h, e => by
    have : p = (b, N) := by simpa using e
    subst this
    exact h.1
  | _ :: l, i + 1, b, N, h, e => Has.get i h.2 (by simpa using e)
theorem Has.new1 {w : World} {l : List (Nat × Nat)} (N : Nat) (h : Has w l) : Has (w.alloc (.cells (natL N).toArray 43)) ((w.heap.size, N) :: l) :=
  ⟨heap_new _ _, h.blk ((Below.refl _ _).alloc (Nat.le_refl _) _)⟩
theorem Has.new2 {w : World} {l : List (Nat × Nat)} (N M : Nat) (h : Has w l) : Has ((w.alloc (.cells (natL N).toArray 43)).alloc (.cells (natL M).toArray 43)) ((w.heap.size, N) :: (w.heap.size + 1, M) :: l) :=
  ⟨(two_new _ _ _ _ _).1, (two_new _ _ _ _ _).2.1, h.blk (two_new _ _ _ _ _).2.2.1⟩
theorem below_new1 {W w : World} (N : Nat) (h : Below W.heap.size W w) : Below W.heap.size W (w.alloc (.cells (natL N).toArray 43)) := bthen h ((Below.refl _ _).alloc (Nat.le_refl _) _)
theorem below_new2 {W w : World} (N M : Nat) (h : Below W.heap.size W w) : Below W.heap.size W ((w.alloc (.cells (natL N).toArray 43)).alloc (.cells (natL M).toArray 43)) := bthen h (two_new _ _ _ _ _).2.2.1
theorem ofR_ok (l : List UInt8) (h : (strip l).length ≤ 512) : ofR l = .returned (.tuple #[.agg (natL (numB l)).toArray, .int .i64 0]) := if_pos h
theorem strip_le : ∀ l : List UInt8, (strip l).length ≤ l.length
  | [] => by simp [strip]
  | x :: l => by
    rw [strip]
    split
    · have := strip_le l; simp; omega
    · exact Nat.le_refl _
theorem pow4 (m : Nat) : (256 : Nat) ^ (4 * m) = 4294967296 ^ m := by rw [Nat.pow_mul]
theorem lim_of (N k m : Nat) (hk : k ≤ 4 * m) (h : N < 256 ^ k) : N < 4294967296 ^ m := by
  rw [← pow4]
  exact Nat.lt_of_lt_of_le h (Nat.pow_le_pow_right (by omega) hk)
theorem lim_512 (N k : Nat) (hk : k ≤ 512) (h : N < 256 ^ k) : N < Lim := lim_of N k 128 hk h
theorem ext_take (s : ByteArray) (n : Nat) : (s.extract 0 n).data.toList = s.data.toList.take n := by
  rw [ByteArray.data_extract, Array.toList_extract, List.extract_eq_take_drop, List.drop_zero, Nat.sub_zero]
end Go.Proofs.YtlcjagkfeakinaaGreatDoor.N

/- The chapter's examples. -/
namespace Go.Proofs.YtlcjagkfeakinaaGreatDoor.N
set_option linter.unusedVariables false
open Go.RowKit
attribute [local go_sem ↓] loadAt_nat storeAt_nat build_nat build_nat'
attribute [local go_sem] st1 st2a st2b natBuild_run
end Go.Proofs.YtlcjagkfeakinaaGreatDoor.N

/- What may be stored into boxes that were made ahead of calls; a frame of numbers that stays. -/
namespace Go.Proofs.YtlcjagkfeakinaaGreatDoor.N
set_option linter.unusedVariables false
open Go.RowKit
theorem fx1 {p : Prop} {u : World} {b M : Nat} (f : u.heap[b]? = some (.cells (natL M).toArray 43 (0, 0))) (k : (b < u.heap.size ∧
    (∀ o N, (natStore (.pointer (some ⟨b, 0, none⟩)) (.agg (natL N).toArray)).run Tryz.prog (u.alloc o) = .ok () ((u.alloc o).setRow b (natL N).toArray)) ∧
    (∀ N N' K, (natStore (.pointer (some ⟨u.heap.size, 0, none⟩)) (.agg (natL N').toArray)).run Tryz.prog ((u.alloc (.cells (natL K).toArray 43)).setRow b (natL N).toArray) = .ok () (((u.alloc (.cells (natL K).toArray 43)).setRow b (natL N).toArray).setRow u.heap.size (natL N').toArray))) → p) : p := by
  have lt := box_lt f
  exact k ⟨lt, fun o N => natStore_run ((heap_alloc_old u o lt).trans f), fun N N' K => natStore_run (M := K) ((setRow_other _ _ _ _ (by omega)).trans (heap_new u _))⟩
theorem fx2 {p : Prop} {u : World} {b c M L : Nat} (f : u.heap[b]? = some (.cells (natL M).toArray 43 (0, 0))) (g : u.heap[c]? = some (.cells (natL L).toArray 43 (0, 0))) (ne : b ≠ c) (k : (
    (∀ N, (natStore (.pointer (some ⟨b, 0, none⟩)) (.agg (natL N).toArray)).run Tryz.prog u = .ok () (u.setRow b (natL N).toArray)) ∧
    (∀ N, (natStore (.pointer (some ⟨c, 0, none⟩)) (.agg (natL N).toArray)).run Tryz.prog u = .ok () (u.setRow c (natL N).toArray)) ∧
    (∀ N N', (natStore (.pointer (some ⟨c, 0, none⟩)) (.agg (natL N').toArray)).run Tryz.prog (u.setRow b (natL N).toArray) = .ok () ((u.setRow b (natL N).toArray).setRow c (natL N').toArray)) ∧
    (∀ N N', (natStore (.pointer (some ⟨b, 0, none⟩)) (.agg (natL N').toArray)).run Tryz.prog (u.setRow c (natL N).toArray) = .ok () ((u.setRow c (natL N).toArray).setRow b (natL N').toArray))) → p) : p :=
  k ⟨fun N => natStore_run f, fun N => natStore_run g, fun N N' => natStore_run ((setRow_other _ _ _ _ (Ne.symm ne)).trans g), fun N N' => natStore_run ((setRow_other _ _ _ _ ne).trans f)⟩
/-- a box made ahead of a call is there behind it. -/
theorem kp1 {p : Prop} {V u : World} {o : Obj} (hb : Below (V.alloc o).heap.size (V.alloc o) u) (k : u.heap[V.heap.size]? = some o → p) : p :=
  k ((hb.block V.heap.size (by simp)).trans (heap_new V o))
theorem kp1d {p : Prop} {V u : World} {o : Obj} (hb : Below (V.alloc o).drew.heap.size (V.alloc o).drew u) (k : u.heap[V.heap.size]? = some o → p) : p :=
  k ((hb.block V.heap.size (by simp)).trans (heap_new V o))
theorem kp2 {p : Prop} {V u : World} {M L : Nat} (hb : Below ((V.alloc (.cells (natL M).toArray 43)).alloc (.cells (natL L).toArray 43)).heap.size ((V.alloc (.cells (natL M).toArray 43)).alloc (.cells (natL L).toArray 43)) u) (k : u.heap[V.heap.size]? = some (.cells (natL M).toArray 43 (0, 0)) → u.heap[V.heap.size + 1]? = some (.cells (natL L).toArray 43 (0, 0)) → p) : p :=
  k ((hb.block V.heap.size (by simp; omega)).trans (two_new V _ _ _ _).1) ((hb.block (V.heap.size + 1) (by simp)).trans (two_new V _ _ _ _).2.1)
theorem kp2d {p : Prop} {V u : World} {M L : Nat} (hb : Below ((V.alloc (.cells (natL M).toArray 43)).alloc (.cells (natL L).toArray 43)).drew.heap.size ((V.alloc (.cells (natL M).toArray 43)).alloc (.cells (natL L).toArray 43)).drew u) (k : u.heap[V.heap.size]? = some (.cells (natL M).toArray 43 (0, 0)) → u.heap[V.heap.size + 1]? = some (.cells (natL L).toArray 43 (0, 0)) → p) : p :=
  k ((hb.block V.heap.size (by simp; omega)).trans (two_new V _ _ _ _).1) ((hb.block (V.heap.size + 1) (by simp)).trans (two_new V _ _ _ _).2.1)
/-- an older one, too. -/
theorem kpo {V u : World} {o o' : Obj} {b : Nat} (h : V.heap[b]? = some o') (hb : Below (V.alloc o).heap.size (V.alloc o) u) : u.heap[b]? = some o' :=
  (hb.block b (by have := box_lt h; simp; omega)).trans ((heap_alloc_old V o (box_lt h)).trans h)
theorem Has.lt {w : World} : ∀ {l : List (Nat × Nat)}, Has w l → ∀ p ∈ l, p.1 < w.heap.size
  | [], _, _, h => by cases h
  | q :: l, h, p, hp => by
    rcases List.mem_cons.1 hp with rfl | hp
    · exact box_lt h.1
    · exact Has.lt h.2 p hp
theorem Has.set {w : World} {b : Nat} {x : Array Value} : ∀ {l : List (Nat × Nat)}, Has w l → (∀ p ∈ l, p.1 < b) → Has (w.setRow b x) l
  | [], _, _ => trivial
  | q :: l, h, hl => ⟨(setRow_other _ _ _ _ (Nat.ne_of_lt (hl q (List.mem_cons_self ..)))).trans h.1, Has.set h.2 fun p hp => hl p (List.mem_cons_of_mem _ hp)⟩
/-- numbers in boxes below n, that stay. -/
structure Fr (W : World) (n : Nat) (l : List (Nat × Nat)) (w : World) : Prop where
  has : Has w l
  bel : Below W.heap.size W w
  lt : ∀ p ∈ l, p.1 < n
  sz : n ≤ w.heap.size
  ge : W.heap.size ≤ n
theorem Fr.start {W w : World} {l : List (Nat × Nat)} (h : Has w l) (hb : Below W.heap.size W w) : Fr W w.heap.size l w := ⟨h, hb, h.lt, Nat.le_refl _, hb.size⟩
theorem Has.drew {w : World} : ∀ {l : List (Nat × Nat)}, Has w l → Has w.drew l
  | [], _ => trivial
  | _ :: _, h => ⟨h.1, Has.drew h.2⟩
theorem Fr.drew {W w : World} {n : Nat} {l : List (Nat × Nat)} (h : Fr W n l w) : Fr W n l w.drew := ⟨h.has.drew, h.bel.drew, h.lt, h.sz, h.ge⟩
theorem Fr.blk {W w w' : World} {n : Nat} {l : List (Nat × Nat)} (h : Fr W n l w) (hb : Below w.heap.size w w') : Fr W n l w' := ⟨h.has.blk hb, bthen h.bel hb, h.lt, Nat.le_trans h.sz hb.size, h.ge⟩
theorem Fr.alloc {W w : World} {n : Nat} {l : List (Nat × Nat)} {o : Obj} (h : Fr W n l w) : Fr W n l (w.alloc o) := h.blk ((Below.refl _ _).alloc (Nat.le_refl _) _)
theorem Fr.set {W w : World} {n : Nat} {l : List (Nat × Nat)} {b : Nat} {x : Array Value} (h : Fr W n l w) (hb : n ≤ b) : Fr W n l (w.setRow b x) :=
  ⟨h.has.set fun p hp => Nat.lt_of_lt_of_le (h.lt p hp) hb, below_row h.bel (Nat.le_trans h.ge hb) _, h.lt, by simpa using h.sz, h.ge⟩
theorem Fr.setAt {W w u : World} {n : Nat} {l : List (Nat × Nat)} {x : Array Value} (hu : Fr W n l u) (h : Fr W n l w) : Fr W n l (w.setRow u.heap.size x) := h.set hu.sz
theorem Fr.setAt1 {W w u : World} {n : Nat} {l : List (Nat × Nat)} {x : Array Value} (hu : Fr W n l u) (h : Fr W n l w) : Fr W n l (w.setRow (u.heap.size + 1) x) := h.set (Nat.le_succ_of_le hu.sz)
end Go.Proofs.YtlcjagkfeakinaaGreatDoor.N
