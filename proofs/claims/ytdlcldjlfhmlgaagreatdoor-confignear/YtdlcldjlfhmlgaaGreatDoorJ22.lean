/- Texts of this proof, joined: AhPc, AhTr, AhNf, AhNa, AhFd, AhNw. -/
import Derived.Test.YtdlcldjlfhmlgaaGreatDoorJ21
set_option linter.unusedVariables false
set_option linter.unusedSimpArgs false
/- Layer 13: piece. -/
namespace Go.Proofs.YtdlcldjlfhmlgaaGreatDoor.A
open Go.RowKit
theorem bits_and_u64 (a b : Nat) (ha : a < 2 ^ 64) (hb : b < 2 ^ 64) : bits BinOp.and IntKind.u64 (a : Int) (b : Int) = ((a &&& b : Nat) : Int) := by
 have hx : a &&& b < 2 ^ 64 := Nat.and_lt_two_pow _ hb
 have h1 : (BitVec.ofInt 64 (a : Int)).toNat = a := by
  rw [BitVec.ofInt_natCast, BitVec.toNat_ofNat]; exact Nat.mod_eq_of_lt ha
 have h2 : (BitVec.ofInt 64 (b : Int)).toNat = b := by
  rw [BitVec.ofInt_natCast, BitVec.toNat_ofNat]; exact Nat.mod_eq_of_lt hb
 show IntKind.u64.wrap ((BitVec.ofInt 64 (a : Int) &&& BitVec.ofInt 64 (b : Int)).toNat : Int) = _
 rw [BitVec.toNat_and, h1, h2, wrapU hx]
theorem below_dn {n : Nat} (W : World) (j : Nat) : Below n W (W.drewN j) := ⟨rfl, rfl, rfl, Nat.le_refl _, fun _ _ => rfl⟩
theorem mask_int (x k m : Nat) (hx : x < 2 ^ 64) (hm : m ≤ 16) : bits BinOp.and IntKind.u64 ((x : Int) / 2 ^ k) (IntKind.u64.wrap (IntKind.u64.wrap (2 ^ m) - 1)) = ((x / 2 ^ k % 2 ^ m : Nat) : Int) := by
 have hp := Nat.two_pow_pos m
 have hl : 2 ^ m ≤ 2 ^ 16 := Nat.pow_le_pow_right (by decide) hm
 have e1 : IntKind.u64.wrap ((2 : Int) ^ m) = ((2 ^ m : Nat) : Int) := by
  rw [← wrapU (x := 2 ^ m) (by omega), Int.natCast_pow]; rfl
 have e2 : IntKind.u64.wrap (((2 ^ m : Nat) : Int) - 1) = ((2 ^ m - 1 : Nat) : Int) := by
  rw [show (((2 ^ m : Nat) : Int) - 1) = ((2 ^ m - 1 : Nat) : Int) by omega, wrapU (by omega)]
 have e3 : (x : Int) / 2 ^ k = ((x / 2 ^ k : Nat) : Int) := by
  rw [Int.natCast_ediv, Int.natCast_pow]; rfl
 rw [e1, e2, e3, bits_and_u64 _ _ (Nat.lt_of_le_of_lt (Nat.div_le_self _ _) hx) (by omega), Nat.and_two_pow_sub_one_eq_mod]
set_option maxRecDepth 100000 in
set_option maxHeartbeats 2000000 in
theorem piece_in (w : World) (v : Bool) (h l at' many : Nat) (hh : h < 2 ^ 64) (hl : l < 2 ^ 64) (hn : at' + many ≤ Ad.wd ⟨v, h, l⟩) (hm : many ≤ 16) :
  Calls Tryz.prog 155 #[adV v h l, .int .i64 (at' : Int), .int .i64 (many : Int)] w fun e w' => e = .returned (.int .u64 ((pcs ⟨v, h, l⟩ at' many : Nat) : Int)) ∧ Below w.heap.size w w' := by
 have hwd : Ad.wd ⟨v, h, l⟩ ≤ 128 := by unfold Ad.wd; split <;> omega
 have HW := Hid.mk (fun w => width_in w v h l)
 unfold pcs
 simp only
 generalize Ad.wd ⟨v, h, l⟩ = W at *
 obtain ⟨R, hR⟩ : ∃ R, W - at' - many = R := ⟨_, rfl⟩
 obtain ⟨X, hX⟩ : ∃ X, W - at' = X := ⟨_, rfl⟩
 rw [hR]
 have hw1 : IntKind.i64.wrap ((W : Int) - at') = X := by rw [wrapI (by omega) (by omega)]; omega
 have hw2 : IntKind.i64.wrap ((X : Int) - many) = R := by rw [wrapI (by omega) (by omega)]; omega
 have hR8 : R ≤ 128 := by omega
 obtain ⟨RR, hRR⟩ : ∃ RR : Nat, (if 64 ≤ R then h / 2 ^ (R - 64) % 2 ^ many else l / 2 ^ R % 2 ^ many) = RR := ⟨_, rfl⟩
 rw [hRR]
 have HQ : Hid ((64 ≤ R → bits BinOp.and IntKind.u64 ((h : Int) / 2 ^ (R - 64)) (IntKind.u64.wrap (IntKind.u64.wrap (2 ^ many) - 1)) = (RR : Int)) ∧ (¬ 64 ≤ R → bits BinOp.and IntKind.u64 ((l : Int) / 2 ^ R) (IntKind.u64.wrap (IntKind.u64.wrap (2 ^ many) - 1)) = (RR : Int))) :=
  ⟨fun h6 => by rw [← hRR, if_pos h6, mask_int _ _ _ hh hm], fun h6 => by rw [← hRR, if_neg h6, mask_int _ _ _ hl hm]⟩
 clear hRR
 have HM := Hid.mk hm
 clear hn hwd hR hX hm
 go_enter Tryz.func155, Tryz.ntmps155
 go_upto_region 1 with fail
 go_region_held3 (fun u => u.cell? ⟨w.heap.size, 0, none⟩ = some (.bool v) ∧ u.cell? ⟨w.heap.size, 1, none⟩ = some (.int .u64 (h : Int)) ∧ u.cell? ⟨w.heap.size, 2, none⟩ = some (.int .u64 (l : Int))) (first | assumption | go_keep)
  ((go_at_call 153; refine (HW.out _).mono ?_; rintro e w' ⟨rfl, rfl⟩))
 have hm := HM.out
 by_cases h64 : 64 ≤ R
 ·obtain ⟨D, hDn⟩ : ∃ D, R - 64 = D := ⟨_, rfl⟩
  have hD : ((R : Int) - 64) = (D : Int) := by omega
  go_wp2
  go_quiet (fail)
  go_wp2
  go_ret
  have hq := HQ.out.1 h64
  rw [hDn] at hq
  exact ⟨by rw [← hq]; rfl, Below.trans (by go_grown) (below_dn _ _)⟩
 ·go_wp2
  go_quiet (fail)
  go_wp2
  go_ret
  have hq := HQ.out.2 h64
  exact ⟨by rw [← hq]; rfl, Below.trans (by go_grown) (below_dn _ _)⟩
end Go.Proofs.YtdlcldjlfhmlgaaGreatDoor.A
/- Layer 13: a tree of bits in memory: facts alone. -/
namespace Go.Proofs.YtdlcldjlfhmlgaaGreatDoor.A
open Go.RowKit
abbrev Nd := Bool → List Bool → Option (Nat × Nat)
def pO : Option (Nat × Nat) → Value
 | none => .pointer none
 | some p => .pointer (some ⟨p.1, p.2, none⟩)
structure Tr (N : Nat) (w : World) (X : Nat) (D : Nd) (A : Bool → List Bool → Int) : Prop where
 root : ∀ v, D v [] = some (X, if v then 3 else 0)
 up : ∀ v q b, D v q = none → D v (q ++ [b]) = none
 old : ∀ v q p, D v q = some p → N ≤ p.1 ∧ p.1 < w.heap.size
 inj : ∀ v q p v' q' p' i i', D v q = some p → D v' q' = some p' → p.1 = p'.1 → i < 3 → i' < 3 → p.2 + i = p'.2 + i' → v = v' ∧ q = q'
 cel : ∀ v q p, D v q = some p → (∀ b : Bool, w.cell? ⟨p.1, p.2 + b.toNat, none⟩ = some (pO (D v (q ++ [b])))) ∧ w.cell? ⟨p.1, p.2 + 2, none⟩ = some (.int .i64 (A v q))
 fro : ∀ v q p i, D v q = some p → w.frozen? ⟨p.1, i, none⟩ = false
 zer : ∀ v q, D v q = none → A v q = 0
theorem Tr.blk {N : Nat} {w w' : World} {X : Nat} {D : Nd} {A : Bool → List Bool → Int} (h : Tr N w X D A) (hb : Below w.heap.size w w') : Tr N w' X D A where
 root := h.root
 up := h.up
 old := fun v q p hp => ⟨(h.old v q p hp).1, Nat.lt_of_lt_of_le (h.old v q p hp).2 hb.size⟩
 inj := h.inj
 cel := fun v q p hp => ⟨fun b => (hb.cell (p := ⟨p.1, p.2 + b.toNat, none⟩) (h.old v q p hp).2).trans ((h.cel v q p hp).1 b), (hb.cell (p := ⟨p.1, p.2 + 2, none⟩) (h.old v q p hp).2).trans (h.cel v q p hp).2⟩
 fro := fun v q p i hp => (hb.frozen (p := ⟨p.1, i, none⟩) (h.old v q p hp).2).trans (h.fro v q p i hp)
 zer := h.zer
theorem app_ne (q : List Bool) (b : Bool) : q ++ [b] ≠ q := fun e => by
 have := congrArg List.length e
 simp at this
theorem app_inj {q q' : List Bool} {b b' : Bool} (h : q ++ [b] = q' ++ [b']) : q = q' ∧ b = b' := by
 have := List.append_inj' h rfl
 exact ⟨this.1, by simpa using this.2⟩
theorem cell_set_o {w : World} {b i b' i' : Nat} {v : Value} (h : b' = b → i' ≠ i) : (w.setCell ⟨b', i', none⟩ v).cell? ⟨b, i, none⟩ = w.cell? ⟨b, i, none⟩ :=
 World.cell?_setCell_other _ _ _ _ (fun e => by cases e; exact h rfl rfl)
theorem frozen_set (w : World) (p a : Addr) (v : Value) : (w.setCell p v).frozen? a = w.frozen? a := by simp
theorem size_set (w : World) (p : Addr) (v : Value) : (w.setCell p v).heap.size = w.heap.size := by simp [World.setCell]
theorem Tr.act {N : Nat} {w : World} {X : Nat} {D : Nd} {A : Bool → List Bool → Int} (h : Tr N w X D A) {v : Bool} {q : List Bool} {p : Nat × Nat} (hp : D v q = some p) (act : Int) :
  Tr N (w.setCell ⟨p.1, p.2 + 2, none⟩ (.int .i64 act)) X D (fun v' q' => if v' = v ∧ q' = q then act else A v' q') where
 root := h.root
 up := h.up
 old := fun v' q' p' hp' => by rw [size_set]; exact h.old v' q' p' hp'
 inj := h.inj
 cel := fun v' q' p' hp' => by
  refine ⟨fun b => ?_, ?_⟩
  ·rw [cell_set_o (fun e e2 => ?_)]
   ·exact (h.cel v' q' p' hp').1 b
   ·have hb : b.toNat < 2 := by cases b <;> decide
    obtain ⟨rfl, rfl⟩ := h.inj v q p v' q' p' 2 b.toNat hp hp' e (by decide) (by omega) e2
    rw [hp] at hp'
    cases hp'
    omega
  ·by_cases e : v' = v ∧ q' = q
   ·obtain ⟨rfl, rfl⟩ := e
    rw [hp] at hp'
    cases hp'
    rw [if_pos ⟨rfl, rfl⟩]
    exact World.cell?_setCell_same _ _ _ (h.cel _ _ _ hp).2
   ·rw [if_neg e, cell_set_o (fun e1 e2 => ?_)]
    ·exact (h.cel v' q' p' hp').2
    ·obtain ⟨rfl, rfl⟩ := h.inj v q p v' q' p' 2 2 hp hp' e1 (by decide) (by decide) e2
     exact e ⟨rfl, rfl⟩
 fro := fun v' q' p' i hp' => by rw [frozen_set]; exact h.fro v' q' p' i hp'
 zer := fun v' q' hn => by
  rw [if_neg]
  ·exact h.zer v' q' hn
  ·rintro ⟨rfl, rfl⟩
   rw [hp] at hn
   cases hn
abbrev nodeO : Obj := .cells #[.pointer none, .pointer none, .int .i64 0] 207 (0, 0)
theorem Tr.grow {N : Nat} {w : World} {X : Nat} {D : Nd} {A : Bool → List Bool → Int} (h : Tr N w X D A) (hN : N ≤ w.heap.size) {v : Bool} {q : List Bool} {p : Nat × Nat} (hp : D v q = some p) (b : Bool) (hn : D v (q ++ [b]) = none) :
  Tr N ((w.alloc nodeO).setCell ⟨p.1, p.2 + b.toNat, none⟩ (.pointer (some ⟨w.heap.size, 0, none⟩))) X (fun v' q' => if v' = v ∧ q' = q ++ [b] then some (w.heap.size, 0) else D v' q') A where
 root := fun v' => by
  rw [if_neg (by rintro ⟨_, e⟩; simp at e)]
  exact h.root v'
 up := fun v' q' b' hq' => by
  split at hq'
  ·cases hq'
  ·rename_i hne
   rw [if_neg]
   ·exact h.up v' q' b' hq'
   ·rintro ⟨rfl, e⟩
    obtain ⟨rfl, rfl⟩ := app_inj e
    rw [hp] at hq'
    cases hq'
 old := fun v' q' p' hp' => by
  rw [size_set]
  split at hp'
  ·cases hp'
   exact ⟨hN, by simp⟩
  ·have := h.old v' q' p' hp'
   exact ⟨this.1, by simp; omega⟩
 inj := fun v1 q1 p1 v2 q2 p2 i i' h1 h2 e hi hi' ei => by
  split at h1
  ·rename_i e1
   cases h1
   split at h2
   ·rename_i e2
    exact ⟨e1.1.trans e2.1.symm, e1.2.trans e2.2.symm⟩
   ·have := (h.old v2 q2 p2 h2).2
    simp only at e
    omega
  ·split at h2
   ·cases h2
    have := (h.old v1 q1 p1 h1).2
    simp only at e
    omega
   ·exact h.inj v1 q1 p1 v2 q2 p2 i i' h1 h2 e hi hi' ei
 cel := fun v' q' p' hp' => by
  have hpl := (h.old v q p hp).2
  have hbt : b.toNat < 2 := by cases b <;> decide
  split at hp'
  ·rename_i e
   obtain ⟨rfl, rfl⟩ := e
   cases hp'
   have hh := heap_alloc_last w nodeO
   refine ⟨fun c => ?_, ?_⟩
   ·rw [cell_set_o (fun e => by simp only at e; omega), if_neg (fun e => absurd e.2 (app_ne _ _)), h.up _ _ c hn]
    cases c
    ·exact cell_of_heap hh rfl
    ·exact cell_of_heap hh rfl
   ·rw [cell_set_o (fun e => by simp only at e; omega), h.zer _ _ hn]
    exact cell_of_heap hh rfl
  ·rename_i hne
   have hpl' := (h.old v' q' p' hp').2
   have hal : ∀ i, (w.alloc nodeO).cell? ⟨p'.1, i, none⟩ = w.cell? ⟨p'.1, i, none⟩ := fun i => ((Below.refl w.heap.size w).alloc (Nat.le_refl _) nodeO).cell (p := ⟨p'.1, i, none⟩) hpl'
   refine ⟨fun c => ?_, ?_⟩
   ·by_cases e : v' = v ∧ q' ++ [c] = q ++ [b]
    ·obtain ⟨rfl, e⟩ := e
     obtain ⟨rfl, rfl⟩ := app_inj e
     rw [hp] at hp'
     cases hp'
     rw [if_pos ⟨rfl, rfl⟩]
     exact World.cell?_setCell_same _ _ _ ((hal _).trans ((h.cel _ _ _ hp).1 c))
    ·rw [if_neg e, cell_set_o (fun e1 e2 => ?_), hal]
     ·exact (h.cel v' q' p' hp').1 c
     ·have hct : c.toNat < 2 := by cases c <;> decide
      obtain ⟨rfl, rfl⟩ := h.inj v q p v' q' p' b.toNat c.toNat hp hp' e1 (by omega) (by omega) e2
      rw [hp] at hp'
      cases hp'
      refine e ⟨rfl, ?_⟩
      cases b <;> cases c <;> first | rfl | (simp at e2)
   ·rw [cell_set_o (fun e1 e2 => ?_), hal]
    ·exact (h.cel v' q' p' hp').2
    ·obtain ⟨rfl, rfl⟩ := h.inj v q p v' q' p' b.toNat 2 hp hp' e1 (by omega) (by decide) e2
     rw [hp] at hp'
     cases hp'
     omega
 fro := fun v' q' p' i hp' => by
  rw [frozen_set]
  split at hp'
  ·cases hp'
   have hh := heap_alloc_last w nodeO
   unfold World.frozen?
   rw [show (⟨w.heap.size, i, none⟩ : Addr).block = w.heap.size from rfl, hh]
   simp
  ·rw [((Below.refl w.heap.size w).alloc (Nat.le_refl _) nodeO).frozen (p := ⟨p'.1, i, none⟩) (h.old v' q' p' hp').2]
   exact h.fro v' q' p' i hp'
 zer := fun v' q' hq' => by
  split at hq'
  ·cases hq'
  ·exact h.zer v' q' hq'
def D0 (X : Nat) : Nd := fun v q => if q = [] then some (X, if v then 3 else 0) else none
abbrev aclO : Obj := .cells #[.pointer none, .pointer none, .int .i64 0, .pointer none, .pointer none, .int .i64 0] 209 (0, 0)
theorem Tr.new {N : Nat} (w : World) (hN : N ≤ w.heap.size) : Tr N (w.alloc aclO) w.heap.size (D0 w.heap.size) (fun _ _ => 0) where
 root := fun v => if_pos rfl
 up := fun v q b _ => if_neg (by simp)
 old := fun v q p hp => by
  unfold D0 at hp
  split at hp
  ·cases hp
   exact ⟨hN, by simp⟩
  ·cases hp
 inj := fun v q p v' q' p' i i' h1 h2 _ hi hi' e => by
  unfold D0 at h1 h2
  split at h1
  ·split at h2
   ·rename_i e1 e2
    subst e1 e2
    cases h1
    cases h2
    cases v <;> cases v' <;> simp at e ⊢ <;> omega
   ·cases h2
  ·cases h1
 cel := fun v q p hp => by
  unfold D0 at hp
  split at hp
  ·rename_i e
   subst e
   cases hp
   have hh := heap_alloc_last w aclO
   refine ⟨fun b => ?_, ?_⟩
   ·rw [show D0 w.heap.size v ([] ++ [b]) = none from if_neg (by simp)]
    cases v <;> cases b <;> exact cell_of_heap hh rfl
   ·cases v <;> exact cell_of_heap hh rfl
  ·cases hp
 fro := fun v q p i hp => by
  unfold D0 at hp
  split at hp
  ·cases hp
   have hh := heap_alloc_last w aclO
   unfold World.frozen?
   rw [show (⟨w.heap.size, i, none⟩ : Addr).block = w.heap.size from rfl, hh]
   simp
  ·cases hp
 zer := fun _ _ _ => rfl
theorem pcs_bit {a : Ad} (ha : a.ok) {k : Nat} (hk : k < a.wd) : pcs a k 1 = (a.bt k).toNat := by
 have h1 : ∀ n i : Nat, n / 2 ^ i % 2 ^ 1 = (n.testBit i).toNat := fun n i => by
  rw [Nat.testBit_eq_decide_div_mod_eq, Nat.pow_one]
  have := Nat.mod_two_eq_zero_or_one (n / 2 ^ i)
  rcases this with h | h <;> simp [h]
 unfold pcs Ad.bt
 rw [show a.wd - k - 1 = a.wd - 1 - k by omega]
 split
 ·rename_i h64
  rw [h1]
  unfold Ad.num
  rw [Nat.mul_comm, Nat.testBit_two_pow_mul_add _ ha.2, if_neg (by omega)]
 ·rename_i h64
  rw [h1]
  unfold Ad.num
  rw [Nat.mul_comm, Nat.testBit_two_pow_mul_add _ ha.2, if_pos (by omega)]
end Go.Proofs.YtdlcldjlfhmlgaaGreatDoor.A
/- Layer 13: find: the way of an address down a tree. -/
namespace Go.Proofs.YtdlcldjlfhmlgaaGreatDoor.A
open Go.RowKit
end Go.Proofs.YtdlcldjlfhmlgaaGreatDoor.A
/- Layer 13: add: a rule is laid into a tree. -/
namespace Go.Proofs.YtdlcldjlfhmlgaaGreatDoor.A
open Go.RowKit
abbrev rlO (v : Bool) (h l : Nat) (n act : Int) : Obj := .cells #[.bool v, .int .u64 h, .int .u64 l, .int .i64 n, .int .i64 act] 77 (0, 0)
def NaRel (N : Nat) (W V : World) (D0 : Nd) (X : Nat) (A : Bool → List Bool → Int) (a : Ad) (n : Nat) (p i : Value) (wr : World) : Prop :=
 ∃ (m : Nat) (D : Nd) (P O : Nat), i = .int .i64 (m : Int) ∧ m ≤ n ∧ p = .pointer (some ⟨P, O, none⟩) ∧ D a.v6 (pth a m) = some (P, O) ∧ Tr N wr X D A ∧ (∀ v q p, D v q = some p → D0 v q = some p ∨ V.heap.size ≤ p.1) ∧ Below N W wr ∧ V.heap.size ≤ wr.heap.size ∧ (∀ b, b < V.heap.size → (∀ v q p, D0 v q = some p → p.1 ≠ b) → wr.heap[b]? = V.heap[b]?)
def NaPost (N : Nat) (W : World) (D0 : Nd) (X : Nat) (A : Bool → List Bool → Int) (a : Ad) (n : Nat) (act : Int) (e : Ending) (w' : World) : Prop :=
 Below N W w' ∧ (∀ b, b < W.heap.size → (∀ v q p, D0 v q = some p → p.1 ≠ b) → w'.heap[b]? = W.heap[b]?) ∧ ((A a.v6 (pth a n) ≠ 0 ∧ e = .returned (.bool false)) ∨ (A a.v6 (pth a n) = 0 ∧ e = .returned (.bool true) ∧ ∃ D, Tr N w' X D (fun v q => if v = a.v6 ∧ q = pth a n then act else A v q)))
set_option maxRecDepth 100000 in
set_option maxHeartbeats 4000000 in
theorem nadd_in {N : Nat} {W : World} {X : Nat} {D : Nd} {A : Bool → List Bool → Int} (hN : N ≤ W.heap.size) (T : Tr N W X D A) (v : Bool) (h l n : Nat) (act : Int) (hh : h < 2 ^ 64) (hl : l < 2 ^ 64) (hn : n ≤ Ad.wd ⟨v, h, l⟩) :
  Calls Tryz.prog 141 #[pO (D v []), rlV v h l (n : Int) act] W fun e w' => NaPost N W D X A ⟨v, h, l⟩ n act e w' := by
 obtain ⟨a, ha⟩ : ∃ a : Ad, (⟨v, h, l⟩ : Ad) = a := ⟨_, rfl⟩
 have haok : a.ok := by rw [← ha]; exact ⟨hh, hl⟩
 have hav : a.v6 = v := by rw [← ha]
 rw [ha] at hn ⊢
 have HP : Hid (∀ w (m : Nat), m < n → Calls Tryz.prog 155 #[adV v h l, .int .i64 (m : Int), .int .i64 1] w fun e w' => e = .returned (.int .u64 (((a.bt m).toNat : Nat) : Int)) ∧ Below w.heap.size w w') := fun w m hm => by
  have := piece_in w v h l m 1 hh hl (by rw [ha]; omega) (by omega)
  rw [ha, pcs_bit haok (by omega)] at this
  exact this
 have hwd : a.wd ≤ 128 := by unfold Ad.wd; split <;> omega
 have hn8 : n ≤ 128 := by omega
 obtain ⟨V, hV⟩ : ∃ V, W.alloc (rlO v h l (n : Int) act) = V := ⟨_, rfl⟩
 have hbV : Below W.heap.size W V := by rw [← hV]; go_grown
 have hVs : W.heap.size < V.heap.size := by rw [← hV]; simp
 have HS : Hid (∀ w : World, w.heap[W.heap.size]? = V.heap[W.heap.size]? → w.cell? ⟨W.heap.size, 0, none⟩ = some (.bool v) ∧ w.cell? ⟨W.heap.size, 1, none⟩ = some (.int .u64 (h : Int)) ∧ w.cell? ⟨W.heap.size, 2, none⟩ = some (.int .u64 (l : Int)) ∧ w.cell? ⟨W.heap.size, 3, none⟩ = some (.int .i64 (n : Int)) ∧ w.cell? ⟨W.heap.size, 4, none⟩ = some (.int .i64 act)) := fun w hw => by
  have hh := heap_alloc_last W (rlO v h l (n : Int) act)
  rw [hV, ← hw] at hh
  exact ⟨cell_of_heap hh rfl, cell_of_heap hh rfl, cell_of_heap hh rfl, cell_of_heap hh rfl, cell_of_heap hh rfl⟩
 have HST : Hid (NaRel N W V D X A a n (pO (D v [])) (.int .i64 0) V) := by
  have hr := T.root v
  exact ⟨0, D, X, if v then 3 else 0, rfl, Nat.zero_le _, by rw [hr]; rfl, by rw [hav]; exact hr, T.blk hbV, fun v' q' p' hp' => .inl hp', hbV.mono hN, Nat.le_refl _, fun b _ _ => rfl⟩
 have HOLD : Hid (∀ v q p, D v q = some p → p.1 < W.heap.size) := fun v q p hp => (T.old v q p hp).2
 have HBV := Hid.mk hbV
 have hs0 := HS.out V rfl
 clear T hh hl ha hbV haok hn hwd
 obtain ⟨p0, hp0⟩ : ∃ p0, pO (D v []) = p0 := ⟨_, rfl⟩
 rw [hp0] at HST ⊢
 clear hp0
 go_enter Tryz.func141, Tryz.ntmps141
 go_wp2
 try rw [hV]
 clear hV hs0
 go_loopw [0, 10] (fun p i wr => NaRel N W V D X A a n p i wr) (fun _ i _ => n + 1 - (intOf i).toNat)
 case atStart => exact HST.out
 case round =>
  obtain ⟨m, D', P, O, rfl, hm, rfl, hD, T, hapart, hbel, hsz, hbox⟩ := hrel
  have hs1 := HS.out _ (hbox _ hVs (fun v q p hp => by have := HOLD.out v q p hp; omega))
  have hND := Nat.le_trans hN (Nat.le_of_lt hVs)
  by_cases hlt : m < n
  ·go_wp2_with fail
   refine (HP.out _ m hlt).mono ?_
   rintro e w1 ⟨rfl, hb1⟩
   have T1 := T.blk hb1
   have hbox1 : ∀ b, b < V.heap.size → (∀ v q p, D v q = some p → p.1 ≠ b) → w1.heap[b]? = V.heap[b]? := fun b h1 h2 => (hb1.block _ (by omega)).trans (hbox b h1 h2)
   have hb1' : Below N W w1 := hbel.trans (hb1.mono (by have := hbel.size; omega))
   have hsz1 : V.heap.size ≤ w1.heap.size := Nat.le_trans hsz hb1.size
   have hc1 := (T1.cel _ _ _ hD).1 (a.bt m)
   have hf1 := T1.fro _ _ _ (O + (a.bt m).toNat) hD
   have ho1 := T1.old _ _ _ hD
   have hap := hapart _ _ _ hD
   simp only at hc1 hf1 ho1 hap
   have hps := pth_succ a m
   generalize a.bt m = bt at *
   have hbl : bt.toNat < 2 := by cases bt <;> decide
   have hbz : ((bt.toNat : Nat) : Int) < 2 := by omega
   clear T hs1 hb1 hbel hsz hbox
   cases hch : D' a.v6 (pth a m ++ [bt]) with
   | none =>
    have HE : Hid (NaRel N W V D X A a n (.pointer (some ⟨w1.heap.size, 0, none⟩)) (.int .i64 ((m : Int) + 1)) ((w1.alloc nodeO).setCell ⟨P, O + bt.toNat, none⟩ (.pointer (some ⟨w1.heap.size, 0, none⟩)))) := by
     refine ⟨m + 1, _, w1.heap.size, 0, by go_num, by omega, rfl, ?_, T1.grow (by omega) hD bt hch, fun v' q' p' hp' => ?_, ?_, ?_, ?_⟩
     ·rw [if_pos ⟨rfl, hps⟩]
     ·split at hp'
      ·cases hp'
       right
       simp only
       omega
      ·exact hapart v' q' p' hp'
     ·exact (hb1'.alloc (by omega) _).setCell (p := ⟨P, O + bt.toNat, none⟩) ho1.1 _
     ·rw [size_set]
      simp
      omega
     ·intro b h1 h2
      have hPb : b ≠ P := by
       rcases hap with h | h
       ·exact fun e => h2 _ _ _ h e.symm
       ·omega
      rw [Below.heap_setCell _ _ _ _ hPb, ((Below.refl w1.heap.size w1).alloc (Nat.le_refl _) nodeO).block _ (by omega)]
      exact hbox1 b h1 h2
    rw [hch] at hc1
    simp only [pO] at hc1
    have hPn : ¬ P = w1.heap.size := by omega
    have hal : (w1.alloc nodeO).cell? ⟨P, O + bt.toNat, none⟩ = some (.pointer none) := (((Below.refl w1.heap.size w1).alloc (Nat.le_refl _) nodeO).cell (p := ⟨P, O + bt.toNat, none⟩) ho1.2).trans hc1
    have hfl : (w1.alloc nodeO).frozen? ⟨P, O + bt.toNat, none⟩ = false := (((Below.refl w1.heap.size w1).alloc (Nat.le_refl _) nodeO).frozen (p := ⟨P, O + bt.toNat, none⟩) ho1.2).trans hf1
    rw [World.setCell_alloc_past _ _ _ _ ho1.2] at HE
    clear T1 hapart hD hch hps
    go_wp2
    exact ⟨HE.out, by simp [intOf]; omega⟩
   | some p2 =>
    obtain ⟨P2, O2⟩ := p2
    have HE : Hid (NaRel N W V D X A a n (.pointer (some ⟨P2, O2, none⟩)) (.int .i64 ((m : Int) + 1)) w1) :=
     ⟨m + 1, D', P2, O2, by go_num, by omega, rfl, by rw [hps]; exact hch, T1, hapart, hb1', hsz1, hbox1⟩
    rw [hch] at hc1
    simp only [pO] at hc1
    clear T1 hapart hD hch hps
    go_wp2
    exact ⟨HE.out, by simp [intOf]; omega⟩
  ·obtain rfl : m = n := by omega
   have hc1 := (T.cel _ _ _ hD).2
   have hf1 := T.fro _ _ _ (O + 2) hD
   have ho1 := T.old _ _ _ hD
   simp only at hc1 hf1 ho1
   by_cases hz : A a.v6 (pth a m) = 0
   ·have HE : Hid (NaPost N W D X A a m act (.returned (.bool true)) (wr.setCell ⟨P, O + 2, none⟩ (.int .i64 act))) :=
     ⟨hbel.setCell (p := ⟨P, O + 2, none⟩) ho1.1 _, fun b h1 h2 => by
      have hPb : b ≠ P := by
       rcases hapart _ _ _ hD with h | h
       ·exact fun e => h2 _ _ _ h e.symm
       ·simp only at h
        omega
      rw [Below.heap_setCell _ _ _ _ hPb, hbox b (by omega) h2]
      exact HBV.out.block b h1, .inr ⟨hz, rfl, D', T.act hD act⟩⟩
    rw [hz] at hc1
    clear T hD hapart
    go_wp2
    go_ret
    exact HE.out
   ·have HE : Hid (NaPost N W D X A a m act (.returned (.bool false)) wr) := ⟨hbel, fun b h1 h2 => (hbox b (by omega) h2).trans (HBV.out.block b h1), .inl ⟨hz, rfl⟩⟩
    generalize A a.v6 (pth a m) = y at hc1 hz
    clear T hD hapart
    go_wp2
    go_ret
    exact HE.out
end Go.Proofs.YtdlcldjlfhmlgaaGreatDoor.A
/- Layer 13: Find. -/
namespace Go.Proofs.YtdlcldjlfhmlgaaGreatDoor.A
open Go.RowKit
set_option maxRecDepth 100000 in
theorem tree_in (W : World) (X : Nat) (v : Bool) (h l : Nat) :
  Calls Tryz.prog 140 #[pt X, adV v h l] W fun e w' => e = .returned (.pointer (some ⟨X, if v then 3 else 0, none⟩)) ∧ Below W.heap.size W w' := by
 cases v with
 | true =>
  go_enter Tryz.func140, Tryz.ntmps140
  go_wp2
  go_ret
  exact ⟨rfl, by go_grown⟩
 | false =>
  go_enter Tryz.func140, Tryz.ntmps140
  go_wp2
  go_ret
  exact ⟨rfl, by go_grown⟩
theorem tree_b {N : Nat} {W : World} {X : Nat} {D : Nd} {A : Bool → List Bool → Int} (T : Tr N W X D A) (v : Bool) (h l : Nat) :
  Calls Tryz.prog 140 #[pt X, adV v h l] W fun e w' => e = .returned (pO (D v [])) ∧ Below W.heap.size W w' :=
 (tree_in W X v h l).mono fun e w' ⟨h1, h2⟩ => ⟨by rw [h1, T.root v]; rfl, h2⟩
end Go.Proofs.YtdlcldjlfhmlgaaGreatDoor.A
/- Layer 13: New. -/
namespace Go.Proofs.YtdlcldjlfhmlgaaGreatDoor.A
open Go.RowKit
set_option maxRecDepth 100000 in
theorem ra_in (w : World) (n : Int) : Calls Tryz.prog 139 #[.int .i64 n] w fun e w' => e = .returned (.bool (decide (n = 1 ∨ n = 2 ∨ n = 3))) ∧ Below w.heap.size w w' := by
 by_cases h1 : n = 1
 ·subst h1
  go_enter Tryz.func139, Tryz.ntmps139
  go_wp2
  go_ret
  exact ⟨rfl, Below.refl _ _⟩
 ·by_cases h2 : n = 2
  ·subst h2
   go_enter Tryz.func139, Tryz.ntmps139
   go_wp2
   go_ret
   exact ⟨rfl, Below.refl _ _⟩
  ·by_cases h3 : n = 3
   ·subst h3
    go_enter Tryz.func139, Tryz.ntmps139
    go_wp2
    go_ret
    exact ⟨rfl, Below.refl _ _⟩
   ·rw [decide_eq_false (by omega)]
    go_enter Tryz.func139, Tryz.ntmps139
    go_wp2
    go_ret
    refine ⟨?_, Below.refl _ _⟩
    have e3 : (n == 3) = false := by simpa using h3
    first | rfl | (rw [e3]; rfl) | simp [h1, h2, h3]
def RlsAt (w : World) (q : Option Addr) (rs : List Rl) : Prop := ∀ j (hj : j < rs.length), ∃ g off, q = some ⟨g, off, none⟩ ∧ g < w.heap.size ∧ w.cell? ⟨g, off + j * 5, none⟩ = some (.bool rs[j].p.v6) ∧ w.cell? ⟨g, off + j * 5 + 1, none⟩ = some (.int .u64 (rs[j].p.hi : Int)) ∧ w.cell? ⟨g, off + j * 5 + 2, none⟩ = some (.int .u64 (rs[j].p.lo : Int)) ∧ w.cell? ⟨g, off + j * 5 + 3, none⟩ = some (.int .i64 rs[j].n) ∧ w.cell? ⟨g, off + j * 5 + 4, none⟩ = some (.int .i64 rs[j].act)
theorem RlsAt.blk {w w' : World} {q : Option Addr} {rs : List Rl} (h : RlsAt w q rs) (hb : Below w.heap.size w w') : RlsAt w' q rs := fun j hj => by
 obtain ⟨g, off, e, hg, c0, c1, c2, c3, c4⟩ := h j hj
 exact ⟨g, off, e, Nat.lt_of_lt_of_le hg hb.size, (hb.cell (p := ⟨g, _, none⟩) hg).trans c0, (hb.cell (p := ⟨g, _, none⟩) hg).trans c1, (hb.cell (p := ⟨g, _, none⟩) hg).trans c2, (hb.cell (p := ⟨g, _, none⟩) hg).trans c3, (hb.cell (p := ⟨g, _, none⟩) hg).trans c4⟩
theorem Tr.drew {N : Nat} {w : World} {X : Nat} {D : Nd} {A : Bool → List Bool → Int} (h : Tr N w X D A) : Tr N w.drew X D A := h.blk (Below.refl _ _).drew
def Kr (N : Nat) (W : World) (R : Nat) (o : Obj) (u : World) : Prop := Below N W u ∧ u.heap[R]? = some o ∧ R < u.heap.size ∧ N ≤ u.heap.size
theorem Kr.drew {N : Nat} {W : World} {R : Nat} {o : Obj} {u : World} (h : Kr N W R o u) : Kr N W R o u.drew := ⟨h.1.drew, h.2.1, h.2.2.1, h.2.2.2⟩
theorem Kr.blk {N : Nat} {W : World} {R : Nat} {o : Obj} {u u' : World} (h : Kr N W R o u) (hb : Below u.heap.size u u') : Kr N W R o u' :=
 ⟨h.1.trans (hb.mono h.2.2.2), (hb.block R h.2.2.1).trans h.2.1, Nat.lt_of_lt_of_le h.2.2.1 hb.size, Nat.le_trans h.2.2.2 hb.size⟩
def NwRel (W : World) (rs : List Rl) (i : Value) (wr : World) : Prop :=
 ∃ (m : Nat) (D : Nd), i = .int .i64 (m : Int) ∧ m ≤ rs.length ∧ Tr W.heap.size wr W.heap.size D (look (rs.take m)) ∧ OkRs (rs.take m) ∧ Below W.heap.size W wr ∧ W.heap.size < wr.heap.size
def NwPost (W : World) (rs : List Rl) (e : Ending) (w' : World) : Prop :=
 Below W.heap.size W w' ∧ ((OkRs rs ∧ ∃ D, e = .returned (.tuple #[pt W.heap.size, .int .i64 0]) ∧ Tr W.heap.size w' W.heap.size D (look rs) ∧ W.heap.size < w'.heap.size) ∨ (¬ OkRs rs ∧ e = .returned (.tuple #[.pointer none, .int .i64 12])))
theorem take_snoc {rs : List Rl} {m : Nat} (h : m < rs.length) : rs.take (m + 1) = rs.take m ++ [rs[m]] := by
 rw [List.take_add_one, List.getElem?_eq_getElem h]; rfl
theorem okRs_take {rs : List Rl} (h : OkRs rs) (m : Nat) : OkRs (rs.take m) := by
 rw [← List.take_append_drop m rs] at h
 exact h.sub
set_option maxRecDepth 100000 in
set_option maxHeartbeats 8000000 in
theorem new_in (W : World) (q : Option Addr) (cap : Nat) (rs : List Rl) (hat : RlsAt W q rs) (hok : ∀ r ∈ rs, r.ok) (hcap : rs.length ≤ cap) (hcap2 : cap ≤ 9223372036854775807) :
  Calls Tryz.prog 106 #[.slice q rs.length cap] W fun e w' => NwPost W rs e w' := by
 have HAT := Hid.mk hat
 have HOK := Hid.mk hok
 have HST : Hid (NwRel W rs (.int .i64 0) (W.alloc aclO)) := ⟨0, _, rfl, Nat.zero_le _, Tr.new W (Nat.le_refl _), OkRs.nil, by go_grown, by simp⟩
 clear hat hok
 go_enter Tryz.func106, Tryz.ntmps106
 go_wp2
 go_loopw [11] (fun i wr => NwRel W rs i wr) (fun i _ => rs.length + 1 - (intOf i).toNat)
 case atStart => exact HST.out
 case round =>
  obtain ⟨m, D, rfl, hm, T, hokp, hbel, hszr⟩ := hrel
  by_cases hlt : m < rs.length
  ·obtain ⟨g, off, rfl, hg, c0, c1, c2, c3, c4⟩ := (HAT.out.blk (rs := rs) (w' := wr) hbel) m hlt
   have hrok := HOK.out rs[m] (List.getElem_mem hlt)
   have HSN := Hid.mk (take_snoc hlt)
   have HOKS : Hid (∀ x ∈ rs.take m ++ [rs[m]], x.ok) := fun x hx => by
    rw [← take_snoc hlt] at hx
    exact HOK.out x (List.mem_of_mem_take hx)
   have HNO : Hid (¬ OkRs (rs.take (m + 1)) → ¬ OkRs rs) := fun h h' => h (okRs_take h' _)
   generalize rs[m] = r at *
   obtain ⟨⟨v, h, l⟩, n, act⟩ := r
   simp only at c0 c1 c2 c3 c4
   obtain ⟨⟨hh, hl⟩, hn, hact⟩ := hrok
   simp only at hh hl hn hact
   have HRP := Hid.mk (fun w => rp_in w v h l n hh hl)
   have HRA := Hid.mk (fun w => ra_in w act)
   obtain ⟨V, hV, F, TV⟩ : ∃ V, wr.alloc (rlO v h l n act) = V ∧ Kr W.heap.size W wr.heap.size (rlO v h l n act) V ∧ Tr W.heap.size V W.heap.size D (look (rs.take m)) :=
    ⟨_, rfl, ⟨hbel.alloc (by omega) _, heap_alloc_last _ _, by simp, by simp; omega⟩, T.blk (by go_grown)⟩
   have HS : Hid (∀ w, Kr W.heap.size W wr.heap.size (rlO v h l n act) w → Kr W.heap.size W wr.heap.size (rlO v h l n act) w ∧ w.cell? ⟨wr.heap.size, 0, none⟩ = some (.bool v) ∧ w.cell? ⟨wr.heap.size, 1, none⟩ = some (.int .u64 (h : Int)) ∧ w.cell? ⟨wr.heap.size, 2, none⟩ = some (.int .u64 (l : Int)) ∧ w.cell? ⟨wr.heap.size, 3, none⟩ = some (.int .i64 n) ∧ w.cell? ⟨wr.heap.size, 4, none⟩ = some (.int .i64 act)) := fun w k => ⟨k, cell_of_heap k.2.1 rfl, cell_of_heap k.2.1 rfl, cell_of_heap k.2.1 rfl, cell_of_heap k.2.1 rfl, cell_of_heap k.2.1 rfl⟩
   have HTO : Hid (∀ v q p, D v q = some p → p.1 ≠ wr.heap.size) := fun v q p hp => by have := (T.old v q p hp).2; omega
   clear T hbel
   go_upto_region 5 with fail
   try rw [hV]
   clear hV c0 c1 c2 c3 c4
   by_cases hp : 0 ≤ n ∧ okP ⟨v, h, l⟩ n.toNat
   ·by_cases hac : act = 1 ∨ act = 2 ∨ act = 3
    ·rw [decide_eq_true hp] at HRP
     rw [decide_eq_true hac] at HRA
     obtain ⟨k, hk⟩ : ∃ k : Nat, n = k := ⟨n.toNat, by omega⟩
     have HAD : Hid (∀ w, W.heap.size ≤ w.heap.size → Tr W.heap.size w W.heap.size D (look (rs.take m)) → Calls Tryz.prog 141 #[pO (D v []), rlV v h l n act] w fun e w' => NaPost W.heap.size w D W.heap.size (look (rs.take m)) ⟨v, h, l⟩ k act e w') := fun w hw t => by
      rw [hk]
      exact nadd_in hw t v h l k act hh hl (by have := hp.2.2.1; omega)
     have HGD : Hid (Rl.good ⟨⟨v, h, l⟩, n, act⟩) := ⟨hp, hac⟩
     have HNA := Hid.mk (not_add hokp HGD.out HOKS.out)
     have HLA := Hid.mk (fun hx => (look_add hx HOKS.out).1)
     have HKN : Hid (n.toNat = k) := by unfold Hid; omega
     clear hk
     refine wp_region_held_drew (S := fun w => Kr W.heap.size W wr.heap.size (rlO v h l n act) w ∧ w.cell? ⟨wr.heap.size, 0, none⟩ = some (.bool v) ∧ w.cell? ⟨wr.heap.size, 1, none⟩ = some (.int .u64 (h : Int)) ∧ w.cell? ⟨wr.heap.size, 2, none⟩ = some (.int .u64 (l : Int)) ∧ w.cell? ⟨wr.heap.size, 3, none⟩ = some (.int .i64 n) ∧ w.cell? ⟨wr.heap.size, 4, none⟩ = some (.int .i64 act)) (by kernel_rfl) (HS.out _ (Kr.drew F)) (fun hHeld => ?_)
     refine wU (i := 0) (v := ?vg1_0) rfl ?yg1_0 (by assumption) ?_
     case yg1_0 => (intro w hSw; (try dsimp only at hSw); go_simp; try with_reducible rfl)
     refine wU (i := 1) (v := ?vg1_1) rfl ?yg1_1 (by assumption) ?_
     case yg1_1 => (intro w hSw; (try dsimp only at hSw); go_simp; try with_reducible rfl)
     try simp only [Act.put, List.getElem_toArray, List.getElem_cons_succ, List.getElem_cons_zero, List.setIfInBounds_toArray, List.set_cons_zero, List.set_cons_succ]
     refine wpAnyH_ready (rs := [2]) (by kernel_rfl) (by simp) ?_
     refine AllReadyH.cons rfl (fun K hK => ?_) AllReadyH.nil
     go_simp
     go_at_call 138
     with_reducible refine (HRP.out _).mono ?_
     rintro e w2 ⟨rfl, hb2⟩
     have F2 := Kr.blk (N := W.heap.size) (W := W) (R := wr.heap.size) (o := rlO v h l n act) (by repeat (first | assumption | apply Kr.drew)) hb2
     have T2 := Tr.blk (N := W.heap.size) (X := W.heap.size) (D := D) (A := look (rs.take m)) (by repeat (first | assumption | apply Tr.drew)) hb2
     have hs2 := HS.out _ F2
     refine hK.out _ _ hs2 (fun hHeld2 => ?_)
     clear hK K
     try simp only [Act.put, List.getElem_toArray, List.getElem_cons_succ, List.getElem_cons_zero, List.setIfInBounds_toArray, List.set_cons_zero, List.set_cons_succ]
     refine wU (i := 3) (v := ?vg1_3) rfl ?yg1_3 (by assumption) ?_
     case yg1_3 => (intro w hSw; (try dsimp only at hSw); go_simp; try with_reducible rfl)
     refine wU (i := 4) (v := ?vg1_4) rfl ?yg1_4 (by assumption) ?_
     case yg1_4 => (intro w hSw; (try dsimp only at hSw); go_simp; try with_reducible rfl)
     refine wU (i := 5) (v := ?vg1_5) rfl ?yg1_5 (by assumption) ?_
     case yg1_5 => (intro w hSw; (try dsimp only at hSw); go_simp; try with_reducible rfl)
     refine wU (i := 6) (v := ?vg1_6) rfl ?yg1_6 (by assumption) ?_
     case yg1_6 => (intro w hSw; (try dsimp only at hSw); go_simp; try with_reducible rfl)
     try simp only [Act.put, List.getElem_toArray, List.getElem_cons_succ, List.getElem_cons_zero, List.setIfInBounds_toArray, List.set_cons_zero, List.set_cons_succ]
     refine wpAnyH_ready (rs := [7]) (by kernel_rfl) (by simp) ?_
     refine AllReadyH.cons rfl (fun K hK => ?_) AllReadyH.nil
     go_simp
     go_at_call 139
     with_reducible refine (HRA.out _).mono ?_
     rintro e w3 ⟨rfl, hb3⟩
     have F3 := Kr.blk (N := W.heap.size) (W := W) (R := wr.heap.size) (o := rlO v h l n act) (by repeat (first | assumption | apply Kr.drew)) hb3
     have T3 := Tr.blk (N := W.heap.size) (X := W.heap.size) (D := D) (A := look (rs.take m)) (by repeat (first | assumption | apply Tr.drew)) hb3
     have hs3 := HS.out _ F3
     refine hK.out _ _ hs3 (fun hHeld3 => ?_)
     clear hK K
     try simp only [Act.put, List.getElem_toArray, List.getElem_cons_succ, List.getElem_cons_zero, List.setIfInBounds_toArray, List.set_cons_zero, List.set_cons_succ]
     refine wU (i := 8) (v := ?vg1_8) rfl ?yg1_8 (by assumption) ?_
     case yg1_8 => (intro w hSw; (try dsimp only at hSw); go_simp; try with_reducible rfl)
     refine wU (i := 9) (v := ?vg1_9) rfl ?yg1_9 (by assumption) ?_
     case yg1_9 => (intro w hSw; (try dsimp only at hSw); go_simp; try with_reducible rfl)
     refine wU (i := 10) (v := ?vg1_10) rfl ?yg1_10 (by assumption) ?_
     case yg1_10 => (intro w hSw; (try dsimp only at hSw); go_simp; try with_reducible rfl)
     refine wU (i := 11) (v := ?vg1_11) rfl ?yg1_11 (by assumption) ?_
     case yg1_11 => (intro w hSw; (try dsimp only at hSw); go_simp; try with_reducible rfl)
     refine wU (i := 12) (v := ?vg1_12) rfl ?yg1_12 (by assumption) ?_
     case yg1_12 => (intro w hSw; (try dsimp only at hSw); go_simp; try with_reducible rfl)
     refine wU (i := 13) (v := ?vg1_13) rfl ?yg1_13 (by assumption) ?_
     case yg1_13 => (intro w hSw; (try dsimp only at hSw); go_simp; try with_reducible rfl)
     refine wU (i := 14) (v := ?vg1_14) rfl ?yg1_14 (by assumption) ?_
     case yg1_14 => (intro w hSw; (try dsimp only at hSw); go_simp; try with_reducible rfl)
     refine wU (i := 16) (v := ?vg1_16) rfl ?yg1_16 (by assumption) ?_
     case yg1_16 => (intro w hSw; (try dsimp only at hSw); go_simp; try with_reducible rfl)
     try simp only [Act.put, List.getElem_toArray, List.getElem_cons_succ, List.getElem_cons_zero, List.setIfInBounds_toArray, List.set_cons_zero, List.set_cons_succ]
     refine wpAnyH_ready (rs := [15]) (by kernel_rfl) (by simp) ?_
     refine AllReadyH.cons rfl (fun K hK => ?_) AllReadyH.nil
     go_simp
     go_at_call 140
     with_reducible refine (tree_b (by repeat (first | assumption | apply Tr.drew)) v h l).mono ?_
     rintro e w4 ⟨rfl, hb4⟩
     have F4 := Kr.blk (N := W.heap.size) (W := W) (R := wr.heap.size) (o := rlO v h l n act) (by repeat (first | assumption | apply Kr.drew)) hb4
     have T4 := Tr.blk (N := W.heap.size) (X := W.heap.size) (D := D) (A := look (rs.take m)) (by repeat (first | assumption | apply Tr.drew)) hb4
     have hs4 := HS.out _ F4
     refine hK.out _ _ hs4 (fun hHeld4 => ?_)
     clear hK K
     try simp only [Act.put, List.getElem_toArray, List.getElem_cons_succ, List.getElem_cons_zero, List.setIfInBounds_toArray, List.set_cons_zero, List.set_cons_succ]
     refine wpAnyH_ready (rs := [17]) (by kernel_rfl) (by simp) ?_
     refine AllReadyH.cons rfl (fun K hK => ?_) AllReadyH.nil
     go_simp
     go_at_call 141
     have F4d : Kr W.heap.size W wr.heap.size (rlO v h l n act) w4 := by repeat (first | assumption | apply Kr.drew)
     have hF4 : W.heap.size ≤ w4.heap.size := F4d.2.2.2
     with_reducible refine (HAD.out _ hF4 (by repeat (first | assumption | apply Tr.drew))).mono ?_
     rintro e w5 ⟨hb5, hk5, hres⟩
     have F5 : Kr W.heap.size W wr.heap.size (rlO v h l n act) w5 := ⟨F4d.1.trans (by first | exact hb5 | simpa using hb5), (hk5 _ F4d.2.2.1 HTO.out).trans F4d.2.1, Nat.lt_of_lt_of_le F4d.2.2.1 hb5.size, Nat.le_trans F4d.2.2.2 hb5.size⟩
     have hs5 := HS.out _ F5
     rcases hres with ⟨hne, rfl⟩ | ⟨hze, rfl, D5, T5⟩
     ·refine hK.out _ _ hs5 (fun hHeld5 => ?_)
      clear hK K
      try simp only [Act.put, List.getElem_toArray, List.getElem_cons_succ, List.getElem_cons_zero, List.setIfInBounds_toArray, List.set_cons_zero, List.set_cons_succ]
      refine wU (i := 18) (v := ?vg2_18) rfl ?yg2_18 (by assumption) ?_
      case yg2_18 => (intro w hSw; (try dsimp only at hSw); go_simp; try with_reducible rfl)
      refine wU (i := 19) (v := ?vg2_19) rfl ?yg2_19 (by assumption) ?_
      case yg2_19 => (intro w hSw; (try dsimp only at hSw); go_simp; try with_reducible rfl)
      try simp only [Act.put, List.getElem_toArray, List.getElem_cons_succ, List.getElem_cons_zero, List.setIfInBounds_toArray, List.set_cons_zero, List.set_cons_succ]
      refine wpAnyH_done (by kernel_rfl) ?_ _
      go_wp2
      go_ret2
      refine ⟨F5.1, .inr ⟨HNO.out fun hx => hne ?_, rfl⟩⟩
      rw [HSN.out, HNA.out, HKN.out] at hx
      exact hx
     ·refine hK.out _ _ hs5 (fun hHeld5 => ?_)
      clear hK K
      try simp only [Act.put, List.getElem_toArray, List.getElem_cons_succ, List.getElem_cons_zero, List.setIfInBounds_toArray, List.set_cons_zero, List.set_cons_succ]
      refine wU (i := 18) (v := ?vg3_18) rfl ?yg3_18 (by assumption) ?_
      case yg3_18 => (intro w hSw; (try dsimp only at hSw); go_simp; try with_reducible rfl)
      refine wU (i := 19) (v := ?vg3_19) rfl ?yg3_19 (by assumption) ?_
      case yg3_19 => (intro w hSw; (try dsimp only at hSw); go_simp; try with_reducible rfl)
      try simp only [Act.put, List.getElem_toArray, List.getElem_cons_succ, List.getElem_cons_zero, List.setIfInBounds_toArray, List.set_cons_zero, List.set_cons_succ]
      refine wpAnyH_done (by kernel_rfl) ?_ _
      go_wp2
      have hx : OkRs (rs.take (m + 1)) := by rw [HSN.out, HNA.out, HKN.out]; exact hze
      have hA : (fun v' q' => if v' = v ∧ q' = pth ⟨v, h, l⟩ k then act else look (rs.take m) v' q') = look (rs.take (m + 1)) := by
       funext v' q'
       have hx' := hx
       rw [HSN.out] at hx'
       rw [HSN.out, HLA.out hx' v' q']
       have e : (Rl.at ⟨⟨v, h, l⟩, n, act⟩ v' q') ↔ (v' = v ∧ q' = pth ⟨v, h, l⟩ k) := by
        unfold Rl.at
        rw [HKN.out]
        constructor
        ·rintro ⟨h1, h2⟩
         exact ⟨h1.symm, h2.symm⟩
        ·rintro ⟨h1, h2⟩
         exact ⟨h1.symm, h2.symm⟩
       simp only [e]
      rw [hA] at T5
      exact ⟨⟨m + 1, D5, by go_num, by omega, T5, hx, F5.1, by have := F5.2.2.1; omega⟩, by simp [intOf]; omega⟩
    ·rw [decide_eq_true hp] at HRP
     rw [decide_eq_false hac] at HRA
     refine wp_region_held_drew (S := fun w => Kr W.heap.size W wr.heap.size (rlO v h l n act) w ∧ w.cell? ⟨wr.heap.size, 0, none⟩ = some (.bool v) ∧ w.cell? ⟨wr.heap.size, 1, none⟩ = some (.int .u64 (h : Int)) ∧ w.cell? ⟨wr.heap.size, 2, none⟩ = some (.int .u64 (l : Int)) ∧ w.cell? ⟨wr.heap.size, 3, none⟩ = some (.int .i64 n) ∧ w.cell? ⟨wr.heap.size, 4, none⟩ = some (.int .i64 act)) (by kernel_rfl) (HS.out _ (Kr.drew F)) (fun hHeld => ?_)
     refine wU (i := 0) (v := ?vg4_0) rfl ?yg4_0 (by assumption) ?_
     case yg4_0 => (intro w hSw; (try dsimp only at hSw); go_simp; try with_reducible rfl)
     refine wU (i := 1) (v := ?vg4_1) rfl ?yg4_1 (by assumption) ?_
     case yg4_1 => (intro w hSw; (try dsimp only at hSw); go_simp; try with_reducible rfl)
     try simp only [Act.put, List.getElem_toArray, List.getElem_cons_succ, List.getElem_cons_zero, List.setIfInBounds_toArray, List.set_cons_zero, List.set_cons_succ]
     refine wpAnyH_ready (rs := [2]) (by kernel_rfl) (by simp) ?_
     refine AllReadyH.cons rfl (fun K hK => ?_) AllReadyH.nil
     go_simp
     go_at_call 138
     with_reducible refine (HRP.out _).mono ?_
     rintro e w2 ⟨rfl, hb2⟩
     have F2 := Kr.blk (N := W.heap.size) (W := W) (R := wr.heap.size) (o := rlO v h l n act) (by repeat (first | assumption | apply Kr.drew)) hb2
     have T2 := Tr.blk (N := W.heap.size) (X := W.heap.size) (D := D) (A := look (rs.take m)) (by repeat (first | assumption | apply Tr.drew)) hb2
     have hs2 := HS.out _ F2
     refine hK.out _ _ hs2 (fun hHeld2 => ?_)
     clear hK K
     try simp only [Act.put, List.getElem_toArray, List.getElem_cons_succ, List.getElem_cons_zero, List.setIfInBounds_toArray, List.set_cons_zero, List.set_cons_succ]
     refine wU (i := 3) (v := ?vg4_3) rfl ?yg4_3 (by assumption) ?_
     case yg4_3 => (intro w hSw; (try dsimp only at hSw); go_simp; try with_reducible rfl)
     refine wU (i := 4) (v := ?vg4_4) rfl ?yg4_4 (by assumption) ?_
     case yg4_4 => (intro w hSw; (try dsimp only at hSw); go_simp; try with_reducible rfl)
     refine wU (i := 5) (v := ?vg4_5) rfl ?yg4_5 (by assumption) ?_
     case yg4_5 => (intro w hSw; (try dsimp only at hSw); go_simp; try with_reducible rfl)
     refine wU (i := 6) (v := ?vg4_6) rfl ?yg4_6 (by assumption) ?_
     case yg4_6 => (intro w hSw; (try dsimp only at hSw); go_simp; try with_reducible rfl)
     try simp only [Act.put, List.getElem_toArray, List.getElem_cons_succ, List.getElem_cons_zero, List.setIfInBounds_toArray, List.set_cons_zero, List.set_cons_succ]
     refine wpAnyH_ready (rs := [7]) (by kernel_rfl) (by simp) ?_
     refine AllReadyH.cons rfl (fun K hK => ?_) AllReadyH.nil
     go_simp
     go_at_call 139
     with_reducible refine (HRA.out _).mono ?_
     rintro e w3 ⟨rfl, hb3⟩
     have F3 := Kr.blk (N := W.heap.size) (W := W) (R := wr.heap.size) (o := rlO v h l n act) (by repeat (first | assumption | apply Kr.drew)) hb3
     have T3 := Tr.blk (N := W.heap.size) (X := W.heap.size) (D := D) (A := look (rs.take m)) (by repeat (first | assumption | apply Tr.drew)) hb3
     have hs3 := HS.out _ F3
     refine hK.out _ _ hs3 (fun hHeld3 => ?_)
     clear hK K
     try simp only [Act.put, List.getElem_toArray, List.getElem_cons_succ, List.getElem_cons_zero, List.setIfInBounds_toArray, List.set_cons_zero, List.set_cons_succ]
     refine wU (i := 8) (v := ?vg4_8) rfl ?yg4_8 (by assumption) ?_
     case yg4_8 => (intro w hSw; (try dsimp only at hSw); go_simp; try with_reducible rfl)
     refine wU (i := 9) (v := ?vg4_9) rfl ?yg4_9 (by assumption) ?_
     case yg4_9 => (intro w hSw; (try dsimp only at hSw); go_simp; try with_reducible rfl)
     refine wU (i := 10) (v := ?vg4_10) rfl ?yg4_10 (by assumption) ?_
     case yg4_10 => (intro w hSw; (try dsimp only at hSw); go_simp; try with_reducible rfl)
     try simp only [Act.put, List.getElem_toArray, List.getElem_cons_succ, List.getElem_cons_zero, List.setIfInBounds_toArray, List.set_cons_zero, List.set_cons_succ]
     refine wT (i := 11) (v := undef) rfl (Or.inr ⟨by kernel_rfl, rfl⟩) (by assumption) ?_
     refine wT (i := 12) (v := undef) rfl (Or.inr ⟨by kernel_rfl, rfl⟩) (by assumption) ?_
     refine wT (i := 13) (v := undef) rfl (Or.inr ⟨by kernel_rfl, rfl⟩) (by assumption) ?_
     refine wT (i := 14) (v := undef) rfl (Or.inr ⟨by kernel_rfl, rfl⟩) (by assumption) ?_
     refine wT (i := 15) (v := undef) rfl (Or.inr ⟨by kernel_rfl, rfl⟩) (by assumption) ?_
     refine wT (i := 16) (v := undef) rfl (Or.inr ⟨by kernel_rfl, rfl⟩) (by assumption) ?_
     refine wT (i := 17) (v := undef) rfl (Or.inr ⟨by kernel_rfl, rfl⟩) (by assumption) ?_
     refine wT (i := 18) (v := undef) rfl (Or.inr ⟨by kernel_rfl, rfl⟩) (by assumption) ?_
     try simp only [Act.put, List.getElem_toArray, List.getElem_cons_succ, List.getElem_cons_zero, List.setIfInBounds_toArray, List.set_cons_zero, List.set_cons_succ]
     refine wU (i := 19) (v := ?vg4_19) rfl ?yg4_19 (by assumption) ?_
     case yg4_19 => (intro w hSw; (try dsimp only at hSw); go_simp; try with_reducible rfl)
     try simp only [Act.put, List.getElem_toArray, List.getElem_cons_succ, List.getElem_cons_zero, List.setIfInBounds_toArray, List.set_cons_zero, List.set_cons_succ]
     refine wpAnyH_done (by kernel_rfl) ?_ _
     go_wp2
     go_ret2
     refine ⟨F3.1, .inr ⟨HNO.out fun hx => hac ?_, rfl⟩⟩
     rw [HSN.out] at hx
     exact (hx.1 ⟨⟨v, h, l⟩, n, act⟩ (by simp)).2
   ·rw [decide_eq_false hp] at HRP
    refine wp_region_held_drew (S := fun w => Kr W.heap.size W wr.heap.size (rlO v h l n act) w ∧ w.cell? ⟨wr.heap.size, 0, none⟩ = some (.bool v) ∧ w.cell? ⟨wr.heap.size, 1, none⟩ = some (.int .u64 (h : Int)) ∧ w.cell? ⟨wr.heap.size, 2, none⟩ = some (.int .u64 (l : Int)) ∧ w.cell? ⟨wr.heap.size, 3, none⟩ = some (.int .i64 n) ∧ w.cell? ⟨wr.heap.size, 4, none⟩ = some (.int .i64 act)) (by kernel_rfl) (HS.out _ (Kr.drew F)) (fun hHeld => ?_)
    refine wU (i := 0) (v := ?vg5_0) rfl ?yg5_0 (by assumption) ?_
    case yg5_0 => (intro w hSw; (try dsimp only at hSw); go_simp; try with_reducible rfl)
    refine wU (i := 1) (v := ?vg5_1) rfl ?yg5_1 (by assumption) ?_
    case yg5_1 => (intro w hSw; (try dsimp only at hSw); go_simp; try with_reducible rfl)
    try simp only [Act.put, List.getElem_toArray, List.getElem_cons_succ, List.getElem_cons_zero, List.setIfInBounds_toArray, List.set_cons_zero, List.set_cons_succ]
    refine wpAnyH_ready (rs := [2]) (by kernel_rfl) (by simp) ?_
    refine AllReadyH.cons rfl (fun K hK => ?_) AllReadyH.nil
    go_simp
    go_at_call 138
    with_reducible refine (HRP.out _).mono ?_
    rintro e w2 ⟨rfl, hb2⟩
    have F2 := Kr.blk (N := W.heap.size) (W := W) (R := wr.heap.size) (o := rlO v h l n act) (by repeat (first | assumption | apply Kr.drew)) hb2
    have T2 := Tr.blk (N := W.heap.size) (X := W.heap.size) (D := D) (A := look (rs.take m)) (by repeat (first | assumption | apply Tr.drew)) hb2
    have hs2 := HS.out _ F2
    refine hK.out _ _ hs2 (fun hHeld2 => ?_)
    clear hK K
    try simp only [Act.put, List.getElem_toArray, List.getElem_cons_succ, List.getElem_cons_zero, List.setIfInBounds_toArray, List.set_cons_zero, List.set_cons_succ]
    refine wU (i := 3) (v := ?vg5_3) rfl ?yg5_3 (by assumption) ?_
    case yg5_3 => (intro w hSw; (try dsimp only at hSw); go_simp; try with_reducible rfl)
    refine wU (i := 4) (v := ?vg5_4) rfl ?yg5_4 (by assumption) ?_
    case yg5_4 => (intro w hSw; (try dsimp only at hSw); go_simp; try with_reducible rfl)
    try simp only [Act.put, List.getElem_toArray, List.getElem_cons_succ, List.getElem_cons_zero, List.setIfInBounds_toArray, List.set_cons_zero, List.set_cons_succ]
    refine wT (i := 5) (v := undef) rfl (Or.inr ⟨by kernel_rfl, rfl⟩) (by assumption) ?_
    refine wT (i := 6) (v := undef) rfl (Or.inr ⟨by kernel_rfl, rfl⟩) (by assumption) ?_
    refine wT (i := 7) (v := undef) rfl (Or.inr ⟨by kernel_rfl, rfl⟩) (by assumption) ?_
    refine wT (i := 8) (v := undef) rfl (Or.inr ⟨by kernel_rfl, rfl⟩) (by assumption) ?_
    try simp only [Act.put, List.getElem_toArray, List.getElem_cons_succ, List.getElem_cons_zero, List.setIfInBounds_toArray, List.set_cons_zero, List.set_cons_succ]
    refine wU (i := 9) (v := ?vg5_9) rfl ?yg5_9 (by assumption) ?_
    case yg5_9 => (intro w hSw; (try dsimp only at hSw); go_simp; try with_reducible rfl)
    refine wU (i := 10) (v := ?vg5_10) rfl ?yg5_10 (by assumption) ?_
    case yg5_10 => (intro w hSw; (try dsimp only at hSw); go_simp; try with_reducible rfl)
    try simp only [Act.put, List.getElem_toArray, List.getElem_cons_succ, List.getElem_cons_zero, List.setIfInBounds_toArray, List.set_cons_zero, List.set_cons_succ]
    refine wT (i := 11) (v := undef) rfl (Or.inr ⟨by kernel_rfl, rfl⟩) (by assumption) ?_
    refine wT (i := 12) (v := undef) rfl (Or.inr ⟨by kernel_rfl, rfl⟩) (by assumption) ?_
    refine wT (i := 13) (v := undef) rfl (Or.inr ⟨by kernel_rfl, rfl⟩) (by assumption) ?_
    refine wT (i := 14) (v := undef) rfl (Or.inr ⟨by kernel_rfl, rfl⟩) (by assumption) ?_
    refine wT (i := 15) (v := undef) rfl (Or.inr ⟨by kernel_rfl, rfl⟩) (by assumption) ?_
    refine wT (i := 16) (v := undef) rfl (Or.inr ⟨by kernel_rfl, rfl⟩) (by assumption) ?_
    refine wT (i := 17) (v := undef) rfl (Or.inr ⟨by kernel_rfl, rfl⟩) (by assumption) ?_
    refine wT (i := 18) (v := undef) rfl (Or.inr ⟨by kernel_rfl, rfl⟩) (by assumption) ?_
    try simp only [Act.put, List.getElem_toArray, List.getElem_cons_succ, List.getElem_cons_zero, List.setIfInBounds_toArray, List.set_cons_zero, List.set_cons_succ]
    refine wU (i := 19) (v := ?vg5_19) rfl ?yg5_19 (by assumption) ?_
    case yg5_19 => (intro w hSw; (try dsimp only at hSw); go_simp; try with_reducible rfl)
    try simp only [Act.put, List.getElem_toArray, List.getElem_cons_succ, List.getElem_cons_zero, List.setIfInBounds_toArray, List.set_cons_zero, List.set_cons_succ]
    refine wpAnyH_done (by kernel_rfl) ?_ _
    go_wp2
    go_ret2
    refine ⟨F2.1, .inr ⟨HNO.out fun hx => hp ?_, rfl⟩⟩
    rw [HSN.out] at hx
    exact (hx.1 ⟨⟨v, h, l⟩, n, act⟩ (by simp)).1
  ·obtain rfl : m = rs.length := by omega
   rw [List.take_length] at T hokp
   go_wp2
   go_ret2
   exact ⟨hbel, .inl ⟨hokp, D, rfl, T, hszr⟩⟩
end Go.Proofs.YtdlcldjlfhmlgaaGreatDoor.A
