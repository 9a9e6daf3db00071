/- Layer 13: addresses as texts: facts alone. -/
import Derived.Lib.Bytealg
import Derived.Lib.Join
import Derived.Lib.ItoaNum
import Derived.Test.YtpognbkdafnfjaaDoorAcR
namespace Go.Proofs.YtpognbkdafnfjaaDoor
set_option linter.unusedVariables false

/-- a digit. -/
def hexd (d : Nat) : UInt8 := UInt8.ofNat (if d < 10 then 48 + d else 87 + d)
/-- a number in a base, of at most f + 1 digits. -/
def dgs (b : Nat) : Nat → Nat → List UInt8
  | 0, u => [hexd u]
  | f + 1, u => if u < b then [hexd u] else dgs b f (u / b) ++ [hexd (u % b)]
/-- how the parts of an address are told. -/
structure Sh where
  mark : UInt8
  parts : Nat
  bits : Nat
  base : Nat
  more : Nat
deriving DecidableEq
def shp (v6 : Bool) : Sh := if v6 then ⟨58, 8, 16, 16, 3⟩ else ⟨46, 4, 8, 10, 2⟩
def Sh.num (s : Sh) (n : Nat) : List UInt8 := dgs s.base s.more n
/-- so many bits of an address, from one on. -/
def pcs (a : Ad) (at' many : Nat) : Nat := if 64 ≤ a.wd - at' - many then a.hi / 2 ^ (a.wd - at' - many - 64) % 2 ^ many else a.lo / 2 ^ (a.wd - at' - many) % 2 ^ many
def prt (a : Ad) (i : Nat) : Nat := a.num / 2 ^ ((shp a.v6).bits * ((shp a.v6).parts - 1 - i)) % 2 ^ (shp a.v6).bits
def pts (a : Ad) : List (List UInt8) := (List.range (shp a.v6).parts).map fun i => (shp a.v6).num (prt a i)
def txt (a : Ad) : List UInt8 := Lib.join (pts a) [(shp a.v6).mark]

/-! ### digits -/
def dval (c : UInt8) : Option Nat := if 48 ≤ c.toNat ∧ c.toNat ≤ 57 then some (c.toNat - 48) else if 97 ≤ (c.toNat ||| 32) ∧ (c.toNat ||| 32) ≤ 122 then some ((c.toNat ||| 32) - 87) else none
theorem dval_hexd : ∀ d, d < 16 → dval (hexd d) = some d := by decide
theorem hexd_ne : ∀ d, d < 16 → hexd d ≠ 58 ∧ hexd d ≠ 46 := by decide
theorem dgs_mem (b : Nat) (hb : 0 < b) (hb' : b ≤ 16) : ∀ (f u : Nat), u < b ^ (f + 1) → ∀ c ∈ dgs b f u, ∃ d, d < b ∧ c = hexd d
  | 0, u, hu, c, hc => by
    simp [dgs] at hc
    exact ⟨u, by simpa using hu, hc⟩
  | f + 1, u, hu, c, hc => by
    rw [dgs] at hc
    split at hc
    · simp at hc
      exact ⟨u, by omega, hc⟩
    · rcases List.mem_append.1 hc with h | h
      · exact dgs_mem b hb hb' f (u / b) (by rw [Nat.div_lt_iff_lt_mul hb]; rwa [Nat.pow_succ] at hu) c h
      · simp at h
        exact ⟨u % b, Nat.mod_lt _ hb, h⟩
theorem dgs_ne (b f u : Nat) : dgs b f u ≠ [] := by
  cases f with
  | zero => simp [dgs]
  | succ f => rw [dgs]; split <;> simp
/-- what is read of digits, one behind the other. -/
def puG (b m : Nat) : Nat → List UInt8 → Option Nat
  | n, [] => some n
  | n, c :: r => match dval c with
    | none => none
    | some d => if b ≤ d then none else if m < n * b + d then none else puG b m (n * b + d) r
def puR (b m : Nat) (l : List UInt8) : Option Nat := if l = [] then none else puG b m 0 l
theorem puG_le (b m : Nat) : ∀ (l : List UInt8) (n v : Nat), n ≤ m → puG b m n l = some v → v ≤ m
  | [], n, v, hn, h => by cases h; exact hn
  | c :: r, n, v, hn, h => by
    rw [puG] at h
    split at h
    · cases h
    · split at h
      · cases h
      · split at h
        · cases h
        · exact puG_le b m r _ v (by omega) h
theorem puR_le {b m : Nat} {l : List UInt8} {v : Nat} (h : puR b m l = some v) : v ≤ m := by
  unfold puR at h
  split at h
  · cases h
  · exact puG_le b m l 0 v (by omega) h
theorem puG_app (b m : Nat) : ∀ (l l' : List UInt8) (n v : Nat), puG b m n l = some v → puG b m n (l ++ l') = puG b m v l'
  | [], l', n, v, h => by cases h; rfl
  | c :: r, l', n, v, h => by
    rw [List.cons_append, puG]
    rw [puG] at h
    split at h
    · cases h
    · rename_i d hd
      split at h
      · cases h
      · rename_i h1
        split at h
        · cases h
        · rename_i h2
          rw [if_neg h1, if_neg h2]
          exact puG_app b m r l' _ v h
theorem puG_dgs (b m : Nat) (hb : 0 < b) (hb' : b ≤ 16) : ∀ (f u : Nat), u < b ^ (f + 1) → u ≤ m → puG b m 0 (dgs b f u) = some u
  | 0, u, hu, hm => by
    have h : u < b := by simpa using hu
    simp only [dgs, puG, dval_hexd u (by omega)]
    rw [if_neg (by omega), if_neg (by omega)]
    simp
  | f + 1, u, hu, hm => by
    rw [dgs]
    split
    · rename_i h
      simp only [puG, dval_hexd u (by omega)]
      rw [if_neg (by omega), if_neg (by omega)]
      simp
    · rename_i h
      have h1 : u / b ≤ m := Nat.le_trans (Nat.div_le_self _ _) hm
      have hl := Nat.mod_lt u hb
      have he := Nat.div_add_mod' u b
      rw [puG_app b m _ _ 0 (u / b) (puG_dgs b m hb hb' f (u / b) (by rw [Nat.div_lt_iff_lt_mul hb]; rwa [Nat.pow_succ] at hu) h1)]
      simp only [puG, dval_hexd (u % b) (by omega)]
      rw [if_neg (by omega), he, if_neg (by omega)]
theorem sh_base (v : Bool) : 0 < (shp v).base ∧ (shp v).base ≤ 16 ∧ 2 ^ (shp v).bits ≤ (shp v).base ^ ((shp v).more + 1) := by cases v <;> decide
theorem puR_num (v : Bool) (n : Nat) (hn : n < 2 ^ (shp v).bits) : puR (shp v).base (2 ^ (shp v).bits - 1) ((shp v).num n) = some n := by
  obtain ⟨h1, h2, h3⟩ := sh_base v
  unfold puR Sh.num
  rw [if_neg (dgs_ne _ _ _)]
  exact puG_dgs _ _ h1 h2 _ n (by omega) (by omega)
theorem num_no (v w : Bool) (n : Nat) (hn : n < 2 ^ (shp v).bits) : (shp w).mark ∉ (shp v).num n := by
  obtain ⟨h1, h2, h3⟩ := sh_base v
  intro h
  obtain ⟨d, hd, he⟩ := dgs_mem _ h1 h2 _ n (by omega) _ h
  have := hexd_ne d (by omega)
  cases w
  · exact this.2 he.symm
  · exact this.1 he.symm
theorem prt_lt (a : Ad) (i : Nat) : prt a i < 2 ^ (shp a.v6).bits := Nat.mod_lt _ (Nat.two_pow_pos _)

/-! ### cutting -/
def spl (c : UInt8) : Nat → List UInt8 → List (List UInt8)
  | 0, s => [s]
  | k + 1, s => if Lib.indexByte s c < 0 then [s] else s.take (Lib.indexByte s c).toNat :: spl c k (s.drop ((Lib.indexByte s c).toNat + 1))
theorem idx_no {c : UInt8} : ∀ {s : List UInt8}, c ∉ s → Lib.indexByte s c = -1
  | [], _ => rfl
  | b :: l, h => by
    have h1 : ¬ (b == c) = true := by intro e; simp at e; exact h (by simp [e])
    have h2 := idx_no (c := c) (s := l) (fun h' => h (List.mem_cons_of_mem _ h'))
    simp [Lib.indexByte, h1, h2]
theorem idx_at {c : UInt8} : ∀ {p r : List UInt8}, c ∉ p → Lib.indexByte (p ++ c :: r) c = p.length
  | [], r, _ => by simp [Lib.indexByte]
  | b :: l, r, h => by
    have h1 : ¬ (b == c) = true := by intro e; simp at e; exact h (by simp [e])
    have h2 := idx_at (c := c) (p := l) (r := r) (fun h' => h (List.mem_cons_of_mem _ h'))
    rw [List.cons_append, Lib.indexByte, if_neg h1, h2, if_neg (by simp)]
    simp
theorem join_cons2 (x y : List UInt8) (r : List (List UInt8)) (c : UInt8) : Lib.join (x :: y :: r) [c] = x ++ c :: Lib.join (y :: r) [c] := by
  simp [Lib.join, List.intercalate, List.intersperse]
theorem spl_join (c : UInt8) : ∀ (k : Nat) (x : List UInt8) (r : List (List UInt8)), r.length ≤ k → (∀ p ∈ x :: r, c ∉ p) → spl c k (Lib.join (x :: r) [c]) = x :: r
  | 0, x, r, hk, h => by
    obtain rfl : r = [] := List.length_eq_zero_iff.1 (by omega)
    rw [Lib.join_one]; rfl
  | k + 1, x, [], hk, h => by
    rw [Lib.join_one, spl, if_pos (by rw [idx_no (h x (by simp))]; decide)]
  | k + 1, x, y :: r, hk, h => by
    rw [join_cons2, spl, idx_at (h x (by simp)), if_neg (by omega)]
    have e1 : (x ++ c :: Lib.join (y :: r) [c]).take (x.length : Int).toNat = x := by simp
    have e2 : (x ++ c :: Lib.join (y :: r) [c]).drop ((x.length : Int).toNat + 1) = Lib.join (y :: r) [c] := by
      rw [Int.toNat_natCast, ← List.drop_drop, List.drop_left]; rfl
    rw [e1, e2, spl_join c k y r (by simp at hk; omega) (fun p hp => h p (List.mem_cons_of_mem _ hp))]
theorem spl_len (c : UInt8) : ∀ (k : Nat) (s : List UInt8), (spl c k s).length ≤ k + 1
  | 0, s => by simp [spl]
  | k + 1, s => by
    rw [spl]
    split
    · simp
    · have := spl_len c k (s.drop ((Lib.indexByte s c).toNat + 1))
      simp; omega
theorem spl_pos (c : UInt8) (k : Nat) (s : List UInt8) : 0 < (spl c k s).length := by
  cases k with
  | zero => simp [spl]
  | succ k => rw [spl]; split <;> simp
theorem spl_mem (c : UInt8) : ∀ (k : Nat) (s : List UInt8), ∀ p ∈ spl c k s, p.length ≤ s.length
  | 0, s, p, hp => by simp [spl] at hp; rw [hp]; exact Nat.le_refl _
  | k + 1, s, p, hp => by
    rw [spl] at hp
    split at hp
    · simp at hp; rw [hp]; exact Nat.le_refl _
    · rcases List.mem_cons.1 hp with rfl | hp
      · simp; omega
      · have := spl_mem c k _ p hp
        simp at this
        omega

/-! ### reading -/
/-- an address moved up, with a number in the place. -/
def mvd (a : Ad) (b n : Nat) : Ad := ⟨a.v6, a.hi * 2 ^ b % 2 ^ 64 ||| a.lo / 2 ^ (64 - b), a.lo * 2 ^ b % 2 ^ 64 ||| n⟩
def rdG (s : Sh) : Ad → List (List UInt8) → Option Ad
  | a, [] => some a
  | a, p :: r => match puR s.base (2 ^ s.bits - 1) p with
    | none => none
    | some n => rdG s (mvd a s.bits n) r
def six (l : List UInt8) : Bool := decide (0 ≤ Lib.indexByte l 58)
def cutT (l : List UInt8) : List (List UInt8) := spl (shp (six l)).mark (shp (six l)).parts l
/-- what read makes of a text. -/
def rdT (l : List UInt8) : Option Ad := rdG (shp (six l)) ⟨six l, 0, 0⟩ (cutT l)
/-- the address that a text tells. -/
def prs (l : List UInt8) : Option Ad := match rdT l with
  | none => none
  | some a => if (cutT l).length = (shp (six l)).parts ∧ a.right ∧ txt a = l then some a else none
theorem zero_ok (v : Bool) : Ad.ok ⟨v, 0, 0⟩ := by cases v <;> decide
theorem mvd_v6 (a : Ad) (b n : Nat) : (mvd a b n).v6 = a.v6 := by simp only [mvd]
theorem or_add {x y b : Nat} (hy : y < 2 ^ b) (hx : 2 ^ b ∣ x) : x ||| y = x + y := by
  obtain ⟨k, rfl⟩ := hx
  rw [Nat.two_pow_add_eq_or_of_lt hy]
theorem mvd_num {a : Ad} (h : a.ok) {b n : Nat} (hb : b ≤ 16) (hn : n < 2 ^ b) (hlt : a.num * 2 ^ b < 2 ^ 128) : (mvd a b n).num = a.num * 2 ^ b + n ∧ (mvd a b n).ok := by
  obtain ⟨h1, h2⟩ := h
  have hd : 2 ^ b ∣ 2 ^ 64 := Nat.pow_dvd_pow 2 (by omega)
  have e1 : a.lo * 2 ^ b % 2 ^ 64 ||| n = a.lo * 2 ^ b % 2 ^ 64 + n := or_add hn ((Nat.dvd_mod_iff hd).2 ⟨a.lo, Nat.mul_comm _ _⟩)
  have hlo : a.lo / 2 ^ (64 - b) < 2 ^ b := by
    rw [Nat.div_lt_iff_lt_mul (Nat.two_pow_pos _), ← Nat.pow_add, show b + (64 - b) = 64 by omega]
    exact h2
  have e2 : a.hi * 2 ^ b % 2 ^ 64 ||| a.lo / 2 ^ (64 - b) = a.hi * 2 ^ b % 2 ^ 64 + a.lo / 2 ^ (64 - b) := or_add hlo ((Nat.dvd_mod_iff hd).2 ⟨a.hi, Nat.mul_comm _ _⟩)
  obtain ⟨c, hc⟩ : ∃ c, 64 = c + b := ⟨64 - b, by omega⟩
  have hdiv : a.lo * 2 ^ b / 2 ^ 64 = a.lo / 2 ^ (64 - b) := by
    rw [show (2 : Nat) ^ 64 = 2 ^ (64 - b) * 2 ^ b by rw [← Nat.pow_add]; congr 1; omega]
    exact Nat.mul_div_mul_right _ _ (Nat.two_pow_pos b)
  have hda := Nat.div_add_mod (a.lo * 2 ^ b) (2 ^ 64)
  rw [hdiv] at hda
  unfold Ad.num at hlt
  have hhi : a.hi * 2 ^ b < 2 ^ 64 := by
    rw [Nat.add_mul] at hlt
    have : a.hi * 2 ^ 64 * 2 ^ b = a.hi * 2 ^ b * 2 ^ 64 := by rw [Nat.mul_assoc, Nat.mul_comm (2 ^ 64), ← Nat.mul_assoc]
    omega
  have hm := Nat.mod_lt (a.lo * 2 ^ b) (show 0 < 2 ^ 64 by decide)
  have key : (mvd a b n).num = a.num * 2 ^ b + n := by
    unfold mvd Ad.num
    simp only
    rw [e1, e2, Nat.mod_eq_of_lt hhi, Nat.add_mul, Nat.add_mul]
    have : a.hi * 2 ^ 64 * 2 ^ b = a.hi * 2 ^ b * 2 ^ 64 := by rw [Nat.mul_assoc, Nat.mul_comm (2 ^ 64), ← Nat.mul_assoc]
    omega
  refine ⟨key, ?_, ?_⟩
  · simp only [mvd]
    exact Nat.or_lt_two_pow (Nat.mod_lt _ (by decide)) (Nat.lt_of_lt_of_le hlo (Nat.pow_le_pow_right (by decide) (by omega)))
  · simp only [mvd]
    exact Nat.or_lt_two_pow (Nat.mod_lt _ (by decide)) (Nat.lt_of_lt_of_le hn (Nat.pow_le_pow_right (by decide) (by omega)))
theorem mvd_ok {a : Ad} (h : a.ok) {b n : Nat} (hb : b ≤ 16) (hn : n < 2 ^ b) : (mvd a b n).ok := by
  have hlo : a.lo / 2 ^ (64 - b) < 2 ^ b := by
    rw [Nat.div_lt_iff_lt_mul (Nat.two_pow_pos _), ← Nat.pow_add, show b + (64 - b) = 64 by omega]
    exact h.2
  refine ⟨?_, ?_⟩
  · simp only [mvd]
    exact Nat.or_lt_two_pow (Nat.mod_lt _ (by decide)) (Nat.lt_of_lt_of_le hlo (Nat.pow_le_pow_right (by decide) (by omega)))
  · simp only [mvd]
    exact Nat.or_lt_two_pow (Nat.mod_lt _ (by decide)) (Nat.lt_of_lt_of_le hn (Nat.pow_le_pow_right (by decide) (by omega)))
theorem rdG_ok (s : Sh) (hs : s.bits ≤ 16) : ∀ (l : List (List UInt8)) (a b : Ad), a.ok → rdG s a l = some b → b.ok ∧ b.v6 = a.v6
  | [], a, b, ha, h => by cases h; exact ⟨ha, rfl⟩
  | p :: r, a, b, ha, h => by
    rw [rdG] at h
    split at h
    · cases h
    · rename_i n hn
      have hl := puR_le hn
      have hp := Nat.two_pow_pos s.bits
      have := rdG_ok s hs r _ b (mvd_ok ha hs (by omega)) h
      exact ⟨this.1, this.2.trans (mvd_v6 ..)⟩
theorem prs_some {l : List UInt8} {a : Ad} (h : prs l = some a) : a.right ∧ a.ok ∧ txt a = l := by
  unfold prs at h
  split at h
  · cases h
  · rename_i x hx
    split at h
    · rename_i hc
      cases h
      refine ⟨hc.2.1, (rdG_ok _ ?_ _ ⟨six l, 0, 0⟩ _ (zero_ok _) hx).1, hc.2.2⟩
      cases six l <;> decide
    · cases h
theorem sh_total (a : Ad) : (shp a.v6).bits * (shp a.v6).parts = a.wd := by unfold Ad.wd; cases a.v6 <;> rfl
/-- reading the parts from the i-th one on. -/
theorem rdG_pts {a : Ad} (ha : a.ok) (hr : a.right) (k : Nat) : ∀ (i : Nat), i + k = (shp a.v6).parts → ∀ b : Ad, b.ok → b.v6 = a.v6 → b.num = a.num / 2 ^ ((shp a.v6).bits * k) →
    rdG (shp a.v6) b (((List.range (shp a.v6).parts).drop i).map fun j => (shp a.v6).num (prt a j)) = some a := by
  have hbits : (shp a.v6).bits ≤ 16 := by cases a.v6 <;> decide
  have hN := Ad.num_lt ha
  have hpl := prt_lt a
  have hpr : ∀ i, prt a i = a.num / 2 ^ ((shp a.v6).bits * ((shp a.v6).parts - 1 - i)) % 2 ^ (shp a.v6).bits := fun i => rfl
  have hpn := fun i => puR_num a.v6 (prt a i) (hpl i)
  have hq0 : ∀ k, a.num / 2 ^ ((shp a.v6).bits * (k + 1)) = a.num / 2 ^ ((shp a.v6).bits * k) / 2 ^ (shp a.v6).bits := fun k => by
    rw [Nat.mul_succ, Nat.pow_add, Nat.div_div_eq_div_mul]
  induction k with
  | zero =>
    intro i hi b hb hv hn
    rw [List.drop_eq_nil_of_le (by simp; omega)]
    simp only [List.map_nil, rdG]
    rw [Ad.ext_num hb ha hv (by rw [hn]; simp)]
  | succ k ih =>
    intro i hi b hb hv hn
    have hlt : i < (List.range (shp a.v6).parts).length := by simp; omega
    rw [List.drop_eq_getElem_cons hlt, List.map_cons, rdG, List.getElem_range, hpn i]
    simp only
    have hp : prt a i = a.num / 2 ^ ((shp a.v6).bits * k) % 2 ^ (shp a.v6).bits := by rw [hpr, show (shp a.v6).parts - 1 - i = k by omega]
    have hsum := Nat.div_add_mod' (a.num / 2 ^ ((shp a.v6).bits * k)) (2 ^ (shp a.v6).bits)
    have hle : a.num / 2 ^ ((shp a.v6).bits * k) ≤ a.num := Nat.div_le_self _ _
    rw [← hq0, ← hn, ← hp] at hsum
    obtain ⟨h1, h2⟩ := mvd_num hb hbits (hpl i) (Nat.lt_of_le_of_lt (Nat.le_trans (hsum ▸ Nat.le_add_right _ _) hle) hN)
    exact ih (i + 1) (by omega) _ h2 ((mvd_v6 ..).trans hv) (by rw [h1, hsum])
theorem pts_len (a : Ad) : (pts a).length = (shp a.v6).parts := by simp [pts]
theorem pts_no (a : Ad) (w : Bool) : ∀ p ∈ pts a, (shp w).mark ∉ p := by
  intro p hp
  simp only [pts, List.mem_map] at hp
  obtain ⟨i, _, rfl⟩ := hp
  exact num_no _ _ _ (prt_lt a i)
theorem pts_two (a : Ad) : ∃ x y r, pts a = x :: y :: r := by
  match h : pts a with
  | [] => have := pts_len a; rw [h] at this; exfalso; cases hv : a.v6 <;> simp [hv, shp] at this
  | [x] => have := pts_len a; rw [h] at this; exfalso; cases hv : a.v6 <;> simp [hv, shp] at this
  | x :: y :: r => exact ⟨x, y, r, rfl⟩
theorem join_no (c d : UInt8) (hcd : c ≠ d) : ∀ (x : List UInt8) (r : List (List UInt8)), (∀ p ∈ x :: r, c ∉ p) → c ∉ Lib.join (x :: r) [d]
  | x, [], h => by rw [Lib.join_one]; exact h x (by simp)
  | x, y :: r, h => by
    rw [join_cons2]
    have := join_no c d hcd y r (fun p hp => h p (List.mem_cons_of_mem _ hp))
    simp only [List.mem_append, List.mem_cons, not_or]
    exact ⟨h x (by simp), hcd, this⟩
theorem six_txt (a : Ad) : six (txt a) = a.v6 := by
  obtain ⟨x, y, r, h⟩ := pts_two a
  unfold six txt
  cases hv : a.v6 with
  | false =>
    have h1 := join_no 58 46 (by decide) x (y :: r) (fun p hp => pts_no a true p (by rw [h]; exact hp))
    rw [h, show (shp false).mark = 46 from rfl, idx_no h1]
    decide
  | true =>
    have h1 := pts_no a true x (by rw [h]; simp)
    rw [h, join_cons2, show (58 : UInt8) = (shp true).mark from rfl, idx_at h1]
    simp
theorem cut_txt (a : Ad) : cutT (txt a) = pts a := by
  unfold cutT
  rw [six_txt]
  obtain ⟨x, y, r, h⟩ := pts_two a
  unfold txt
  have hl := pts_len a
  rw [h] at hl ⊢
  exact spl_join _ _ _ _ (by rw [← hl]; simp) (fun p hp => pts_no a a.v6 p (by rw [h]; exact hp))
theorem rd_txt {a : Ad} (ha : a.ok) (hr : a.right) : rdT (txt a) = some a := by
  unfold rdT
  rw [cut_txt, six_txt]
  have := rdG_pts ha hr (shp a.v6).parts 0 (by omega) ⟨a.v6, 0, 0⟩ (zero_ok _) rfl (by
    rw [sh_total, Nat.div_eq_of_lt]
    · simp [Ad.num]
    · exact Ad.num_wd ha hr)
  rw [List.drop_zero] at this
  exact this
theorem prs_txt {a : Ad} (ha : a.ok) (hr : a.right) : prs (txt a) = some a := by
  unfold prs
  rw [rd_txt ha hr]
  exact if_pos ⟨by rw [cut_txt, six_txt, pts_len], hr, rfl⟩
theorem prs_iff {l : List UInt8} {a : Ad} : prs l = some a ↔ a.right ∧ a.ok ∧ txt a = l :=
  ⟨prs_some, fun ⟨h1, h2, h3⟩ => h3 ▸ prs_txt h2 h1⟩
end Go.Proofs.YtpognbkdafnfjaaDoor
