/- Texts of this proof, joined: NBase, NAdd, NTake, NShift, NNat. -/
import Derived.WalkKit
import Derived.WalkSpells
import Derived.WalkLawsBesides
import Derived.BigQuiet
import Derived.Deep.WholeRow
import Derived.Deep.Cut
import Derived.Deep.RegionHeld3
import Derived.Deep.RegionLaw
import Derived.Laws.BitsAllLaws
import Derived.Laws.CopyOwn
import Derived.Test.YtpimliebiapnfaaGreatDoorRows
/- Layer 5's ground: rows of digits of 32 bits as numbers, and where they lie. -/
namespace Go.Proofs.YtpimliebiapnfaaGreatDoor.N
set_option linter.unusedVariables false
open Go.RowKit
theorem size_list (s : ByteArray) : s.data.toList.length = s.size := rfl
theorem ba_ext {s t : ByteArray} (h : s.data.toList = t.data.toList) : s = t := by
  cases s; cases t; congr; exact Array.toList_inj.1 h
theorem ba_size (l : List UInt8) : (ByteArray.mk l.toArray).size = l.length := rfl
theorem heap_new (w : World) (o : Obj) : (w.alloc o).heap[w.heap.size]? = some o := by
  show (w.heap.push o)[w.heap.size]? = some o
  simp
theorem box_lt {W : World} {b : Nat} {o : Obj} (h : W.heap[b]? = some o) : b < W.heap.size := (Array.getElem?_eq_some_iff.1 h).1
theorem bthen {w w1 w2 : World} (h : Below w.heap.size w w1) (k : Below w1.heap.size w1 w2) : Below w.heap.size w w2 := h.trans (k.mono h.size)
theorem ret_int {k : IntKind} {a b : Int} (h : a = b) : Ending.returned (.int k a) = .returned (.int k b) := by rw [h]
theorem cell_block {w : World} {a : Addr} {v : Value} (h : w.cell? a = some v) : a.block < w.heap.size := by
  apply Classical.byContradiction
  intro hn
  have : w.heap[a.block]? = none := by simp; omega
  simp [World.cell?, this] at h
theorem Hid.mk {p : Prop} (h : p) : Hid p := h
theorem Hid.out {p : Prop} (h : Hid p) : p := h
theorem bv_lt (x : BitVec 32) : x.toNat < 4294967296 := x.isLt
theorem bv_of (n : Nat) : (BitVec.ofNat 32 n).toNat = n % 4294967296 := BitVec.toNat_ofNat ..
theorem below_dn (w : World) (j : Nat) : Below w.heap.size w (w.drewN j) := ⟨rfl, rfl, rfl, Nat.le_refl _, fun _ _ => rfl⟩
theorem below_le (w : World) (B n : Nat) : Below B w (w.drewN n) := ⟨rfl, rfl, rfl, Nat.le_refl _, fun _ _ => rfl⟩
theorem drew_add (w : World) (n m : Nat) : (w.drewN n).drewN m = w.drewN (n + m) := by simp [World.drewN, Nat.add_assoc]
theorem addr_at (b o j : Nat) : (⟨b, o, none⟩ : Addr).add j = ⟨b, o + j, none⟩ := by unfold Addr.add; split <;> simp_all
def val : List (BitVec 32) → Nat
  | [] => 0
  | x :: l => x.toNat + 4294967296 * val l
theorem val_app : ∀ (a b : List (BitVec 32)), val (a ++ b) = val a + 4294967296 ^ a.length * val b
  | [], b => by simp [val]
  | x :: a, b => by
    rw [List.cons_append, val, val_app a b, val, List.length_cons, Nat.pow_succ, Nat.mul_add, Nat.mul_comm _ 4294967296, Nat.mul_assoc]
    omega
theorem val_one (x : BitVec 32) : val [x] = x.toNat := by simp [val]
theorem val_snoc (a : List (BitVec 32)) (x : BitVec 32) : val (a ++ [x]) = val a + 4294967296 ^ a.length * x.toNat := by rw [val_app, val_one]
theorem val_lt : ∀ l : List (BitVec 32), val l < 4294967296 ^ l.length
  | [] => by simp [val]
  | x :: l => by
    have := val_lt l
    have := bv_lt x
    rw [val, List.length_cons, Nat.pow_succ]
    omega
theorem val_inj : ∀ (a b : List (BitVec 32)), a.length = b.length → val a = val b → a = b
  | [], [], _, _ => rfl
  | x :: a, y :: b, hl, hv => by
    rw [val, val] at hv
    have := bv_lt x
    have := bv_lt y
    have h1 : x.toNat = y.toNat := by omega
    have h2 : val a = val b := by omega
    rw [BitVec.eq_of_toNat_eq h1, val_inj a b (by simpa using hl) h2]
theorem val_zero (n : Nat) : val (List.replicate n 0) = 0 := by
  induction n with
  | zero => rfl
  | succ n ih => rw [List.replicate_succ, val, ih]; rfl
theorem val_take_succ (l : List (BitVec 32)) (m : Nat) (h : m < l.length) : val (l.take (m + 1)) = val (l.take m) + 4294967296 ^ m * (l[m]?.getD 0).toNat := by
  rw [List.take_add_one, List.getElem?_eq_getElem h]
  show val (l.take m ++ [l[m]]) = _
  rw [val_snoc, List.length_take, Nat.min_eq_left (by omega)]
  rfl
def wl (l : List (BitVec 32)) : List Value := l.map fun x => Value.int .u32 (x.toNat : Int)
theorem wl_len (l : List (BitVec 32)) : (wl l).length = l.length := by simp [wl]
theorem wl_app (a b : List (BitVec 32)) : wl (a ++ b) = wl a ++ wl b := by simp [wl]
theorem wl_one (l : List (BitVec 32)) : ∀ v ∈ wl l, v.oneCell' = true := fun v hv => by obtain ⟨x, _, rfl⟩ := List.mem_map.1 hv; rfl
theorem wl_at (l : List (BitVec 32)) (j : Nat) (h : j < l.length) : (wl l)[j]? = some (.int .u32 ((l[j]?.getD 0).toNat : Int)) := by
  simp [wl, List.getElem?_eq_getElem h]
theorem mid_at (A C : List Value) (l : List (BitVec 32)) (j : Nat) (h : j < l.length) : (A ++ (wl l ++ C))[A.length + j]? = some (.int .u32 ((l[j]?.getD 0).toNat : Int)) := by
  rw [List.getElem?_append_right (by omega), Nat.add_sub_cancel_left, List.getElem?_append_left (by rw [wl_len]; exact h), wl_at l j h]
theorem mid_set (A C : List Value) (l : List (BitVec 32)) (j : Nat) (h : j < l.length) (z : BitVec 32) : (A ++ (wl l ++ C)).set (A.length + j) (.int .u32 (z.toNat : Int)) = A ++ (wl (l.set j z) ++ C) := by
  rw [List.set_append_right _ _ (by omega), Nat.add_sub_cancel_left, List.set_append_left _ _ (by rw [wl_len]; exact h)]
  simp [wl]
theorem cells_at {W : World} {b j : Nat} {L : List Value} {t : TypeId} {v : Value} (h : W.heap[b]? = some (.cells L.toArray t (0, 0))) (hj : L[j]? = some v) : W.cell? ⟨b, j, none⟩ = some v ∧ W.frozen? ⟨b, j, none⟩ = false := by
  simp [World.cell?, World.frozen?, h, hj]
theorem cells_put {W : World} {b j : Nat} {L : List Value} {t : TypeId} (h : W.heap[b]? = some (.cells L.toArray t (0, 0))) (u : Value) : (W.setCell ⟨b, j, none⟩ u).heap[b]? = some (.cells (L.set j u).toArray t (0, 0)) := by
  simp only [World.setCell, Array.getElem?_modify, h]
  simp
structure But (g : Nat) (w w' : World) : Prop where
  os : w'.os = w.os
  tape : w'.tape = w.tape
  output : w'.output = w.output
  size : w.heap.size ≤ w'.heap.size
  block : ∀ k, k ≠ g → k < w.heap.size → w'.heap[k]? = w.heap[k]?
theorem But.refl (g : Nat) (w : World) : But g w w := ⟨rfl, rfl, rfl, Nat.le_refl _, fun _ _ _ => rfl⟩
theorem But.trans {g : Nat} {a b c : World} (h : But g a b) (k : But g b c) : But g a c :=
  ⟨k.os.trans h.os, k.tape.trans h.tape, k.output.trans h.output, Nat.le_trans h.size k.size, fun i hi hl => (k.block i hi (Nat.lt_of_lt_of_le hl h.size)).trans (h.block i hi hl)⟩
theorem But.drewN (g : Nat) (w : World) (n : Nat) : But g w (w.drewN n) := ⟨rfl, rfl, rfl, Nat.le_refl _, fun _ _ _ => rfl⟩
theorem But.setCell (g j : Nat) (w : World) (v : Value) : But g w (w.setCell ⟨g, j, none⟩ v) :=
  ⟨rfl, rfl, rfl, by simp, fun k hk _ => Below.heap_setCell w ⟨g, j, none⟩ v k hk⟩
theorem But.below {B g : Nat} {w0 a b : World} (h : Below B w0 a) (k : But g a b) (hB : B ≤ g) (hs : B ≤ a.heap.size) : Below B w0 b :=
  ⟨k.os.trans h.os, k.tape.trans h.tape, k.output.trans h.output, Nat.le_trans h.size k.size, fun i hi => (k.block i (by omega) (by omega)).trans (h.block i hi)⟩
theorem But.of {g : Nat} {a b : World} (h : Below a.heap.size a b) : But g a b := ⟨h.os, h.tape, h.output, h.size, fun k _ hk => h.block k hk⟩
theorem But.cell {g : Nat} {a b : World} (h : But g a b) {p : Addr} {v : Value} (hp : p.block ≠ g) (hc : a.cell? p = some v) : b.cell? p = some v :=
  (World.cell?_of_block (w := a) (h.block p.block hp (cell_block hc))).trans hc
end Go.Proofs.YtpimliebiapnfaaGreatDoor.N
/- addTimes, addTo. -/
namespace Go.Proofs.YtpimliebiapnfaaGreatDoor.N
set_option linter.unusedVariables false
open Go.RowKit
theorem add_step (B V X Y T c x y P z c' : Nat) (h : V + B * c = X + T * Y) (hP : P = T * y) (hz : z + 4294967296 * c' = P + x + c) : V + B * z + B * 4294967296 * c' = X + B * x + T * (Y + B * y) := by
  have h1 : B * (z + 4294967296 * c') = B * (P + x + c) := by rw [hz]
  rw [Nat.mul_add, Nat.mul_add, Nat.mul_add, hP] at h1
  rw [Nat.mul_add, Nat.mul_assoc B]
  have h2 : B * (T * y) = T * (B * y) := by rw [← Nat.mul_assoc, ← Nat.mul_assoc, Nat.mul_comm B T]
  rw [h2] at h1
  omega
set_option maxRecDepth 100000 in
set_option maxHeartbeats 2000000 in
theorem addTimes_in (W : World) (g h t o p c1 c2 n : Nat) (A C : List Value) (xs ys : List (BitVec 32)) (tm : BitVec 32) (hA : A.length = o) (hx : xs.length = n) (hy : ys.length = n) (hn : n ≤ 1000) (ho : o ≤ 1000) (hp : p ≤ 1000)
    (hg : W.heap[g]? = some (.cells (A ++ (wl xs ++ C)).toArray t (0, 0))) (hne : h ≠ g) (hh : ∀ j, j < n → W.cell? ⟨h, p + j, none⟩ = some (.int .u32 ((ys[j]?.getD 0).toNat : Int))) :
    Calls Tryz.prog 128 #[.slice (some ⟨g, o, none⟩) n c1, .slice (some ⟨h, p, none⟩) n c2, .int .u32 (tm.toNat : Int)] W fun e w' => ∃ (zs : List (BitVec 32)) (c : BitVec 32), zs.length = n ∧ val zs + 4294967296 ^ n * c.toNat = val xs + tm.toNat * val ys ∧ e = .returned (.int .u32 (c.toNat : Int)) ∧ w'.heap[g]? = some (.cells (A ++ (wl zs ++ C)).toArray t (0, 0)) ∧ But g W w' := by
  have HA := Hid.mk hA
  have HX := Hid.mk hx
  have HY := Hid.mk hy
  have HG := Hid.mk hg
  have HH := Hid.mk hh
  clear hA hx hy hg hh
  go_enter Tryz.func128, Tryz.ntmps128
  go_wp2_with fail
  go_loopw [7, 12] (fun cv i wr => ∃ (m cr : Nat) (zs : List (BitVec 32)), m ≤ n ∧ i = .int .i64 (m : Int) ∧ cv = .int .u64 (cr : Int) ∧ cr < 4294967296 ∧ Hid (zs.length = m) ∧ Hid (val zs + 4294967296 ^ m * cr = val (xs.take m) + tm.toNat * val (ys.take m)) ∧ wr.heap[g]? = some (.cells (A ++ (wl (zs ++ xs.drop m) ++ C)).toArray t (0, 0)) ∧ But g W wr) (fun _ i _ => n - (intOf i).toNat)
  case atStart => exact ⟨0, 0, [], by omega, rfl, rfl, by omega, rfl, by rw [Hid, List.take_zero, List.take_zero]; simp [val], HG.out, But.refl _ _⟩
  case round =>
    obtain ⟨m, cr, zs, hm, rfl, rfl, hcr, HZL, HV, h1, hbut⟩ := hrel
    have H1 := Hid.mk h1
    by_cases hlt : m < n
    · have hml : m < (zs ++ xs.drop m).length := by rw [List.length_append, List.length_drop, HZL.out, HX.out]; omega
      have hat : (zs ++ xs.drop m)[m]?.getD 0 = xs[m]?.getD 0 := by rw [List.getElem?_append_right (by rw [HZL.out]; omega), HZL.out, Nat.sub_self, List.getElem?_drop, Nat.add_zero]
      obtain ⟨hcx, hfx⟩ := cells_at h1 (mid_at A C _ m hml)
      rw [hat, HA.out] at hcx
      rw [HA.out] at hfx
      have hcy := hbut.cell (p := ⟨h, p + m, none⟩) hne (HH.out m hlt)
      have HST := Hid.mk (fun z => mid_set A C (zs ++ xs.drop m) m hml z)
      have HSL : Hid (∀ z : BitVec 32, (zs ++ xs.drop m).set m z = (zs ++ [z]) ++ xs.drop (m + 1)) := fun z => by
        rw [List.set_append_right _ _ (by rw [HZL.out]; omega), HZL.out, Nat.sub_self, List.append_assoc, List.drop_eq_getElem_cons (by rw [HX.out]; exact hlt)]
        rfl
      have HVX := Hid.mk (val_take_succ xs m (by rw [HX.out]; exact hlt))
      have HVY := Hid.mk (val_take_succ ys m (by rw [HY.out]; exact hlt))
      generalize xs[m]?.getD 0 = x at hcx HVX
      generalize ys[m]?.getD 0 = y at hcy HVY
      have hxl := bv_lt x
      have hyl := bv_lt y
      have htl := bv_lt tm
      obtain ⟨P, HP⟩ : ∃ P, Hid (P = tm.toNat * y.toNat) := ⟨_, rfl⟩
      have hPb : P ≤ 4294967295 * 4294967295 := by rw [HP.out]; exact Nat.mul_le_mul (by omega) (by omega)
      have hPi : (tm.toNat : Int) * (y.toNat : Int) = (P : Int) := by rw [HP.out, Int.natCast_mul]
      obtain ⟨T, hT⟩ : ∃ T, T = P + x.toNat + cr := ⟨_, rfl⟩
      have hTi : (P : Int) + (x.toNat : Int) + (cr : Int) = (T : Int) := by omega
      have hTb : T < 18446744073709551616 := by omega
      obtain ⟨z, HZ⟩ : ∃ z, Hid (z = BitVec.ofNat 32 T) := ⟨_, rfl⟩
      have hzn : z.toNat = T % 4294967296 := by rw [HZ.out, bv_of]
      have hz1 : (T : Int) % 4294967296 = (z.toNat : Int) := by omega
      have hz2 : IntKind.u32.wrap (T : Int) = (z.toNat : Int) := by rw [IntKind.wrap_u32]; omega
      obtain ⟨c', hc'⟩ : ∃ c', T / 4294967296 = c' := ⟨_, rfl⟩
      have hs1 : (T : Int) / 4294967296 = (c' : Int) := by omega
      have hcb : c' < 4294967296 := by omega
      have HEQ : Hid (z.toNat + 4294967296 * c' = P + x.toNat + cr) := by rw [Hid]; omega
      have HT := Hid.mk hT
      have HZN := Hid.mk hzn
      have HC := Hid.mk hc'
      have u1 : (m : Int) < (n : Int) := by omega
      have w1 : IntKind.u64.wrap ((tm.toNat : Int) * (y.toNat : Int)) = (P : Int) := by rw [hPi, IntKind.wrap_u64]; omega
      clear h1 hat hml hT hzn hc'
      go_wp2_with fail
      go_quiet (fail)
      have hcx2 : (wr.drewN nq).cell? ⟨g, o + m, none⟩ = _ := hcx
      have hfx2 : (wr.drewN nq).frozen? ⟨g, o + m, none⟩ = false := hfx
      have H2 : Hid ((wr.drewN nq).heap[g]? = _) := H1.out
      have hbut2 : But g W (wr.drewN nq) := hbut.trans (But.drewN _ _ _)
      clear hcx hfx H1 hbut hcy
      generalize wr.drewN nq = V at hcx2 hfx2 H2 hbut2 ⊢
      go_wp2
      go_roundw
      case rel =>
        refine ⟨m + 1, c', zs ++ [z], by omega, by go_num, by go_num, hcb, by rw [Hid, List.length_append, HZL.out]; rfl, ?_, ?_, hbut2.trans (But.setCell _ _ _ _)⟩
        · rw [Hid, val_snoc, HZL.out, HVX.out, HVY.out, Nat.pow_succ]
          exact add_step _ _ _ _ _ _ _ _ _ _ _ HV.out HP.out HEQ.out
        · have hh := cells_put (j := o + m) H2.out (.int .u32 (z.toNat : Int))
          rw [← HA.out, HST.out z, HSL.out z, HA.out] at hh
          exact hh
      case measure => simp [intOf]; omega
    · obtain rfl : m = n := by omega
      rw [List.drop_eq_nil_of_le (by rw [HX.out]; omega), List.append_nil] at H1
      have HV2 : Hid (val zs + 4294967296 ^ m * cr = val xs + tm.toNat * val ys) := by
        have := HV.out
        rwa [List.take_of_length_le (by rw [HX.out]; omega), List.take_of_length_le (by rw [HY.out]; omega)] at this
      have hw : IntKind.u32.wrap (cr : Int) = (cr : Int) := by rw [IntKind.wrap_u32]; omega
      clear h1
      go_wp2
      go_ret
      refine ⟨zs, BitVec.ofNat 32 cr, HZL.out, ?_, ?_, H1.out, hbut⟩
      · rw [bv_of, Nat.mod_eq_of_lt hcr]; exact HV2.out
      · rw [bv_of, Nat.mod_eq_of_lt hcr]; rfl
end Go.Proofs.YtpimliebiapnfaaGreatDoor.N
/- takeFrom, addTo, guess. -/
namespace Go.Proofs.YtpimliebiapnfaaGreatDoor.N
set_option linter.unusedVariables false
open Go.RowKit
theorem take_step (B V X Y T c x y P z c' : Nat) (h : V + T * Y = X + B * c) (hP : P = T * y) (hz : z + P + c = x + 4294967296 * c') : V + B * z + T * (Y + B * y) = X + B * x + B * 4294967296 * c' := by
  have h1 : B * (z + P + c) = B * (x + 4294967296 * c') := by rw [hz]
  rw [Nat.mul_add, Nat.mul_add, Nat.mul_add, hP] at h1
  rw [Nat.mul_add, Nat.mul_assoc B]
  have h2 : B * (T * y) = T * (B * y) := by rw [← Nat.mul_assoc, ← Nat.mul_assoc, Nat.mul_comm B T]
  rw [h2] at h1
  omega
set_option maxRecDepth 100000 in
set_option maxHeartbeats 2000000 in
theorem takeFrom_in (W : World) (g h t o p c1 c2 n : Nat) (A C : List Value) (xs ys : List (BitVec 32)) (tm : BitVec 32) (hA : A.length = o) (hx : xs.length = n) (hy : ys.length = n) (hn : n ≤ 1000) (ho : o ≤ 1000) (hp : p ≤ 1000)
    (hg : W.heap[g]? = some (.cells (A ++ (wl xs ++ C)).toArray t (0, 0))) (hne : h ≠ g) (hh : ∀ j, j < n → W.cell? ⟨h, p + j, none⟩ = some (.int .u32 ((ys[j]?.getD 0).toNat : Int))) :
    Calls Tryz.prog 127 #[.slice (some ⟨g, o, none⟩) n c1, .slice (some ⟨h, p, none⟩) n c2, .int .u32 (tm.toNat : Int)] W fun e w' => ∃ (zs : List (BitVec 32)) (c : BitVec 32), zs.length = n ∧ val zs + tm.toNat * val ys = val xs + 4294967296 ^ n * c.toNat ∧ e = .returned (.int .u32 (c.toNat : Int)) ∧ w'.heap[g]? = some (.cells (A ++ (wl zs ++ C)).toArray t (0, 0)) ∧ But g W w' := by
  have HA := Hid.mk hA
  have HX := Hid.mk hx
  have HY := Hid.mk hy
  have HG := Hid.mk hg
  have HH := Hid.mk hh
  clear hA hx hy hg hh
  go_enter Tryz.func127, Tryz.ntmps127
  go_wp2_with fail
  go_loopw [7, 13] (fun cv i wr => ∃ (m cr : Nat) (zs : List (BitVec 32)), m ≤ n ∧ i = .int .i64 (m : Int) ∧ cv = .int .u64 (cr : Int) ∧ cr < 4294967296 ∧ Hid (zs.length = m) ∧ Hid (val zs + tm.toNat * val (ys.take m) = val (xs.take m) + 4294967296 ^ m * cr) ∧ wr.heap[g]? = some (.cells (A ++ (wl (zs ++ xs.drop m) ++ C)).toArray t (0, 0)) ∧ But g W wr) (fun _ i _ => n - (intOf i).toNat)
  case atStart => exact ⟨0, 0, [], by omega, rfl, rfl, by omega, rfl, by rw [Hid, List.take_zero, List.take_zero]; simp [val], HG.out, But.refl _ _⟩
  case round =>
    obtain ⟨m, cr, zs, hm, rfl, rfl, hcr, HZL, HV, h1, hbut⟩ := hrel
    have H1 := Hid.mk h1
    by_cases hlt : m < n
    · have hml : m < (zs ++ xs.drop m).length := by rw [List.length_append, List.length_drop, HZL.out, HX.out]; omega
      have hat : (zs ++ xs.drop m)[m]?.getD 0 = xs[m]?.getD 0 := by rw [List.getElem?_append_right (by rw [HZL.out]; omega), HZL.out, Nat.sub_self, List.getElem?_drop, Nat.add_zero]
      obtain ⟨hcx, hfx⟩ := cells_at h1 (mid_at A C _ m hml)
      rw [hat, HA.out] at hcx
      rw [HA.out] at hfx
      have hcy := hbut.cell (p := ⟨h, p + m, none⟩) hne (HH.out m hlt)
      have HST := Hid.mk (fun z => mid_set A C (zs ++ xs.drop m) m hml z)
      have HSL : Hid (∀ z : BitVec 32, (zs ++ xs.drop m).set m z = (zs ++ [z]) ++ xs.drop (m + 1)) := fun z => by
        rw [List.set_append_right _ _ (by rw [HZL.out]; omega), HZL.out, Nat.sub_self, List.append_assoc, List.drop_eq_getElem_cons (by rw [HX.out]; exact hlt)]
        rfl
      have HVX := Hid.mk (val_take_succ xs m (by rw [HX.out]; exact hlt))
      have HVY := Hid.mk (val_take_succ ys m (by rw [HY.out]; exact hlt))
      generalize xs[m]?.getD 0 = x at hcx HVX
      generalize ys[m]?.getD 0 = y at hcy HVY
      have hxl := bv_lt x
      have hyl := bv_lt y
      have htl := bv_lt tm
      obtain ⟨P, HP⟩ : ∃ P, Hid (P = tm.toNat * y.toNat) := ⟨_, rfl⟩
      have hPb : P ≤ 4294967295 * 4294967295 := by rw [HP.out]; exact Nat.mul_le_mul (by omega) (by omega)
      have hPi : (tm.toNat : Int) * (y.toNat : Int) = (P : Int) := by rw [HP.out, Int.natCast_mul]
      obtain ⟨T, hT⟩ : ∃ T, T = P + cr := ⟨_, rfl⟩
      have hTi : (P : Int) + (cr : Int) = (T : Int) := by omega
      have hTb : T ≤ 18446744069414584320 := by omega
      obtain ⟨tl, htl2⟩ : ∃ tl, T % 4294967296 = tl := ⟨_, rfl⟩
      obtain ⟨th, hth⟩ : ∃ th, T / 4294967296 = th := ⟨_, rfl⟩
      have q1 : (T : Int) % 4294967296 = (tl : Int) := by omega
      have q2 : IntKind.u32.wrap (T : Int) = (tl : Int) := by rw [IntKind.wrap_u32]; omega
      have q3 : (T : Int) / 4294967296 = (th : Int) := by omega
      obtain ⟨D, hD⟩ : ∃ D, (x.toNat + 18446744073709551616 - tl) % 18446744073709551616 = D := ⟨_, rfl⟩
      have q4 : IntKind.u64.wrap ((x.toNat : Int) - (tl : Int)) = (D : Int) := by rw [IntKind.wrap_u64]; omega
      have q4' : ((x.toNat : Int) - (tl : Int)) % 18446744073709551616 = (D : Int) := by omega
      obtain ⟨bw, hbw⟩ : ∃ bw, D / 9223372036854775808 = bw := ⟨_, rfl⟩
      have q5 : (D : Int) / 9223372036854775808 = (bw : Int) := by omega
      obtain ⟨z, HZ⟩ : ∃ z, Hid (z = BitVec.ofNat 32 D) := ⟨_, rfl⟩
      have hzn : z.toNat = D % 4294967296 := by rw [HZ.out, bv_of]
      have q6 : (D : Int) % 4294967296 = (z.toNat : Int) := by omega
      have q7 : IntKind.u32.wrap (D : Int) = (z.toNat : Int) := by rw [IntKind.wrap_u32]; omega
      obtain ⟨c', hc'⟩ : ∃ c', c' = th + bw := ⟨_, rfl⟩
      have q8 : (th : Int) + (bw : Int) = (c' : Int) := by omega
      have hDc : (tl ≤ x.toNat ∧ D = x.toNat - tl) ∨ (x.toNat < tl ∧ D = x.toNat + 18446744073709551616 - tl) := by
        clear q4 q4' q5 q6 q7 q8
        omega
      have hcb : c' < 4294967296 := by
        clear q4 q4' q5 q6 q7 q8 hzn
        rcases hDc with ⟨d1, d2⟩ | ⟨d1, d2⟩ <;> omega
      have HEQ : Hid (z.toNat + P + cr = x.toNat + 4294967296 * c') := by
        rw [Hid, hzn]
        clear q4 q4' q5 q6 q7 q8 hzn
        rcases hDc with ⟨d1, d2⟩ | ⟨d1, d2⟩ <;> omega
      have hDb : D < 18446744073709551616 := by omega
      have htlb : tl < 4294967296 := by omega
      have hthb : th < 4294967296 := by omega
      have hbwb : bw < 2 := by omega
      have u1 : (m : Int) < (n : Int) := by omega
      have w1 : IntKind.u64.wrap ((tm.toNat : Int) * (y.toNat : Int)) = (P : Int) := by rw [hPi, IntKind.wrap_u64]; omega
      clear h1 hat hml hT hzn hc' hD hbw htl2 hth hDc
      go_wp2
      go_roundw
      case rel =>
        refine ⟨m + 1, c', zs ++ [z], by omega, by go_num, by go_num, hcb, by rw [Hid, List.length_append, HZL.out]; rfl, ?_, ?_, hbut.trans (But.setCell _ _ _ _)⟩
        · rw [Hid, val_snoc, HZL.out, HVX.out, HVY.out, Nat.pow_succ]
          exact take_step _ _ _ _ _ _ _ _ _ _ _ HV.out HP.out HEQ.out
        · have hh := cells_put (j := o + m) H1.out (.int .u32 (z.toNat : Int))
          rw [← HA.out, HST.out z, HSL.out z, HA.out] at hh
          exact hh
      case measure => simp [intOf]; omega
    · obtain rfl : m = n := by omega
      rw [List.drop_eq_nil_of_le (by rw [HX.out]; omega), List.append_nil] at H1
      have HV2 : Hid (val zs + tm.toNat * val ys = val xs + 4294967296 ^ m * cr) := by
        have := HV.out
        rwa [List.take_of_length_le (by rw [HY.out]; omega), List.take_of_length_le (by rw [HX.out]; omega)] at this
      have hw : IntKind.u32.wrap (cr : Int) = (cr : Int) := by rw [IntKind.wrap_u32]; omega
      clear h1
      go_wp2
      go_ret
      refine ⟨zs, BitVec.ofNat 32 cr, HZL.out, ?_, ?_, H1.out, hbut⟩
      · rw [bv_of, Nat.mod_eq_of_lt hcr]; exact HV2.out
      · rw [bv_of, Nat.mod_eq_of_lt hcr]; rfl
theorem addTo_in (W : World) (g h t o p c1 c2 n : Nat) (A C : List Value) (xs ys : List (BitVec 32)) (hA : A.length = o) (hx : xs.length = n) (hy : ys.length = n) (hn : n ≤ 1000) (ho : o ≤ 1000) (hp : p ≤ 1000)
    (hg : W.heap[g]? = some (.cells (A ++ (wl xs ++ C)).toArray t (0, 0))) (hne : h ≠ g) (hh : ∀ j, j < n → W.cell? ⟨h, p + j, none⟩ = some (.int .u32 ((ys[j]?.getD 0).toNat : Int))) :
    Calls Tryz.prog 126 #[.slice (some ⟨g, o, none⟩) n c1, .slice (some ⟨h, p, none⟩) n c2] W fun e w' => ∃ (zs : List (BitVec 32)) (c : BitVec 32), zs.length = n ∧ val zs + 4294967296 ^ n * c.toNat = val xs + val ys ∧ e = .returned (.int .u32 (c.toNat : Int)) ∧ w'.heap[g]? = some (.cells (A ++ (wl zs ++ C)).toArray t (0, 0)) ∧ But g W w' := by
  have H := Hid.mk (addTimes_in W g h t o p c1 c2 n A C xs ys 1#32 hA hx hy hn ho hp hg hne hh)
  clear hg hh hA
  go_enter Tryz.func126, Tryz.ntmps126
  go_wp2_with fail
  refine H.out.mono ?_
  rintro e w1 ⟨zs, c, h1, h2, rfl, h3, h4⟩
  go_wp2
  go_ret
  refine ⟨zs, c, h1, ?_, rfl, h3, h4⟩
  rw [h2]
  show val xs + 1 * val ys = _
  rw [Nat.one_mul]
def gs (a b d : Nat) : Nat := min ((4294967296 * a + b) / d) 4294967295
theorem or64 (a b : Nat) (ha : a < 4294967296) (hb : b < 4294967296) : bits .or .u64 ((a : Int) * 4294967296) (b : Int) = ((4294967296 * a + b : Nat) : Int) := by
  have e : a * 4294967296 ||| b = 4294967296 * a + b := by
    have := (Nat.two_pow_add_eq_or_of_lt (i := 32) (b := b) (by omega) a).symm
    simp only [Nat.reducePow] at this
    rw [Nat.mul_comm a]
    exact this
  rw [show ((a : Int) * 4294967296) = ((a * 4294967296 : Nat) : Int) by omega, u64_or_nat _ _ (by omega) (by omega), e]
theorem guess_in (a b d : BitVec 32) (hd : 0 < d.toNat) (W : World) :
    Calls Tryz.prog 148 #[.int .u32 (a.toNat : Int), .int .u32 (b.toNat : Int), .int .u32 (d.toNat : Int)] W fun e w' => e = .returned (.int .u32 ((gs a.toNat b.toNat d.toNat : Nat) : Int)) ∧ w' = W := by
  have ha := bv_lt a
  have hb := bv_lt b
  have hdl := bv_lt d
  have hor := or64 a.toNat b.toNat ha hb
  obtain ⟨M, hM⟩ : ∃ M, 4294967296 * a.toNat + b.toNat = M := ⟨_, rfl⟩
  rw [hM] at hor
  obtain ⟨q, hq⟩ : ∃ q, M / d.toNat = q := ⟨_, rfl⟩
  have hq1 : (M : Int) / (d.toNat : Int) = (q : Int) := by rw [← hq, Int.natCast_ediv]
  have hq2 : (M : Int).tdiv (d.toNat : Int) = (q : Int) := by rw [Int.tdiv_eq_ediv_of_nonneg (by omega)]; exact hq1
  have hqb : q ≤ M := by rw [← hq]; exact Nat.div_le_self _ _
  have hMb : M < 18446744073709551616 := by omega
  obtain ⟨r, hr⟩ : ∃ r, gs a.toNat b.toNat d.toNat = r := ⟨_, rfl⟩
  have hr2 : r = min q 4294967295 := by rw [← hr, gs, hM, hq]
  have hd0 : ((d.toNat : Int) == 0) = false := by rw [beq_eq_false_iff_ne]; omega
  have hd1 : (0 : Int) < (d.toNat : Int) := by omega
  rw [hr]
  have HR := Hid.mk hr2
  clear hr hr2 hq hM
  go_enter Tryz.func148, Tryz.ntmps148
  go_wp2
  all_goals (
    go_ret
    refine ⟨ret_int ?_, rfl⟩
    rw [HR.out]
    omega)
end Go.Proofs.YtpimliebiapnfaaGreatDoor.N
/- shiftUp, shiftDown. -/
namespace Go.Proofs.YtpimliebiapnfaaGreatDoor.N
set_option linter.unusedVariables false
open Go.RowKit
theorem orS (x k c : Nat) (hx : x < 4294967296) (hk : k < 32) (hc : c < 2 ^ k) : bits .or .u64 ((x : Int) * 2 ^ k) (c : Int) = ((x * 2 ^ k + c : Nat) : Int) ∧ x * 2 ^ k + c < 4294967296 * 2 ^ k ∧ (x : Int) * 2 ^ k = ((x * 2 ^ k : Nat) : Int) := by
  have h1 : 2 ^ k ≤ 2 ^ 31 := Nat.pow_le_pow_right (by omega) (by omega)
  have h0 : 0 < 2 ^ k := Nat.two_pow_pos k
  have h2 : (x + 1) * 2 ^ k ≤ 4294967296 * 2 ^ k := Nat.mul_le_mul_right _ (by omega)
  rw [Nat.add_mul, Nat.one_mul] at h2
  have h3 : 4294967296 * 2 ^ k ≤ 4294967296 * 2 ^ 31 := Nat.mul_le_mul_left _ h1
  have e : x * 2 ^ k ||| c = x * 2 ^ k + c := by
    rw [Nat.mul_comm x]
    exact (Nat.two_pow_add_eq_or_of_lt hc x).symm
  have ei : (x : Int) * 2 ^ k = ((x * 2 ^ k : Nat) : Int) := by rw [Int.natCast_mul, Int.natCast_pow]; rfl
  refine ⟨?_, by omega, ei⟩
  rw [ei, u64_or_nat _ _ (by omega) (by omega), e]
theorem up_step (B V X s c x z c' : Nat) (h : V + B * c = X * s) (hz : z + 4294967296 * c' = x * s + c) : V + B * z + B * 4294967296 * c' = (X + B * x) * s := by
  have h1 : B * (z + 4294967296 * c') = B * (x * s + c) := by rw [hz]
  rw [Nat.mul_add, Nat.mul_add] at h1
  rw [Nat.add_mul, Nat.mul_assoc B, Nat.mul_assoc B]
  omega
set_option maxRecDepth 100000 in
set_option maxHeartbeats 2000000 in
theorem shiftUp_in (W : World) (g t o c1 n k : Nat) (A C : List Value) (xs : List (BitVec 32)) (hA : A.length = o) (hx : xs.length = n) (hn : n ≤ 1000) (ho : o ≤ 1000) (hk : k < 32)
    (hg : W.heap[g]? = some (.cells (A ++ (wl xs ++ C)).toArray t (0, 0))) :
    Calls Tryz.prog 140 #[.slice (some ⟨g, o, none⟩) n c1, .int .i64 (k : Int)] W fun e w' => ∃ (zs : List (BitVec 32)) (c : Nat), zs.length = n ∧ val zs + 4294967296 ^ n * c = val xs * 2 ^ k ∧ e = .returned (.tuple #[]) ∧ w'.heap[g]? = some (.cells (A ++ (wl zs ++ C)).toArray t (0, 0)) ∧ But g W w' := by
  have HA := Hid.mk hA
  have HX := Hid.mk hx
  have HG := Hid.mk hg
  obtain ⟨s, hs⟩ : ∃ s, s = 2 ^ k := ⟨_, rfl⟩
  have HS := Hid.mk hs
  have hs0 : 0 < s := by rw [hs]; exact Nat.two_pow_pos k
  have hs1 : s ≤ 2147483648 := by rw [hs]; exact Nat.pow_le_pow_right (n := 2) (by omega) (show k ≤ 31 by omega)
  rw [← hs]
  clear hA hx hg hs
  go_enter Tryz.func140, Tryz.ntmps140
  go_wp2_with fail
  go_loopw [4, 9] (fun cv i wr => ∃ (m cr : Nat) (zs : List (BitVec 32)), m ≤ n ∧ i = .int .i64 (m : Int) ∧ cv = .int .u64 (cr : Int) ∧ cr < s ∧ Hid (zs.length = m) ∧ Hid (val zs + 4294967296 ^ m * cr = val (xs.take m) * s) ∧ wr.heap[g]? = some (.cells (A ++ (wl (zs ++ xs.drop m) ++ C)).toArray t (0, 0)) ∧ But g W wr) (fun _ i _ => n - (intOf i).toNat)
  case atStart => exact ⟨0, 0, [], by omega, rfl, rfl, hs0, rfl, by rw [Hid, List.take_zero]; simp [val], HG.out, But.refl _ _⟩
  case round =>
    obtain ⟨m, cr, zs, hm, rfl, rfl, hcr, HZL, HV, h1, hbut⟩ := hrel
    have H1 := Hid.mk h1
    by_cases hlt : m < n
    · have hml : m < (zs ++ xs.drop m).length := by rw [List.length_append, List.length_drop, HZL.out, HX.out]; omega
      have hat : (zs ++ xs.drop m)[m]?.getD 0 = xs[m]?.getD 0 := by rw [List.getElem?_append_right (by rw [HZL.out]; omega), HZL.out, Nat.sub_self, List.getElem?_drop, Nat.add_zero]
      obtain ⟨hcx, hfx⟩ := cells_at h1 (mid_at A C _ m hml)
      rw [hat, HA.out] at hcx
      rw [HA.out] at hfx
      have HST := Hid.mk (fun z => mid_set A C (zs ++ xs.drop m) m hml z)
      have HSL : Hid (∀ z : BitVec 32, (zs ++ xs.drop m).set m z = (zs ++ [z]) ++ xs.drop (m + 1)) := fun z => by
        rw [List.set_append_right _ _ (by rw [HZL.out]; omega), HZL.out, Nat.sub_self, List.append_assoc, List.drop_eq_getElem_cons (by rw [HX.out]; exact hlt)]
        rfl
      have HVX := Hid.mk (val_take_succ xs m (by rw [HX.out]; exact hlt))
      generalize xs[m]?.getD 0 = x at hcx HVX
      have hxl := bv_lt x
      obtain ⟨o1, o2, o3⟩ := orS x.toNat k cr hxl hk (by rw [← HS.out]; exact hcr)
      rw [o3] at o1
      rw [← HS.out] at o1 o2 o3
      obtain ⟨X, hX⟩ : ∃ X, x.toNat * s = X := ⟨_, rfl⟩
      rw [hX] at o1 o2 o3
      obtain ⟨T, hT⟩ : ∃ T, T = X + cr := ⟨_, rfl⟩
      rw [← hT] at o1 o2
      have o3' : (x.toNat : Int) * (s : Int) = (X : Int) := by rw [← hX, Int.natCast_mul]
      obtain ⟨z, HZ⟩ : ∃ z, Hid (z = BitVec.ofNat 32 T) := ⟨_, rfl⟩
      have hzn : z.toNat = T % 4294967296 := by rw [HZ.out, bv_of]
      have hz1 : (T : Int) % 4294967296 = (z.toNat : Int) := by omega
      have hz2 : IntKind.u32.wrap (T : Int) = (z.toNat : Int) := by rw [IntKind.wrap_u32]; omega
      obtain ⟨c', hc'⟩ : ∃ c', T / 4294967296 = c' := ⟨_, rfl⟩
      have hs1' : (T : Int) / 4294967296 = (c' : Int) := by omega
      have hcb : c' < s := by omega
      have HEQ : Hid (z.toNat + 4294967296 * c' = x.toNat * s + cr) := by rw [Hid, hX]; omega
      have hTb : T < 18446744073709551616 := by omega
      have hXb : X < 18446744073709551616 := by omega
      have hk0 : (0 : Int) ≤ (k : Int) := by omega
      have w1 : IntKind.u64.wrap (X : Int) = (X : Int) := by rw [IntKind.wrap_u64]; omega
      clear h1 hat hml hT hzn hc' hX
      go_wp2
      go_roundw
      case rel =>
        refine ⟨m + 1, c', zs ++ [z], by omega, by go_num, by go_num, hcb, by rw [Hid, List.length_append, HZL.out]; rfl, ?_, ?_, hbut.trans (But.setCell _ _ _ _)⟩
        · rw [Hid, val_snoc, HZL.out, HVX.out, Nat.pow_succ]
          exact up_step _ _ _ _ _ _ _ _ HV.out HEQ.out
        · have hh := cells_put (j := o + m) H1.out (.int .u32 (z.toNat : Int))
          rw [← HA.out, HST.out z, HSL.out z, HA.out] at hh
          exact hh
      case measure => simp [intOf]; omega
    · obtain rfl : m = n := by omega
      rw [List.drop_eq_nil_of_le (by rw [HX.out]; omega), List.append_nil] at H1
      have HV2 : Hid (val zs + 4294967296 ^ m * cr = val xs * s) := by
        have := HV.out
        rwa [List.take_of_length_le (by rw [HX.out]; omega)] at this
      clear h1
      go_wp2
      refine bodyPost_end (results_none rfl _ _ _) rfl ⟨zs, cr, HZL.out, HV2.out, rfl, H1.out, hbut⟩
theorem down_step (B s V x ab Q z : Nat) (hd : s ∣ B) (hs : 0 < s) (hab : ab = V % B) (hQ : Q = (B * ab + x) / s) (hz : z = Q % B) (hx : x < B) : z + B * (V / s) = (x + B * V) / s := by
  have hr : ab % s = V % s := by rw [hab]; exact Nat.mod_mod_of_dvd V hd
  have hlt : V % s < s := Nat.mod_lt _ hs
  have e1 : s * (ab / s) + V % s = ab := by rw [← hr]; exact Nat.div_add_mod ab s
  have e2 : s * (V / s) + V % s = V := Nat.div_add_mod V s
  have hB : 0 < B := by omega
  have hsm : (B * (V % s) + x) / s < B := by
    apply Nat.div_lt_of_lt_mul
    have h1 : B * (V % s + 1) ≤ B * s := Nat.mul_le_mul_left _ hlt
    rw [Nat.mul_add, Nat.mul_one] at h1
    rw [Nat.mul_comm s B]
    omega
  have hQ2 : Q = B * (ab / s) + (B * (V % s) + x) / s := by
    rw [hQ]
    have h1 : B * ab + x = s * (B * (ab / s)) + (B * (V % s) + x) := by
      have h2 : B * ab = B * (s * (ab / s)) + B * (V % s) := by rw [← Nat.mul_add, e1]
      rw [h2, Nat.mul_left_comm B s]
      omega
    rw [h1, Nat.mul_add_div hs]
  have hz2 : z = (B * (V % s) + x) / s := by
    rw [hz, hQ2, Nat.mul_add_mod, Nat.mod_eq_of_lt hsm]
  have h3 : x + B * V = s * (B * (V / s)) + (B * (V % s) + x) := by
    have h2 : B * V = B * (s * (V / s)) + B * (V % s) := by rw [← Nat.mul_add, e2]
    rw [h2, Nat.mul_left_comm B s]
    omega
  rw [h3, Nat.mul_add_div hs, hz2]
  omega
set_option maxRecDepth 100000 in
set_option maxHeartbeats 2000000 in
theorem shiftDown_in (W : World) (g t o c1 n k : Nat) (A C : List Value) (xs : List (BitVec 32)) (hA : A.length = o) (hx : xs.length = n) (hn : n ≤ 1000) (ho : o ≤ 1000) (hk : k < 32)
    (hg : W.heap[g]? = some (.cells (A ++ (wl xs ++ C)).toArray t (0, 0))) :
    Calls Tryz.prog 142 #[.slice (some ⟨g, o, none⟩) n c1, .int .i64 (k : Int)] W fun e w' => ∃ (zs : List (BitVec 32)), zs.length = n ∧ val zs = val xs / 2 ^ k ∧ e = .returned (.tuple #[]) ∧ w'.heap[g]? = some (.cells (A ++ (wl zs ++ C)).toArray t (0, 0)) ∧ But g W w' := by
  have HA := Hid.mk hA
  have HX := Hid.mk hx
  have HG := Hid.mk hg
  obtain ⟨s, hs⟩ : ∃ s, s = 2 ^ k := ⟨_, rfl⟩
  have HS := Hid.mk hs
  have hs0 : 0 < s := by rw [hs]; exact Nat.two_pow_pos k
  have HDV : Hid (s ∣ 4294967296) := by rw [Hid, hs]; exact Nat.pow_dvd_pow (n := 32) 2 (by omega)
  rw [← hs]
  clear hA hx hg hs
  go_enter Tryz.func142, Tryz.ntmps142
  go_wp2_with fail
  go_loopw [4, 10] (fun av i wr => ∃ (m ab : Nat) (ts : List (BitVec 32)), m ≤ n ∧ i = .int .i64 (m : Int) ∧ av = .int .u32 (ab : Int) ∧ ab < 4294967296 ∧ Hid (ts.length = m) ∧ Hid (ab = val (xs.drop (n - m)) % 4294967296) ∧ Hid (val ts = val (xs.drop (n - m)) / s) ∧ wr.heap[g]? = some (.cells (A ++ (wl (xs.take (n - m) ++ ts) ++ C)).toArray t (0, 0)) ∧ But g W wr) (fun _ i _ => n - (intOf i).toNat)
  case atStart =>
    have e0 : xs.drop (n - 0) = [] := List.drop_eq_nil_of_le (by rw [HX.out]; omega)
    refine ⟨0, 0, [], by omega, rfl, rfl, by omega, rfl, by rw [Hid, e0]; rfl, by rw [Hid, e0]; exact (Nat.zero_div s).symm, ?_, But.refl _ _⟩
    rw [List.take_of_length_le (by rw [HX.out]; omega), List.append_nil]
    exact HG.out
  case round =>
    obtain ⟨m, ab, ts, hm, rfl, rfl, hab, HTL, HAB, HV, h1, hbut⟩ := hrel
    have H1 := Hid.mk h1
    by_cases hlt : m < n
    · obtain ⟨a, ha⟩ : ∃ a, n - 1 - m = a := ⟨_, rfl⟩
      have ha1 : n - m = a + 1 := by omega
      have ha2 : n - (m + 1) = a := by omega
      have hal : a < n := by omega
      have hai : (n : Int) - 1 - (m : Int) = (a : Int) := by omega
      have hml : a < (xs.take (n - m) ++ ts).length := by rw [List.length_append, List.length_take, HTL.out, HX.out]; omega
      have hat : (xs.take (n - m) ++ ts)[a]?.getD 0 = xs[a]?.getD 0 := by rw [List.getElem?_append_left (by rw [List.length_take, HX.out]; omega), List.getElem?_take_of_lt (by omega)]
      obtain ⟨hcx, hfx⟩ := cells_at h1 (mid_at A C _ a hml)
      rw [hat, HA.out] at hcx
      rw [HA.out] at hfx
      have HST := Hid.mk (fun z => mid_set A C (xs.take (n - m) ++ ts) a hml z)
      have HSL : Hid (∀ z : BitVec 32, (xs.take (n - m) ++ ts).set a z = xs.take (n - (m + 1)) ++ (z :: ts)) := fun z => by
        rw [ha1, ha2, List.take_add_one, List.getElem?_eq_getElem (by rw [HX.out]; exact hal), List.append_assoc, List.set_append_right _ _ (by rw [List.length_take, HX.out]; omega), List.length_take, show a - min a xs.length = 0 by have := HX.out; omega]
        rfl
      have HDR : Hid (val (xs.drop (n - (m + 1))) = (xs[a]?.getD 0).toNat + 4294967296 * val (xs.drop (n - m))) := by
        rw [Hid, ha1, ha2, List.drop_eq_getElem_cons (by rw [HX.out]; exact hal), val, List.getElem?_eq_getElem (by rw [HX.out]; exact hal)]
        rfl
      generalize xs[a]?.getD 0 = x at hcx HDR
      have hxl := bv_lt x
      have hor := or64 ab x.toNat hab hxl
      obtain ⟨T, hT⟩ : ∃ T, 4294967296 * ab + x.toNat = T := ⟨_, rfl⟩
      rw [hT] at hor
      have hTb : T < 18446744073709551616 := by omega
      obtain ⟨Q, hQ⟩ : ∃ Q, T / s = Q := ⟨_, rfl⟩
      have hQi : (T : Int) / 2 ^ k = (Q : Int) := by rw [← hQ, HS.out, Int.natCast_ediv, Int.natCast_pow]; rfl
      have hQi2 : (T : Int) / (s : Int) = (Q : Int) := by rw [← hQ, Int.natCast_ediv]
      have hQb : Q < 18446744073709551616 := by rw [← hQ]; exact Nat.lt_of_le_of_lt (Nat.div_le_self _ _) hTb
      obtain ⟨z, HZ⟩ : ∃ z, Hid (z = BitVec.ofNat 32 Q) := ⟨_, rfl⟩
      have hzn : z.toNat = Q % 4294967296 := by rw [HZ.out, bv_of]
      have hz1 : (Q : Int) % 4294967296 = (z.toNat : Int) := by omega
      have hz2 : IntKind.u32.wrap (Q : Int) = (z.toNat : Int) := by rw [IntKind.wrap_u32]; omega
      have HVN : Hid (val (z :: ts) = val (xs.drop (n - (m + 1))) / s) := by
        rw [Hid, val, HV.out, HDR.out]
        exact down_step 4294967296 s _ x.toNat ab Q z.toNat HDV.out hs0 HAB.out (by rw [hT, hQ]) hzn hxl
      have HAN : Hid (x.toNat = val (xs.drop (n - (m + 1))) % 4294967296) := by rw [Hid, HDR.out]; omega
      have hk0 : (0 : Int) ≤ (k : Int) := by omega
      clear h1 hat hml hT hzn hQ ha HV HAB HDR
      go_wp2
      go_roundw
      case rel =>
        refine ⟨m + 1, x.toNat, z :: ts, by omega, by go_num, by go_num, hxl, by rw [Hid, List.length_cons, HTL.out], HAN, HVN, ?_, hbut.trans (But.setCell _ _ _ _)⟩
        have hh := cells_put (j := o + a) H1.out (.int .u32 (z.toNat : Int))
        rw [← HA.out, HST.out z, HSL.out z, HA.out] at hh
        exact hh
      case measure => simp [intOf]; omega
    · obtain rfl : m = n := by omega
      rw [Nat.sub_self, List.take_zero, List.nil_append] at H1
      have HV2 : Hid (val ts = val xs / s) := by
        have := HV.out
        rwa [Nat.sub_self, List.drop_zero] at this
      clear h1
      go_wp2
      refine bodyPost_end (results_none rfl _ _ _) rfl ⟨ts, HTL.out, HV2.out, rfl, H1.out, hbut⟩
end Go.Proofs.YtpimliebiapnfaaGreatDoor.N
/- A number as its 128 digits and how many there are. -/
namespace Go.Proofs.YtpimliebiapnfaaGreatDoor.N
set_option linter.unusedVariables false
open Go.RowKit
def Lim : Nat := 4294967296 ^ 128
def mny (N : Nat) : Nat := if N = 0 then 0 else Nat.log2 N / 32 + 1
theorem pow_bits (m : Nat) : (4294967296 : Nat) ^ m = 2 ^ (32 * m) := by rw [show (4294967296 : Nat) = 2 ^ 32 from rfl, ← Nat.pow_mul]
theorem mny_of (N m : Nat) (h0 : 4294967296 ^ m ≤ N) (h1 : N < 4294967296 ^ (m + 1)) : mny N = m + 1 := by
  have hp : 0 < 4294967296 ^ m := Nat.pow_pos (by omega)
  have hN : N ≠ 0 := by omega
  unfold mny
  rw [if_neg hN]
  rw [pow_bits] at h0 h1
  have a1 := (Nat.le_log2 hN).2 h0
  have a2 := (Nat.log2_lt hN).2 h1
  omega
theorem mny_zero : mny 0 = 0 := rfl
theorem mny_lt (N : Nat) : N < 4294967296 ^ mny N := by
  unfold mny
  by_cases h : N = 0
  · rw [if_pos h, h]; simp
  · rw [if_neg h, pow_bits]
    have := Nat.lt_log2_self (n := N)
    exact Nat.lt_of_lt_of_le this (Nat.pow_le_pow_right (by omega) (by omega))
theorem mny_ge (N : Nat) (h : N ≠ 0) : 0 < mny N ∧ 4294967296 ^ (mny N - 1) ≤ N := by
  unfold mny
  rw [if_neg h, pow_bits]
  refine ⟨by omega, Nat.le_trans (Nat.pow_le_pow_right (by omega) ?_) (Nat.log2_self_le h)⟩
  omega
theorem mny_le (N : Nat) (h : N < Lim) : mny N ≤ 128 := by
  by_cases h0 : N = 0
  · rw [h0]; exact Nat.zero_le _
  · have := (mny_ge N h0).2
    apply Classical.byContradiction
    intro hn
    have h2 : Lim ≤ 4294967296 ^ (mny N - 1) := Nat.pow_le_pow_right (by omega) (by omega)
    omega
theorem mny_list (l : List (BitVec 32)) (h : l = [] ∨ ∃ a x, l = a ++ [x] ∧ x.toNat ≠ 0) : mny (val l) = l.length := by
  rcases h with rfl | ⟨a, x, rfl, hx⟩
  · rfl
  · have h1 := val_lt (a ++ [x])
    rw [List.length_append, List.length_singleton] at h1 ⊢
    refine mny_of _ _ ?_ h1
    rw [val_snoc]
    have : 4294967296 ^ a.length * 1 ≤ 4294967296 ^ a.length * x.toNat := Nat.mul_le_mul_left _ (by omega)
    omega
theorem dgs_ex : ∀ (k N : Nat), N < 4294967296 ^ k → ∃ l : List (BitVec 32), l.length = k ∧ val l = N
  | 0, N, h => ⟨[], rfl, by simp at h; exact h.symm⟩
  | k + 1, N, h => by
    obtain ⟨l, h1, h2⟩ := dgs_ex k (N / 4294967296) (by rw [Nat.pow_succ] at h; omega)
    refine ⟨BitVec.ofNat 32 N :: l, by simp [h1], ?_⟩
    rw [val, h2, bv_of]
    omega
theorem dg_ex (N : Nat) : ∃ l : List (BitVec 32), l.length = 128 ∧ (N < Lim → val l = N) := by
  by_cases h : N < Lim
  · obtain ⟨l, h1, h2⟩ := dgs_ex 128 N h
    exact ⟨l, h1, fun _ => h2⟩
  · exact ⟨List.replicate 128 0, by simp, fun h' => absurd h' h⟩
noncomputable def dg (N : Nat) : List (BitVec 32) := Classical.choose (dg_ex N)
theorem dg_len (N : Nat) : (dg N).length = 128 := (Classical.choose_spec (dg_ex N)).1
theorem dg_val (N : Nat) (h : N < Lim) : val (dg N) = N := (Classical.choose_spec (dg_ex N)).2 h
theorem dg_of (l : List (BitVec 32)) (h : l.length = 128) : dg (val l) = l := by
  have hl : val l < Lim := by have := val_lt l; rw [h] at this; exact this
  exact val_inj _ _ (by rw [dg_len, h]) (dg_val _ hl)
noncomputable def natL (N : Nat) : List Value := wl (dg N) ++ [.int .i64 (mny N : Int)]
theorem natL_len (N : Nat) : (natL N).length = 129 := by rw [natL, List.length_append, wl_len, dg_len]; rfl
theorem natL_of (l : List (BitVec 32)) (h : l.length = 128) (m : Nat) (hm : mny (val l) = m) : wl l ++ [.int .i64 (m : Int)] = natL (val l) := by rw [natL, dg_of l h, hm]
theorem val_split (l : List (BitVec 32)) (m : Nat) : val l = val (l.take m) + 4294967296 ^ (l.take m).length * val (l.drop m) := by rw [← val_app, List.take_append_drop]
theorem dg_top (N : Nat) (h : N < Lim) (j : Nat) (hj : mny N ≤ j) : val ((dg N).take j) = N := by
  have h1 := val_split (dg N) j
  rw [dg_val N h] at h1
  by_cases hjl : 128 ≤ j
  · rw [List.take_of_length_le (by rw [dg_len]; exact hjl), dg_val N h]
  · rw [List.length_take, dg_len, Nat.min_eq_left (by omega)] at h1
    have h2 := mny_lt N
    have h3 : 4294967296 ^ mny N ≤ 4294967296 ^ j := Nat.pow_le_pow_right (by omega) hj
    have h4 : val ((dg N).drop j) = 0 := by
      apply Classical.byContradiction
      intro hn
      have : 4294967296 ^ j * 1 ≤ 4294967296 ^ j * val ((dg N).drop j) := Nat.mul_le_mul_left _ (by omega)
      omega
    rw [h4] at h1
    omega
theorem natZ : natL 0 = wl (List.replicate 128 0) ++ [.int .i64 0] := by
  have h := natL_of (List.replicate 128 0) (by simp) 0 (by rw [val_zero]; rfl)
  rw [val_zero] at h
  exact h.symm
noncomputable def natR (N : Nat) : Ending := if N < Lim then .returned (.tuple #[.agg (natL N).toArray, .int .i64 0]) else .returned (.tuple #[.agg (natL 0).toArray, .int .i64 3])
theorem nat_at (N j : Nat) (h : j < 128) : (natL N)[j]? = some (.int .u32 (((dg N)[j]?.getD 0).toNat : Int)) := by
  have := mid_at [] [.int .i64 (mny N : Int)] (dg N) j (by rw [dg_len]; exact h)
  simpa [natL] using this
theorem nat_many (N : Nat) : (natL N)[128]? = some (.int .i64 (mny N : Int)) := by
  rw [natL, List.getElem?_append_right (by rw [wl_len, dg_len]; omega), wl_len, dg_len]
  rfl
end Go.Proofs.YtpimliebiapnfaaGreatDoor.N