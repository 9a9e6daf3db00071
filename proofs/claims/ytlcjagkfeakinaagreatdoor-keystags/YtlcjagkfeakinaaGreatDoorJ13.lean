/- Texts of this proof, joined: KRefKey, GReg, GNum, GSpelt, GPad. -/
import Derived.Test.YtlcjagkfeakinaaGreatDoorJ6
import Derived.Lib.ConvBytes
import Derived.Laws.OwnMore
import Derived.ArgAppend
import Derived.Test.YtlcjagkfeakinaaGreatDoorJ12
/- The document's own Key. -/
namespace Go.Proofs.YtlcjagkfeakinaaGreatDoor.K48
set_option linter.unusedVariables false
open Go.RowKit
open G (cells_at cells_put)
/-- so many bytes, or none; what is left. -/
def tkS (n : Nat) (s : ByteArray) : ByteArray := if n ≤ s.size then s.extract 0 n else ⟨#[]⟩
def tkR (n : Nat) (s : ByteArray) : ByteArray := if n ≤ s.size then s.extract n s.size else ⟨#[]⟩
theorem tkR_le (n : Nat) (s : ByteArray) : (tkR n s).size ≤ s.size := by
  unfold tkR
  split
  · rw [ByteArray.size_extract]; omega
  · exact Nat.zero_le _
theorem tkS_le (n : Nat) (s : ByteArray) : (tkS n s).size ≤ n ∧ (tkS n s).size ≤ s.size := by
  unfold tkS
  split
  · rw [ByteArray.size_extract]; omega
  · exact ⟨Nat.zero_le _, Nat.zero_le _⟩
/-- the document's reader at block d: what is left, and whether it is bad. -/
def RR (W : World) (d : Nat) (s : ByteArray) (b : Bool) : Prop := W.heap[d]? = some (.cells #[.string s, .bool b] 104 (0, 0))
theorem RR.c0 {W : World} {d : Nat} {s : ByteArray} {b : Bool} (h : RR W d s b) : W.cell? ⟨d, 0, none⟩ = some (.string s) ∧ W.frozen? ⟨d, 0, none⟩ = false := cells_at h rfl
theorem RR.c1 {W : World} {d : Nat} {s : ByteArray} {b : Bool} (h : RR W d s b) : W.cell? ⟨d, 1, none⟩ = some (.bool b) ∧ W.frozen? ⟨d, 1, none⟩ = false := cells_at h rfl
theorem RR.lt {W : World} {d : Nat} {s : ByteArray} {b : Bool} (h : RR W d s b) : d < W.heap.size := box_lt h
theorem RR.set0 {W : World} {d : Nat} {s : ByteArray} {b : Bool} (h : RR W d s b) (t : ByteArray) : RR (W.setCell ⟨d, 0, none⟩ (.string t)) d t b := cells_put (j := 0) h (.string t)
theorem RR.set1 {W : World} {d : Nat} {s : ByteArray} {b : Bool} (h : RR W d s b) (c : Bool) : RR (W.setCell ⟨d, 1, none⟩ (.bool c)) d s c := cells_put (j := 1) h (.bool c)
theorem RR.below {W W' : World} {d : Nat} {s : ByteArray} {b : Bool} (h : RR W d s b) (k : Below W.heap.size W W') : RR W' d s b := (k.block d h.lt).trans h
theorem RR.kept {W W' : World} {d c : Nat} {s : ByteArray} {b : Bool} (h : RR W d s b) (k : Kept c W W') (hc : d ≠ c) : RR W' d s b := (k.same d h.lt hc).trans h
set_option maxRecDepth 100000 in
theorem rTake_in (W : World) (d n : Nat) (s : ByteArray) (b : Bool) (hs : s.size ≤ 140737488355328) (hn : n ≤ 140737488356000) (h : RR W d s b) :
    Calls Tryz.prog 102 #[boxV d, .int .i64 n] W fun e w' => e = .returned (.string (tkS n s)) ∧ RR w' d (tkR n s) (b || decide (s.size < n)) ∧ Kept d W w' := by
  obtain ⟨hc0, hf0⟩ := h.c0
  obtain ⟨hc1, hf1⟩ := h.c1
  by_cases hl : n ≤ s.size
  · rw [tkS, if_pos hl, tkR, if_pos hl, decide_eq_false (by omega), Bool.or_false]
    have HH := Hid.mk h
    clear h
    go_enter Tryz.func102, Tryz.ntmps102
    go_wp2
    go_ret
    exact ⟨rfl, HH.out.set0 _, Kept.set _ _ _ _⟩
  · rw [tkS, if_neg hl, tkR, if_neg hl, decide_eq_true (by omega), Bool.or_true]
    have HH := Hid.mk h
    have h2 := (h.set1 true).c0
    obtain ⟨hc2, hf2⟩ := h2
    clear h
    go_enter Tryz.func102, Tryz.ntmps102
    go_wp2
    go_ret
    exact ⟨rfl, (HH.out.set1 true).set0 _, (Kept.set _ _ _ _).trans (Kept.set _ _ _ _)⟩
set_option maxRecDepth 100000 in
set_option maxHeartbeats 1000000 in
theorem rNum_in (W : World) (d n : Nat) (s : ByteArray) (b : Bool) (hs : s.size ≤ 140737488355328) (hn : n ≤ 4) (h : RR W d s b) :
    Calls Tryz.prog 60 #[boxV d, .int .i64 n] W fun e w' => e = .returned (.int .i64 ((numB (tkS n s).data.toList : Nat) : Int)) ∧ RR w' d (tkR n s) (b || decide (s.size < n)) ∧ Kept d W w' := by
  have HT := Hid.mk (rTake_in W d n s b hs (by omega) h)
  have hk := (tkS_le n s).1
  generalize tkS n s = t at HT hk ⊢
  have ht : t.size ≤ 4 := by omega
  clear hk h
  go_enter Tryz.func60, Tryz.ntmps60
  go_wp2_with fail
  refine HT.out.mono ?_
  rintro e w1 ⟨rfl, hr1, hk1⟩
  have HR1 := Hid.mk hr1
  have HK1 := Hid.mk hk1
  clear hr1 hk1 HT
  go_wp2
  go_loopw [6, 7] (fun nv i wr => ∃ k : Nat, k ≤ t.size ∧ i = .int .i64 k ∧ nv = .int .i64 ((numB (t.data.toList.take k) : Nat) : Int) ∧ wr = w1) (fun _ i _ => t.size - (intOf i).toNat)
  case atStart => exact ⟨0, Nat.zero_le _, rfl, rfl, rfl⟩
  case round =>
    obtain ⟨k, hk, rfl, rfl, rfl⟩ := hrel
    by_cases hlt : k < t.size
    · have hlt' : k < t.data.toList.length := by rw [size_list]; exact hlt
      have hb := t[k].toNat_lt
      have HN : Hid (numB (t.data.toList.take (k + 1)) = numB (t.data.toList.take k) * 256 + t[k].toNat) := by
        rw [Hid, List.take_succ_eq_append_getElem hlt', numB_snoc]; rfl
      have hlt6 : numB (t.data.toList.take k) < 4294967296 := by
        refine Nat.lt_of_lt_of_le (numB_lt _) ?_
        have : (t.data.toList.take k).length ≤ 4 := by rw [List.length_take]; omega
        exact Nat.le_trans (Nat.pow_le_pow_right (by omega) this) (by decide)
      generalize numB (t.data.toList.take k) = q at hlt6 HN ⊢
      go_wp2
      exact ⟨⟨k + 1, by omega, by go_num, by rw [HN.out]; go_num, trivial⟩, by simp [intOf]; omega⟩
    · have hall : t.data.toList.take k = t.data.toList := List.take_of_length_le (by rw [size_list]; omega)
      rw [hall]
      go_wp2
      go_ret
      exact ⟨rfl, HR1.out, HK1.out⟩
set_option maxRecDepth 100000 in
theorem rAll_in (W : World) (d : Nat) (s : ByteArray) (b : Bool) (hs : s.size ≤ 140737488355328) (h : RR W d s b) :
    Calls Tryz.prog 61 #[boxV d, .int .i64 1] W fun e w' => e = .returned (.string s) ∧ RR w' d ⟨#[]⟩ (b || decide (s.size < 1)) ∧ Kept d W w' := by
  obtain ⟨hc0, hf0⟩ := h.c0
  obtain ⟨hc1, hf1⟩ := h.c1
  have HH := Hid.mk h
  cases b with
  | true =>
    obtain ⟨hc2, hf2⟩ := (h.set1 true).c0
    clear h
    go_enter Tryz.func61, Tryz.ntmps61
    go_wp2
    go_ret
    exact ⟨rfl, (HH.out.set1 true).set0 _, (Kept.set _ _ _ _).trans (Kept.set _ _ _ _)⟩
  | false =>
    have e0 : decide ((s.size : Int) < 1) = decide (s.size < 1) := decide_eq_decide.2 (by omega)
    obtain ⟨hc2, hf2⟩ := (h.set1 (decide ((s.size : Int) < 1))).c0
    have HE := Hid.mk e0
    clear h e0
    go_enter Tryz.func61, Tryz.ntmps61
    go_wp2
    go_ret
    rw [HE.out]
    exact ⟨rfl, (HH.out.set1 _).set0 _, (Kept.set _ _ _ _).trans (Kept.set _ _ _ _)⟩
/-- the reader, and the place of the answer. -/
structure S0 (W w : World) (a rb : Nat) (r : ByteArray) (b : Bool) (t : TypeId) (zs : Array Value) : Prop where
  rr : RR w rb r b
  res : w.heap[a]? = some (.cells zs t (0, 0))
  bel : Below W.heap.size W w
  ne : a ≠ rb
  ha : W.heap.size ≤ a
  hr : W.heap.size ≤ rb
/-- besides, the fields. -/
structure S1 (W w : World) (a rb xb : Nat) (r : ByteArray) (b : Bool) (t : TypeId) (zs cs : Array Value) : Prop where
  s : S0 W w a rb r b t zs
  x : w.heap[xb]? = some (.cells cs t (0, 0))
  nx : xb ≠ rb
  na : a ≠ xb
  hx : W.heap.size ≤ xb
theorem S0.first (W : World) (t : TypeId) (zs : Array Value) (d : ByteArray) : S0 W ((W.alloc (.cells zs t)).alloc (.cells #[.string d, .bool false] 104)) W.heap.size (W.heap.size + 1) d false t zs := by
  have h1 : (W.alloc (.cells zs t)).heap.size = W.heap.size + 1 := by simp
  refine ⟨?_, ?_, ((Below.refl _ _).alloc (Nat.le_refl _) _).alloc (by simp) _, by omega, Nat.le_refl _, by omega⟩
  · have := heap_new (W.alloc (.cells zs t)) (.cells #[.string d, .bool false] 104)
    rw [h1] at this
    exact this
  · exact (((Below.refl (W.alloc (.cells zs t)).heap.size _).alloc (Nat.le_refl _) _).block _ (by simp)).trans (heap_new _ _)
theorem S0.call {W w w' : World} {a rb : Nat} {r r' : ByteArray} {b b' : Bool} {t : TypeId} {zs : Array Value} (h : S0 W w a rb r b t zs) (hr : RR w' rb r' b') (hk : Kept rb w w') : S0 W w' a rb r' b' t zs :=
  ⟨hr, (hk.same a (box_lt h.res) h.ne).trans h.res, h.bel.trans (hk.below h.hr h.bel.size), h.ne, h.ha, h.hr⟩
theorem S0.new {W w : World} {a rb : Nat} {r : ByteArray} {b : Bool} {t : TypeId} {zs : Array Value} (h : S0 W w a rb r b t zs) (cs : Array Value) : S1 W (w.alloc (.cells cs t)) a rb w.heap.size r b t zs cs := by
  have hb := (Below.refl w.heap.size w).alloc (Nat.le_refl _) (.cells cs t)
  have h1 := h.rr.lt
  have h2 := box_lt h.res
  exact ⟨⟨h.rr.below hb, (hb.block a h2).trans h.res, h.bel.alloc h.bel.size _, h.ne, h.ha, h.hr⟩, heap_new _ _, by omega, by omega, h.bel.size⟩
theorem S1.call {W w w' : World} {a rb xb : Nat} {r r' : ByteArray} {b b' : Bool} {t : TypeId} {zs cs : Array Value} (h : S1 W w a rb xb r b t zs cs) (hr : RR w' rb r' b') (hk : Kept rb w w') : S1 W w' a rb xb r' b' t zs cs :=
  ⟨h.s.call hr hk, (hk.same xb (box_lt h.x) h.nx).trans h.x, h.nx, h.na, h.hx⟩
theorem S1.put {W w : World} {a rb xb : Nat} {r : ByteArray} {b : Bool} {t : TypeId} {zs cs : Array Value} (h : S1 W w a rb xb r b t zs cs) (j : Nat) (v : Value) : S1 W (w.setCell ⟨xb, j, none⟩ v) a rb xb r b t zs (cs.setIfInBounds j v) :=
  ⟨⟨(Below.heap_setCell w ⟨xb, j, none⟩ v rb (fun e => h.nx e.symm)).trans h.s.rr, (Below.heap_setCell w ⟨xb, j, none⟩ v a h.na).trans h.s.res, h.s.bel.setCell h.hx _, h.s.ne, h.s.ha, h.s.hr⟩, cells_put (j := j) h.x v, h.nx, h.na, h.hx⟩
/-- a step: what was taken, what is left, whether it is bad. -/
def Stq (n : Nat) (s : ByteArray) (b : Bool) (t r' : ByteArray) (b' : Bool) : Prop := t = tkS n s ∧ r' = tkR n s ∧ b' = (b || decide (s.size < n))
def NumPost (n : Nat) (s : ByteArray) (b : Bool) (d : Nat) (W : World) (e : Ending) (w' : World) : Prop := ∃ t r' b', e = .returned (.int .i64 ((numB t.data.toList : Nat) : Int)) ∧ RR w' d r' b' ∧ Kept d W w' ∧ Stq n s b t r' b' ∧ r'.size ≤ s.size
theorem rNum_post (n : Nat) (hn : n ≤ 4) (W : World) (d : Nat) (s : ByteArray) (b : Bool) (hs : s.size ≤ 140737488355328) (h : RR W d s b) :
    Calls Tryz.prog 60 #[boxV d, .int .i64 n] W fun e w' => NumPost n s b d W e w' := by
  refine (rNum_in W d n s b hs hn h).mono ?_
  rintro e w' ⟨rfl, h1, h2⟩
  exact ⟨_, _, _, rfl, h1, h2, ⟨rfl, rfl, rfl⟩, tkR_le _ _⟩
def AllPost (s : ByteArray) (b : Bool) (d : Nat) (W : World) (e : Ending) (w' : World) : Prop := ∃ r' b', e = .returned (.string s) ∧ RR w' d r' b' ∧ Kept d W w' ∧ b' = (b || decide (s.size < 1)) ∧ r'.size = 0
theorem rAll_post (W : World) (d : Nat) (s : ByteArray) (b : Bool) (hs : s.size ≤ 140737488355328) (h : RR W d s b) :
    Calls Tryz.prog 61 #[boxV d, .int .i64 1] W fun e w' => AllPost s b d W e w' := by
  refine (rAll_in W d s b hs h).mono ?_
  rintro e w' ⟨rfl, h1, h2⟩
  exact ⟨_, _, rfl, h1, h2, rfl, rfl⟩
theorem tkR_size (n : Nat) (s : ByteArray) : (tkR n s).size = s.size - n := by
  unfold tkR
  split
  · rw [ByteArray.size_extract]; omega
  · show 0 = s.size - n
    omega
/-- the four steps of a key. -/
theorem key_steps {d t0 t1 t2 r1 r2 r3 r4 : ByteArray} {b1 b2 b3 b4 : Bool} (P0 : Stq 2 d false t0 r1 b1) (P1 : Stq 1 r1 b1 t1 r2 b2) (P2 : Stq 1 r2 b2 t2 r3 b3) (P3 : b4 = (b3 || decide (r3.size < 1))) (hz : r4.size = 0) :
    (b4 = false ∧ r4.size = 0 ∧ d.size ≤ 2000 ∧ (numB t2.data.toList = algN d ∧ 5 ≤ d.size ∧ d.size ≤ 2000)) ∨ ((b4 = true ∨ 0 < r4.size ∨ 2000 < d.size) ∧ ¬ (5 ≤ d.size ∧ d.size ≤ 2000)) := by
  obtain ⟨_, rfl, rfl⟩ := P0
  obtain ⟨_, rfl, rfl⟩ := P1
  obtain ⟨rfl, rfl, rfl⟩ := P2
  have hb : b4 = decide (d.size < 5) := by
    rw [P3, Bool.false_or, Bool.eq_iff_iff]
    simp only [Bool.or_eq_true, decide_eq_true_eq, tkR_size]
    omega
  by_cases h5 : 5 ≤ d.size
  · rw [decide_eq_false (by omega)] at hb
    by_cases h2 : d.size ≤ 2000
    · left
      refine ⟨hb, hz, h2, ?_, h5, h2⟩
      have e1 : tkR 2 d = d.extract 2 d.size := if_pos (by omega)
      have z1 : (d.extract 2 d.size).size = d.size - 2 := by rw [ByteArray.size_extract]; omega
      have e2 : tkR 1 (d.extract 2 d.size) = (d.extract 2 d.size).extract 1 (d.size - 2) := by unfold tkR; rw [if_pos (by omega), z1]
      have z2 : ((d.extract 2 d.size).extract 1 (d.size - 2)).size = d.size - 3 := by rw [ByteArray.size_extract]; omega
      have e3 : tkS 1 ((d.extract 2 d.size).extract 1 (d.size - 2)) = ((d.extract 2 d.size).extract 1 (d.size - 2)).extract 0 1 := if_pos (by omega)
      rw [e1, e2, e3]
      exact alg_at d h5
    · right
      exact ⟨.inr (.inr (by omega)), fun h => h2 h.2⟩
  · right
    rw [decide_eq_true (by omega)] at hb
    exact ⟨.inl hb, fun h => h5 h.1⟩
/-- what the document's Key answers. -/
def RefKeyPost (d : ByteArray) (e : Ending) : Prop := ((5 ≤ d.size ∧ d.size ≤ 2000) ∧ ∃ (n0 n1 : Nat) (p3 : ByteArray), e = .returned (.tuple #[.agg #[.int .i64 ((n0 : Nat) : Int), .int .i64 ((n1 : Nat) : Int), .int .i64 ((algN d : Nat) : Int), .string p3], .bool true])) ∨ (¬ (5 ≤ d.size ∧ d.size ≤ 2000) ∧ e = .returned (.tuple #[.agg #[.int .i64 0, .int .i64 0, .int .i64 0, .string ⟨#[]⟩], .bool false]))
set_option maxRecDepth 100000 in
set_option maxHeartbeats 8000000 in
theorem refKey_in (d : ByteArray) (hd : d.size ≤ 140737488355328) (W : World) :
    Calls Tryz.prog 31 #[.string d] W fun e w' => RefKeyPost d e ∧ Below W.heap.size W w' := by
  have hmo : Tryz.prog.follows Departure.mixedOrders = true := by kernel_rfl
  have Q := Hid.mk (S0.first W 68 #[.int .i64 0, .int .i64 0, .int .i64 0, .string ⟨#[]⟩] d)
  obtain ⟨r0, hr0⟩ : ∃ r0, r0 = d := ⟨_, rfl⟩
  have hz0 : r0.size ≤ 140737488355328 := by rw [hr0]; exact hd
  rw [show S0 W ((W.alloc (.cells #[.int .i64 0, .int .i64 0, .int .i64 0, .string ⟨#[]⟩] 68)).alloc (.cells #[.string d, .bool false] 104)) W.heap.size (W.heap.size + 1) d false 68 #[.int .i64 0, .int .i64 0, .int .i64 0, .string ⟨#[]⟩] = S0 W ((W.alloc (.cells #[.int .i64 0, .int .i64 0, .int .i64 0, .string ⟨#[]⟩] 68)).alloc (.cells #[.string d, .bool false] 104)) W.heap.size (W.heap.size + 1) r0 false 68 #[.int .i64 0, .int .i64 0, .int .i64 0, .string ⟨#[]⟩] by rw [hr0]] at Q
  have HR0 := Hid.mk hr0
  clear hr0
  go_enter Tryz.func31, Tryz.ntmps31
  go_wp2_with fail
  refine (rNum_post 2 (by omega) _ (W.heap.size + 1) r0 false hz0 Q.out.rr).mono ?_
  rintro e w1 ⟨t0, r1, b1, rfl, hr, hk, hs0, hz⟩
  have hz1 : r1.size ≤ 140737488355328 := by omega
  replace Q := Hid.mk (Q.out.call hr hk)
  have P0 := Hid.mk hs0
  clear hr hk hs0 hz hz0
  replace Q := Hid.mk (Q.out.new #[.int .i64 ((numB t0.data.toList : Nat) : Int), .int .i64 0, .int .i64 0, .string ⟨#[]⟩])
  go_wp2_with fail
  refine (rNum_post 1 (by omega) _ (W.heap.size + 1) r1 b1 hz1 Q.out.s.rr).mono ?_
  rintro e w2 ⟨t1, r2, b2, rfl, hr, hk, hs1, hz⟩
  have hz2 : r2.size ≤ 140737488355328 := by omega
  replace Q := Hid.mk (Q.out.call hr hk)
  have P1 := Hid.mk hs1
  clear hr hk hs1 hz hz1
  obtain ⟨g1, f1⟩ := cells_at (v := .int .i64 0) (j := 1) Q.out.x rfl
  replace Q := Hid.mk (Q.out.put 1 (.int .i64 ((numB t1.data.toList : Nat) : Int)))
  go_wp2_with fail
  refine (rNum_post 1 (by omega) _ (W.heap.size + 1) r2 b2 hz2 Q.out.s.rr).mono ?_
  rintro e w3 ⟨t2, r3, b3, rfl, hr, hk, hs2, hz⟩
  have hz3 : r3.size ≤ 140737488355328 := by omega
  replace Q := Hid.mk (Q.out.call hr hk)
  have P2 := Hid.mk hs2
  clear hr hk hs2 hz hz2
  obtain ⟨g2, f2⟩ := cells_at (v := .int .i64 0) (j := 2) Q.out.x rfl
  replace Q := Hid.mk (Q.out.put 2 (.int .i64 ((numB t2.data.toList : Nat) : Int)))
  go_wp2_with fail
  refine (rAll_post _ (W.heap.size + 1) r3 b3 hz3 Q.out.s.rr).mono ?_
  rintro e w4 ⟨r4, b4, rfl, hr, hk, hs3, hz⟩
  have hz4 : r4.size ≤ 140737488355328 := by omega
  replace Q := Hid.mk (Q.out.call hr hk)
  have P3 := Hid.mk hs3
  have HZ := Hid.mk hz
  clear hr hk hs3 hz hz3
  obtain ⟨g3, f3⟩ := cells_at (v := .string ⟨#[]⟩) (j := 3) Q.out.x rfl
  replace Q := Hid.mk (Q.out.put 3 (.string r3))
  rw [HR0.out] at P0
  have HSP := Hid.mk (key_steps P0.out P1.out P2.out P3.out HZ.out)
  clear P0 P1 P2 P3
  obtain ⟨u0, v0⟩ := Q.out.s.rr.c0
  obtain ⟨u1, v1⟩ := Q.out.s.rr.c1
  obtain ⟨x0, y0⟩ := cells_at (v := .int .i64 ((numB t0.data.toList : Nat) : Int)) (j := 0) Q.out.x rfl
  obtain ⟨x1, y1⟩ := cells_at (v := .int .i64 ((numB t1.data.toList : Nat) : Int)) (j := 1) Q.out.x rfl
  obtain ⟨x2, y2⟩ := cells_at (v := .int .i64 ((numB t2.data.toList : Nat) : Int)) (j := 2) Q.out.x rfl
  obtain ⟨x3, y3⟩ := cells_at (v := .string r3) (j := 3) Q.out.x rfl
  obtain ⟨a0, c0⟩ := cells_at (v := .int .i64 0) (j := 0) Q.out.s.res rfl
  obtain ⟨a1, c1⟩ := cells_at (v := .int .i64 0) (j := 1) Q.out.s.res rfl
  obtain ⟨a2, c2⟩ := cells_at (v := .int .i64 0) (j := 2) Q.out.s.res rfl
  obtain ⟨a3, c3⟩ := cells_at (v := .string ⟨#[]⟩) (j := 3) Q.out.s.res rfl
  clear g1 f1 g2 f2
  rcases HSP.out with ⟨e1, e2, e3, e4⟩ | ⟨e1, e4⟩
  · have HE := Hid.mk e4
    subst e1
    clear e4 HSP
    go_wp2
    have hfin : (((((w4.setCell ⟨w1.heap.size, 3, none⟩ (.string r3)).setCell ⟨W.heap.size, 0, none⟩ (.int .i64 ((numB t0.data.toList : Nat) : Int))).setCell ⟨W.heap.size, 1, none⟩ (.int .i64 ((numB t1.data.toList : Nat) : Int))).setCell ⟨W.heap.size, 2, none⟩ (.int .i64 ((numB t2.data.toList : Nat) : Int))).setCell ⟨W.heap.size, 3, none⟩ (.string r3)).heap[W.heap.size]? = some (.cells #[.int .i64 ((numB t0.data.toList : Nat) : Int), .int .i64 ((numB t1.data.toList : Nat) : Int), .int .i64 ((numB t2.data.toList : Nat) : Int), .string r3] 68 (0, 0)) := cells_put (j := 3) (cells_put (j := 2) (cells_put (j := 1) (cells_put (j := 0) (Q.out.s.res) (.int .i64 ((numB t0.data.toList : Nat) : Int))) (.int .i64 ((numB t1.data.toList : Nat) : Int))) (.int .i64 ((numB t2.data.toList : Nat) : Int))) (.string r3)
    refine bodyPost_ret (v := .tuple #[.agg #[.int .i64 ((numB t0.data.toList : Nat) : Int), .int .i64 ((numB t1.data.toList : Nat) : Int), .int .i64 ((numB t2.data.toList : Nat) : Int), .string r3], .bool true]) (by simp [results, Tryz.results31, go_sem, (cells_at (v := .int .i64 ((numB t0.data.toList : Nat) : Int)) (j := 0) hfin rfl).1, (cells_at (v := .int .i64 ((numB t1.data.toList : Nat) : Int)) (j := 1) hfin rfl).1, (cells_at (v := .int .i64 ((numB t2.data.toList : Nat) : Int)) (j := 2) hfin rfl).1, (cells_at (v := .string r3) (j := 3) hfin rfl).1]) rfl ⟨.inl ⟨HE.out.2, _, _, _, by rw [← HE.out.1]⟩, ((((Q.out.s.bel).setCell (p := ⟨W.heap.size, 0, none⟩) (Nat.le_refl _) _).setCell (p := ⟨W.heap.size, 1, none⟩) (Nat.le_refl _) _).setCell (p := ⟨W.heap.size, 2, none⟩) (Nat.le_refl _) _).setCell (p := ⟨W.heap.size, 3, none⟩) (Nat.le_refl _) _⟩
  · have HE := Hid.mk e4
    clear e4 HSP
    cases b4 with
    | true =>
      clear e1
      go_wp2
      have hfin : (((((w4.setCell ⟨w1.heap.size, 3, none⟩ (.string r3)).setCell ⟨W.heap.size, 0, none⟩ (.int .i64 0)).setCell ⟨W.heap.size, 1, none⟩ (.int .i64 0)).setCell ⟨W.heap.size, 2, none⟩ (.int .i64 0)).setCell ⟨W.heap.size, 3, none⟩ (.string ⟨#[]⟩)).heap[W.heap.size]? = some (.cells #[.int .i64 0, .int .i64 0, .int .i64 0, .string ⟨#[]⟩] 68 (0, 0)) := cells_put (j := 3) (cells_put (j := 2) (cells_put (j := 1) (cells_put (j := 0) (Q.out.s.res) (.int .i64 0)) (.int .i64 0)) (.int .i64 0)) (.string ⟨#[]⟩)
      refine bodyPost_ret (v := .tuple #[.agg #[.int .i64 0, .int .i64 0, .int .i64 0, .string ⟨#[]⟩], .bool false]) (by simp [results, Tryz.results31, go_sem, (cells_at (v := .int .i64 0) (j := 0) hfin rfl).1, (cells_at (v := .int .i64 0) (j := 1) hfin rfl).1, (cells_at (v := .int .i64 0) (j := 2) hfin rfl).1, (cells_at (v := .string ⟨#[]⟩) (j := 3) hfin rfl).1]) rfl ⟨.inr ⟨HE.out, rfl⟩, ((((Q.out.s.bel).setCell (p := ⟨W.heap.size, 0, none⟩) (Nat.le_refl _) _).setCell (p := ⟨W.heap.size, 1, none⟩) (Nat.le_refl _) _).setCell (p := ⟨W.heap.size, 2, none⟩) (Nat.le_refl _) _).setCell (p := ⟨W.heap.size, 3, none⟩) (Nat.le_refl _) _⟩
    | false =>
      have e3 : 2000 < d.size := by
        have := HZ.out
        rcases e1 with h | h | h
        · cases h
        · omega
        · exact h
      clear e1
      go_wp2
      have hfin : (((((w4.setCell ⟨w1.heap.size, 3, none⟩ (.string r3)).setCell ⟨W.heap.size, 0, none⟩ (.int .i64 0)).setCell ⟨W.heap.size, 1, none⟩ (.int .i64 0)).setCell ⟨W.heap.size, 2, none⟩ (.int .i64 0)).setCell ⟨W.heap.size, 3, none⟩ (.string ⟨#[]⟩)).heap[W.heap.size]? = some (.cells #[.int .i64 0, .int .i64 0, .int .i64 0, .string ⟨#[]⟩] 68 (0, 0)) := cells_put (j := 3) (cells_put (j := 2) (cells_put (j := 1) (cells_put (j := 0) (Q.out.s.res) (.int .i64 0)) (.int .i64 0)) (.int .i64 0)) (.string ⟨#[]⟩)
      refine bodyPost_ret (v := .tuple #[.agg #[.int .i64 0, .int .i64 0, .int .i64 0, .string ⟨#[]⟩], .bool false]) (by simp [results, Tryz.results31, go_sem, (cells_at (v := .int .i64 0) (j := 0) hfin rfl).1, (cells_at (v := .int .i64 0) (j := 1) hfin rfl).1, (cells_at (v := .int .i64 0) (j := 2) hfin rfl).1, (cells_at (v := .string ⟨#[]⟩) (j := 3) hfin rfl).1]) rfl ⟨.inr ⟨HE.out, rfl⟩, ((((Q.out.s.bel).setCell (p := ⟨W.heap.size, 0, none⟩) (Nat.le_refl _) _).setCell (p := ⟨W.heap.size, 1, none⟩) (Nat.le_refl _) _).setCell (p := ⟨W.heap.size, 2, none⟩) (Nat.le_refl _) _).setCell (p := ⟨W.heap.size, 3, none⟩) (Nat.le_refl _) _⟩
end Go.Proofs.YtlcjagkfeakinaaGreatDoor.K48

/- counts, regrouped. -/
namespace Go.Proofs.YtlcjagkfeakinaaGreatDoor.G
set_option linter.unusedVariables false
open Go.RowKit

/-- what a letter counts. -/
def cnt (c : UInt8) : UInt8 := if 48 ≤ c.toNat ∧ c.toNat ≤ 57 then UInt8.ofNat (c.toNat - 48) else if 97 ≤ c.toNat ∧ c.toNat ≤ 118 then UInt8.ofNat (c.toNat - 87) else if 65 ≤ c.toNat ∧ c.toNat ≤ 86 then UInt8.ofNat (c.toNat - 55) else 255
/-- bits in hand put down as whole groups, as far as they go. -/
def fin (tw : Nat) (made : List UInt8) (rest over : Nat) : List UInt8 × Nat × Nat :=
  if h : 0 < tw ∧ tw ≤ over then fin tw (made ++ [UInt8.ofNat (rest / 2 ^ (over - tw))]) (rest % 2 ^ (over - tw)) (over - tw) else (made, rest, over)
termination_by over
def rgs (fr tw : Nat) (st : List UInt8 × Nat × Nat) (g : UInt8) : List UInt8 × Nat × Nat := fin tw st.1 (st.2.1 * 2 ^ fr + g.toNat) (st.2.2 + fr)
def rg (fr tw : Nat) (gs : List UInt8) : List UInt8 × Nat × Nat := gs.foldl (rgs fr tw) ([], 0, 0)

theorem fin_step (tw : Nat) (made : List UInt8) (rest o : Nat) (ht : 0 < tw) : fin tw made rest (o + tw) = fin tw (made ++ [UInt8.ofNat (rest / 2 ^ o)]) (rest % 2 ^ o) o := by
  rw [fin, dif_pos ⟨ht, by omega⟩, Nat.add_sub_cancel]
theorem fin_end (tw : Nat) (made : List UInt8) (rest over : Nat) (h : over < tw) : fin tw made rest over = (made, rest, over) := by
  rw [fin, dif_neg (by omega)]
/-- what stands behind the first m groups. -/
def rgm (fr tw : Nat) (gs : List UInt8) (m : Nat) : List UInt8 × Nat × Nat := (gs.take m).foldl (rgs fr tw) ([], 0, 0)
theorem rgm_succ (fr tw : Nat) (gs : List UInt8) (m : Nat) (h : m < gs.length) : rgm fr tw gs (m + 1) = rgs fr tw (rgm fr tw gs m) (gs[m]?.getD 0) := by
  unfold rgm
  rw [List.take_add_one, List.foldl_append, List.getElem?_eq_getElem h]
  rfl
theorem rgm_all (fr tw : Nat) (gs : List UInt8) (m : Nat) (h : gs.length = m) : rgm fr tw gs m = rg fr tw gs := by
  unfold rgm rg
  rw [List.take_of_length_le (by omega)]
theorem u16_sum (r g fr : Nat) (hg : g < 2 ^ fr) (h : r * 2 ^ fr + g < 65536) : bits .or .u16 (IntKind.u16.wrap ((r : Int) * 2 ^ fr)) (g : Int) = ((r * 2 ^ fr + g : Nat) : Int) := by
  have hw : IntKind.u16.wrap ((r : Int) * 2 ^ fr) = (r : Int) * 2 ^ fr := by
    rw [show ((r : Int) * 2 ^ fr) = ((r * 2 ^ fr : Nat) : Int) by rw [Int.natCast_mul, Int.natCast_pow]; rfl]
    generalize r * 2 ^ fr = k at h
    simp only [IntKind.wrap, IntKind.bits, IntKind.signed, Bool.false_and, Bool.false_eq_true, if_false]
    omega
  rw [hw, show ((r : Int) * 2 ^ fr) = ((r * 2 ^ fr : Nat) : Int) by rw [Int.natCast_mul, Int.natCast_pow]; rfl, u16_or_nat _ _ (by omega) (by omega), Nat.mul_comm, or_sum fr r g hg]
theorem u16_low (r o : Nat) (hr : r < 65536) (ho : o ≤ 15) : bits .and .u16 (r : Int) ((2 : Int) ^ o - 1) = ((r % 2 ^ o : Nat) : Int) := by
  have hp : 2 ^ o ≤ 2 ^ 15 := Nat.pow_le_pow_right (by omega) ho
  have h1 : 1 ≤ 2 ^ o := Nat.one_le_two_pow
  rw [show ((2 : Int) ^ o - 1) = ((2 ^ o - 1 : Nat) : Int) by rw [Int.natCast_sub h1, Int.natCast_pow]; rfl, u16_and_nat _ _ hr (by omega), Nat.and_two_pow_sub_one_eq_mod]

end Go.Proofs.YtlcjagkfeakinaaGreatDoor.G

/- What regrouping makes, as numbers; what is told is read again. Nothing here speaks of the program. -/
namespace Go.Proofs.YtlcjagkfeakinaaGreatDoor.G
set_option linter.unusedVariables false

/-- digits of a base as a number. -/
def num (b : Nat) (l : List UInt8) : Nat := l.foldl (fun a x => a * b + x.toNat) 0
theorem num_snoc (b : Nat) (l : List UInt8) (x : UInt8) : num b (l ++ [x]) = num b l * b + x.toNat := by simp [num]
/-- what holds of bits in hand. -/
structure Ok (tw : Nat) (V B : Nat) (made : List UInt8) (rest over : Nat) : Prop where
  val : num (2 ^ tw) made * 2 ^ over + rest = V
  len : made.length * tw + over = B
  low : rest < 2 ^ over
  dig : ∀ x ∈ made, x.toNat < 2 ^ tw
theorem fin_ok (tw V B : Nat) (ht : 1 ≤ tw ∧ tw ≤ 8) : ∀ (over : Nat) (made : List UInt8) (rest : Nat), Ok tw V B made rest over → Ok tw V B (fin tw made rest over).1 (fin tw made rest over).2.1 (fin tw made rest over).2.2 ∧ (fin tw made rest over).2.2 < tw := by
  intro over
  induction over using Nat.strongRecOn with
  | ind over ih =>
    intro made rest h
    by_cases hge : tw ≤ over
    · obtain ⟨o, rfl⟩ : ∃ o, over = o + tw := ⟨over - tw, by omega⟩
      rw [fin_step tw made rest o (by omega)]
      have hdiv : rest / 2 ^ o < 2 ^ tw := by
        have h1 := h.low
        rw [Nat.pow_add] at h1
        exact Nat.div_lt_of_lt_mul h1
      have h8 : 2 ^ tw ≤ 2 ^ 8 := Nat.pow_le_pow_right (by omega) ht.2
      have hy : (UInt8.ofNat (rest / 2 ^ o)).toNat = rest / 2 ^ o := by
        rw [UInt8.toNat_ofNat']
        exact Nat.mod_eq_of_lt (by omega)
      refine ih o (by omega) _ _ ⟨?_, ?_, Nat.mod_lt _ (Nat.two_pow_pos o), ?_⟩
      · rw [num_snoc, hy, Nat.add_mul, Nat.mul_assoc, ← Nat.pow_add, Nat.add_comm tw o, Nat.add_assoc, Nat.mul_comm (rest / 2 ^ o), Nat.div_add_mod]
        exact h.val
      · rw [List.length_append, Nat.add_mul]
        have := h.len
        simp only [List.length_singleton, Nat.one_mul]
        omega
      · intro x hx
        rcases List.mem_append.1 hx with hx | hx
        · exact h.dig x hx
        · rw [List.mem_singleton.1 hx, hy]; exact hdiv
    · rw [fin_end tw made rest over (by omega)]
      exact ⟨h, by show over < tw; omega⟩
theorem rgs_ok (fr tw : Nat) (ht : 1 ≤ tw ∧ tw ≤ 8) (V B : Nat) (st : List UInt8 × Nat × Nat) (g : UInt8) (hg : g.toNat < 2 ^ fr) (h : Ok tw V B st.1 st.2.1 st.2.2) :
    Ok tw (V * 2 ^ fr + g.toNat) (B + fr) (rgs fr tw st g).1 (rgs fr tw st g).2.1 (rgs fr tw st g).2.2 ∧ (rgs fr tw st g).2.2 < tw := by
  refine fin_ok tw _ _ ht _ _ _ ⟨?_, ?_, ?_, h.dig⟩
  · rw [← h.val, Nat.pow_add, ← Nat.mul_assoc, Nat.add_mul]
    omega
  · have := h.len; omega
  · have h1 : st.2.1 + 1 ≤ 2 ^ st.2.2 := h.low
    have h2 := Nat.mul_le_mul_right (2 ^ fr) h1
    rw [Nat.pow_add]
    rw [Nat.add_mul] at h2
    omega
theorem fold_ok (fr tw : Nat) (ht : 1 ≤ tw ∧ tw ≤ 8) : ∀ (gs : List UInt8) (V B : Nat) (st : List UInt8 × Nat × Nat), (∀ x ∈ gs, x.toNat < 2 ^ fr) → Ok tw V B st.1 st.2.1 st.2.2 → st.2.2 < tw →
    Ok tw (gs.foldl (fun a x => a * 2 ^ fr + x.toNat) V) (B + fr * gs.length) (gs.foldl (rgs fr tw) st).1 (gs.foldl (rgs fr tw) st).2.1 (gs.foldl (rgs fr tw) st).2.2 ∧ (gs.foldl (rgs fr tw) st).2.2 < tw
  | [], V, B, st, _, h, ho => ⟨h, ho⟩
  | g :: gs, V, B, st, hs, h, ho => by
    obtain ⟨h1, h2⟩ := rgs_ok fr tw ht V B st g (hs g (by simp)) h
    have := fold_ok fr tw ht gs _ _ (rgs fr tw st g) (fun x hx => hs x (by simp [hx])) h1 h2
    rw [List.foldl_cons, List.foldl_cons, List.length_cons]
    rwa [show B + fr * (gs.length + 1) = B + fr + fr * gs.length by rw [Nat.mul_add]; omega]
theorem rg_ok (fr tw : Nat) (ht : 1 ≤ tw ∧ tw ≤ 8) (gs : List UInt8) (hs : ∀ x ∈ gs, x.toNat < 2 ^ fr) : Ok tw (num (2 ^ fr) gs) (fr * gs.length) (rg fr tw gs).1 (rg fr tw gs).2.1 (rg fr tw gs).2.2 ∧ (rg fr tw gs).2.2 < tw := by
  have := fold_ok fr tw ht gs 0 0 ([], 0, 0) hs ⟨by simp [num], by simp, by simp, by simp⟩ (by show 0 < tw; omega)
  rwa [Nat.zero_add] at this
theorem byte_lt (l : List UInt8) : ∀ x ∈ l, x.toNat < 2 ^ 8 := fun x _ => x.toNat_lt

/-- the letters. -/
def lettersL : List UInt8 := [48, 49, 50, 51, 52, 53, 54, 55, 56, 57, 97, 98, 99, 100, 101, 102, 103, 104, 105, 106, 107, 108, 109, 110, 111, 112, 113, 114, 115, 116, 117, 118]
def ltr (x : UInt8) : UInt8 := lettersL[x.toNat]?.getD 0
/-- the groups that are told. -/
def grp (w : Nat) (s : List UInt8) : List UInt8 := (rg 8 w s).1 ++ if 0 < (rg 8 w s).2.2 then [UInt8.ofNat ((rg 8 w s).2.1 * 2 ^ (w - (rg 8 w s).2.2))] else []
/-- bytes told by letters of w bits. -/
def spl (w : Nat) (s : List UInt8) : List UInt8 := (grp w s).map ltr
/-- what letters of w bits tell. -/
def uns (w : Nat) (t : List UInt8) : Option (List UInt8) := if ∀ c ∈ t, (cnt c).toNat < 2 ^ w then (if w ≤ (rg w 8 (t.map cnt)).2.2 ∨ (rg w 8 (t.map cnt)).2.1 ≠ 0 then none else some (rg w 8 (t.map cnt)).1) else none
theorem grp_ok (w : Nat) (hw : w = 4 ∨ w = 5) (s : List UInt8) : ∃ p, p < w ∧ num (2 ^ w) (grp w s) = num (2 ^ 8) s * 2 ^ p ∧ (grp w s).length * w = 8 * s.length + p ∧ ∀ x ∈ grp w s, x.toNat < 2 ^ w := by
  obtain ⟨h, ho⟩ := rg_ok 8 w (by omega) s (byte_lt s)
  unfold grp
  generalize (rg 8 w s).1 = made at h ho ⊢
  generalize (rg 8 w s).2.1 = rest at h ho ⊢
  generalize (rg 8 w s).2.2 = over at h ho ⊢
  by_cases hz : 0 < over
  · rw [if_pos hz]
    have hsum : 2 ^ over * 2 ^ (w - over) = 2 ^ w := by rw [← Nat.pow_add]; congr 1; omega
    have hlt : rest * 2 ^ (w - over) < 2 ^ w := by
      rw [← hsum]
      exact Nat.mul_lt_mul_of_pos_right h.low (Nat.two_pow_pos _)
    have h8 : 2 ^ w ≤ 2 ^ 8 := Nat.pow_le_pow_right (by omega) (by omega)
    have hy : (UInt8.ofNat (rest * 2 ^ (w - over))).toNat = rest * 2 ^ (w - over) := by
      rw [UInt8.toNat_ofNat']
      exact Nat.mod_eq_of_lt (by omega)
    refine ⟨w - over, by omega, ?_, ?_, ?_⟩
    · rw [num_snoc, hy, ← h.val, Nat.add_mul, Nat.mul_assoc, hsum]
    · rw [List.length_append, Nat.add_mul]
      have := h.len
      simp only [List.length_singleton, Nat.one_mul]
      omega
    · intro x hx
      rcases List.mem_append.1 hx with hx | hx
      · exact h.dig x hx
      · rw [List.mem_singleton.1 hx, hy]; exact hlt
  · rw [if_neg hz, List.append_nil]
    obtain rfl : over = 0 := by omega
    have hr : rest = 0 := by have := h.low; simpa using this
    refine ⟨0, by omega, ?_, ?_, h.dig⟩
    · have := h.val
      rw [hr] at this
      simpa using this
    · have := h.len
      omega
theorem num_inj (b : Nat) : ∀ (n : Nat) (l m : List UInt8), l.length = n → m.length = n → (∀ x ∈ l, x.toNat < b) → (∀ x ∈ m, x.toNat < b) → num b l = num b m → l = m
  | 0, l, m, hl, hm, _, _, _ => by rw [List.eq_nil_of_length_eq_zero hl, List.eq_nil_of_length_eq_zero hm]
  | n + 1, l, m, hl, hm, h1, h2, h => by
    obtain ⟨l', x, rfl⟩ : ∃ l' x, l = l' ++ [x] := ⟨l.dropLast, l.getLast (by intro e; rw [e] at hl; cases hl), (List.dropLast_concat_getLast _).symm⟩
    obtain ⟨m', y, rfl⟩ : ∃ m' y, m = m' ++ [y] := ⟨m.dropLast, m.getLast (by intro e; rw [e] at hm; cases hm), (List.dropLast_concat_getLast _).symm⟩
    rw [num_snoc, num_snoc] at h
    have hx := h1 x (by simp)
    have hy := h2 y (by simp)
    have hb : 0 < b := by omega
    have e1 : num b l' = num b m' := by
      have a1 : (num b l' * b + x.toNat) / b = num b l' := by rw [Nat.mul_comm, Nat.mul_add_div hb, Nat.div_eq_of_lt hx, Nat.add_zero]
      have a2 : (num b m' * b + y.toNat) / b = num b m' := by rw [Nat.mul_comm, Nat.mul_add_div hb, Nat.div_eq_of_lt hy, Nat.add_zero]
      rw [← a1, ← a2, h]
    have e2 : x = y := by
      rw [e1] at h
      exact UInt8.toNat_inj.1 (by omega)
    rw [e2, num_inj b n l' m' (by simp at hl; exact hl) (by simp at hm; exact hm) (fun z hz => h1 z (by simp [hz])) (fun z hz => h2 z (by simp [hz])) e1]
theorem cnt_ltr (x : UInt8) (h : x.toNat < 32) : cnt (ltr x) = x := by
  obtain ⟨n, hn⟩ : ∃ n, x.toNat = n := ⟨_, rfl⟩
  have hx : x = UInt8.ofNat n := by rw [← hn, UInt8.ofNat_toNat]
  subst hx
  rw [hn] at h
  clear hn
  revert n
  decide
/-- what is told is read again. -/
theorem uns_spl (w : Nat) (hw : w = 4 ∨ w = 5) (s : List UInt8) : uns w (spl w s) = some s := by
  obtain ⟨p, hp, hv, hl, hd⟩ := grp_ok w hw s
  have hm : (spl w s).map cnt = grp w s := by
    unfold spl
    rw [List.map_map]
    conv => rhs; rw [← List.map_id (grp w s)]
    apply List.map_congr_left
    intro x hx
    have h1 := hd x hx
    have h2 : 2 ^ w ≤ 2 ^ 5 := Nat.pow_le_pow_right (by omega) (by omega)
    exact cnt_ltr x (by omega)
  have hall : ∀ c ∈ spl w s, (cnt c).toNat < 2 ^ w := by
    intro c hc
    have : cnt c ∈ (spl w s).map cnt := List.mem_map_of_mem hc
    rw [hm] at this
    exact hd _ this
  unfold uns
  rw [if_pos hall, hm]
  obtain ⟨h, ho⟩ := rg_ok w 8 (by omega) (grp w s) hd
  generalize (rg w 8 (grp w s)).1 = made at h ho ⊢
  generalize (rg w 8 (grp w s)).2.1 = rest at h ho ⊢
  generalize (rg w 8 (grp w s)).2.2 = over at h ho ⊢
  have hlen := h.len
  have hlow := h.low
  have hval := h.val
  rw [Nat.mul_comm w, hl] at hlen
  have e1 : over = p := by omega
  have e2 : made.length = s.length := by omega
  subst e1
  rw [hv] at hval
  have hpos := Nat.two_pow_pos over
  have e3 : rest = 0 := by
    have a : (num (2 ^ 8) made * 2 ^ over + rest) % 2 ^ over = rest := by rw [Nat.add_comm, Nat.add_mul_mod_self_right, Nat.mod_eq_of_lt hlow]
    rw [hval, Nat.mul_mod_left] at a
    exact a.symm
  subst e3
  rw [if_neg (by omega)]
  congr 1
  refine num_inj (2 ^ 8) s.length made s e2 rfl h.dig (byte_lt s) ?_
  exact Nat.eq_of_mul_eq_mul_right hpos (by simpa using hval)
theorem spl_len (w : Nat) (hw : w = 4 ∨ w = 5) (s : List UInt8) : ∃ p, p < w ∧ (spl w s).length * w = 8 * s.length + p := by
  obtain ⟨p, hp, _, hl, _⟩ := grp_ok w hw s
  exact ⟨p, hp, by rw [spl, List.length_map]; exact hl⟩
end Go.Proofs.YtlcjagkfeakinaaGreatDoor.G

/- spelt. -/
namespace Go.Proofs.YtlcjagkfeakinaaGreatDoor.G
set_option linter.unusedVariables false
open Go.RowKit

theorem conv_bytes (s : ByteArray) (W : World) : (convert 9 55 (.string s)).run Tryz.prog W = .ok (.slice (some ⟨W.heap.size, 0, none⟩) s.size (grownCap W s.size 0 5)) (Lib.bytesWorld W 5 s) :=
  Lib.run_convert_string_bytes W 9 55 5 s Tryz.underlying9 Tryz.underlying55 Tryz.underlying5
theorem conv_below (s : ByteArray) (W : World) : Below W.heap.size W (Lib.bytesWorld W 5 s) :=
  ⟨rfl, rfl, rfl, by rw [Lib.bytesWorld_size]; omega, fun k hk => Lib.bytesWorld_at_old W 5 s k hk⟩
def lettersB : ByteArray := ⟨#[48, 49, 50, 51, 52, 53, 54, 55, 56, 57, 97, 98, 99, 100, 101, 102, 103, 104, 105, 106, 107, 108, 109, 110, 111, 112, 113, 114, 115, 116, 117, 118]⟩
theorem index_ltr (x : UInt8) (h : x.toNat < 32) (W : World) : (Instr.index 9 (.string ⟨#[48, 49, 50, 51, 52, 53, 54, 55, 56, 57, 97, 98, 99, 100, 101, 102, 103, 104, 105, 106, 107, 108, 109, 110, 111, 112, 113, 114, 115, 116, 117, 118]⟩) (.int .u8 (x.toNat : Int))).run Tryz.prog W = .ok (.int .u8 ((ltr x).toNat : Int)) W := by
  rw [run_index_string _ _ _ _ _ Tryz.underlying9]
  have h0 : (0 : Int) ≤ (x.toNat : Int) := by omega
  have hn : ((x.toNat : Int)).toNat = x.toNat := by omega
  have hs : x.toNat < lettersB.size := h
  have : lettersB[x.toNat]? = some (ltr x) := by
    rw [getElem?_pos lettersB x.toNat hs]
    unfold ltr
    rw [← getElem_list lettersB x.toNat hs]
    rw [show lettersL = lettersB.data.toList from rfl, List.getElem?_eq_getElem (by rw [size_list]; exact hs)]
    rfl
  simp only [h0, hn]
  have hg : lettersB[x.toNat] = ltr x := by
    rw [getElem?_pos lettersB x.toNat hs] at this
    exact Option.some.inj this
  have hs' : (x.toNat : Int) < (lettersB.size : Int) := by omega
  rw [show (⟨#[48, 49, 50, 51, 52, 53, 54, 55, 56, 57, 97, 98, 99, 100, 101, 102, 103, 104, 105, 106, 107, 108, 109, 110, 111, 112, 113, 114, 115, 116, 117, 118]⟩ : ByteArray) = lettersB from rfl, dif_pos ⟨trivial, hs'⟩, hg]
theorem own_form {w : World} {base e n : Nat} {v : Value} {xs : List Value} (h : w.ownsRow base e 1 v n xs) (hn : 0 < n) : ∃ g cap, v = .slice (some ⟨g, 0, none⟩) n cap := by
  rcases h.2 with ⟨_, h0⟩ | ⟨g, cap, _, hv, _⟩
  · omega
  · exact ⟨g, cap, hv⟩
/-- letters laid over the first m groups. -/
def lay (gs : List UInt8) (m : Nat) : List UInt8 := (gs.take m).map ltr ++ gs.drop m
theorem lay_len (gs : List UInt8) (m : Nat) (h : m ≤ gs.length) : (lay gs m).length = gs.length := by
  rw [lay, List.length_append, List.length_map, List.length_take, List.length_drop]; omega
theorem lay_at (gs : List UInt8) (m : Nat) (h : m < gs.length) : (lay gs m)[m]? = some (gs[m]?.getD 0) := by
  rw [lay, List.getElem?_append_right (by rw [List.length_map, List.length_take]; omega), List.length_map, List.length_take, Nat.min_eq_left (by omega), Nat.sub_self, List.getElem?_drop, Nat.add_zero, List.getElem?_eq_getElem h]
  rfl
theorem lay_set (gs : List UInt8) (m : Nat) (h : m < gs.length) : (lay gs m).set m (ltr (gs[m]?.getD 0)) = lay gs (m + 1) := by
  unfold lay
  rw [List.set_append_right _ _ (by rw [List.length_map, List.length_take]; omega), List.length_map, List.length_take, Nat.min_eq_left (by omega), Nat.sub_self, List.take_add_one, List.map_append, List.append_assoc, List.drop_eq_getElem_cons h, List.getElem?_eq_getElem h]
  rfl
theorem bcl_set (l : List UInt8) (k : Nat) (x : UInt8) : (bcl l).set k (.int .u8 (x.toNat : Int)) = bcl (l.set k x) := by simp [bcl, List.map_set]
theorem bcl_at (l : List UInt8) (k : Nat) : (bcl l)[k]? = l[k]?.map fun c => Value.int .u8 (c.toNat : Int) := by simp [bcl]

end Go.Proofs.YtlcjagkfeakinaaGreatDoor.G

/- The document's padded: bytes appended to what '[]byte(s)' made. -/
namespace Go.Proofs.YtlcjagkfeakinaaGreatDoor.G
set_option linter.unusedVariables false
open Go.RowKit

/-- cells are stored, none of them marked. -/
theorem storeCells_clear (P : Program) (g o : Nat) (t : TypeId) (fz : Nat × Nat) (vs : List Value) : ∀ (i : Nat) (cur : Array Value) (w : World), w.heap[g]? = some (.cells cur t fz) → (fz.2 = 0 ∨ o + i + vs.length ≤ fz.1) → o + i + vs.length ≤ cur.size → (∀ v ∈ vs, v.oneCell' = true) →
    (storeCells ⟨g, o, none⟩ vs i).run P w = .ok () (w.setRow g (cur.toList.take (o + i) ++ vs ++ cur.toList.drop (o + i + vs.length)).toArray) := by
  induction vs with
  | nil =>
    intro i cur w hg _ _ _
    simp only [storeCells, List.append_nil, List.length_nil, Nat.add_zero, List.take_append_drop, Array.toArray_toList]
    rw [setRow_self w g cur t fz hg]
    rfl
  | cons v rest ih =>
    intro i cur w hg hfz hl h1
    rw [List.length_cons] at hfz hl
    have hi : o + i < cur.size := by omega
    have hadd : (⟨g, o, none⟩ : Addr).add i = ⟨g, o + i, none⟩ := Addr.add_lit ..
    have hcell : w.cell? ⟨g, o + i, none⟩ = some cur[o + i] := by simp [World.cell?, hg, hi]
    have hfro : w.frozen? ⟨g, o + i, none⟩ = false := by
      obtain ⟨lo, hi'⟩ := fz
      simp only [World.frozen?, hg, Bool.and_eq_false_iff, decide_eq_false_iff_not]
      simp only at hfz
      omega
    have hst : (store ((⟨g, o, none⟩ : Addr).add i) v).run P w = .ok () (w.setRow g (cur.setIfInBounds (o + i) v)) := by
      rw [hadd, run_store P w _ v _ (h1 v (by simp)), hcell]
      simp [hfro, setCell_eq_setRow w g (o + i) cur t fz v hg]
    have h2 := ih (i + 1) (cur.setIfInBounds (o + i) v) (w.setRow g (cur.setIfInBounds (o + i) v)) (setRow_heap w g cur _ t _ hg) (by omega) (by simp; omega) (fun x hx => h1 x (by simp [hx]))
    simp only [storeCells, Sem.run_bind, hst, Result.andThen_ok, h2, setRow_setRow]
    congr 3
    have e := list_seg_step cur.toList (o + i) v rest (by simp; omega)
    simpa [Array.toList_setIfInBounds, Nat.add_assoc] using e

/-- a row of bytes of one's own, its mark, if any, behind all its cells. -/
def OwnsC (w : World) (base : Nat) (v : Value) (xs : List UInt8) : Prop :=
  ∃ g cap cur fz, v = .slice (some ⟨g, 0, none⟩) xs.length cap ∧ base ≤ g ∧ w.heap[g]? = some (.cells cur 5 fz) ∧ (fz.2 = 0 ∨ cap ≤ fz.1) ∧ xs.length ≤ cap ∧ cap ≤ maxLen ∧ cur.size = cap ∧ cur.toList.take xs.length = bcl xs

theorem OwnsC.lt {w : World} {base : Nat} {v : Value} {xs : List UInt8} (h : OwnsC w base v xs) : ∀ k, v.ownBlock = some k → base ≤ k := by
  obtain ⟨g, cap, cur, fz, rfl, hb, _⟩ := h
  intro k hk
  simp [Value.ownBlock] at hk
  omega
theorem OwnsC.conv (w : World) (s : ByteArray) (hs : s.size ≤ maxLen) : OwnsC (Lib.bytesWorld w 5 s) w.heap.size (.slice (some ⟨w.heap.size, 0, none⟩) s.size (grownCap w s.size 0 5)) s.data.toList := by
  have hge := grownCap_ge w s.size 0 5
  have hz : (Lib.bytesCells w 5 s).size = grownCap w s.size 0 5 := by simp [Lib.bytesCells]; omega
  refine ⟨w.heap.size, grownCap w s.size 0 5, _, _, by rw [size_list], Nat.le_refl _, Lib.bytesWorld_at_new w 5 s, .inr (by rw [hz]; exact Nat.le_refl _), by rw [size_list]; exact hge, grownCap_le_maxLen w s.size 0 5 hs, hz, ?_⟩
  simp only [Lib.bytesCells, Array.toList_append, Array.toList_map, bcl]
  rw [List.take_append_of_le_length (by simp)]
  exact List.take_of_length_le (by simp)

/-- .. turned into a text again. -/
theorem OwnsC.back {w : World} {base : Nat} {v : Value} {xs : List UInt8} (h : OwnsC w base v xs) : (convert 55 9 v).run Tryz.prog w = .ok (.string ⟨xs.toArray⟩) w := by
  obtain ⟨g, cap, cur, fz, rfl, _, hg, _, _, _, _, ht⟩ := h
  refine run_convert_bytes_back (P := Tryz.prog) w 55 9 5 ⟨g, 0, none⟩ cap xs Tryz.underlying55 Tryz.underlying5 Tryz.underlying9 (fun j hj => ?_)
  rw [addr_at, cell_of_row w g j cur 5 fz hg]
  have : (cur.toList.take xs.length)[j]? = (bcl xs)[j]? := by rw [ht]
  rw [List.getElem?_take_of_lt hj] at this
  simpa [bcl, hj] using this


theorem wpList_append_C1 (w : World) {ops : Array Oper} {rest : List Oper} {o : Oper} {a : Act} {Q : Exit → Act → World → Prop} (hgd : o.guard = none) (sl x : Operand)
    (ho : o.op = .call { callee := .builtin .append, args := #[sl, x], argTypes := #[55, 55] })
    (i0 : TypeInfo) (hi : Tryz.prog.info? 5 = some i0) (hz : i0.zero = some (.int .u8 0)) (hsize : i0.size = 1) (hby : i0.bytes = 1) (base : Nat) (v : Value) (xs : List UInt8) (hs : a.eval sl = v) (hown : OwnsC w base v xs) (b : Nat) (y : UInt8) (hx : a.eval x = .slice (some ⟨b, 0, none⟩) 1 1)
    (hy : w.cell? ⟨b, 0, none⟩ = some (.int .u8 (y.toNat : Int))) (h63 : xs.length + 1 ≤ 140737488355328) (hbase : base ≤ w.heap.size)
    (h : ∀ v' w', OwnsC w' base v' (xs ++ [y]) → w.grownBy w' v.ownBlock → wpList Tryz.prog ops Q rest (a.put o.dst v') w') : wpList Tryz.prog ops Q (o :: rest) a w := by
  have hown' := hown
  obtain ⟨g, cap, cur, fz, rfl, hbg, hg, hfz, hnc, hcm, hcs, htake⟩ := hown
  have hln : (xs ++ [y]).length = xs.length + 1 := by simp
  have holds : ∀ j u, (bcl xs)[j]? = some u → w.cell? ((⟨g, 0, none⟩ : Addr).add j) = some u := by
    intro j u hu
    rw [addr_at, cell_of_row w g j cur 5 fz hg]
    rw [← htake, List.getElem?_take] at hu
    split at hu
    · simpa using hu
    · cases hu
  have hnew : ∀ j u, ([.int .u8 (y.toNat : Int)] : List Value)[j]? = some u → w.cell? ((⟨b, 0, none⟩ : Addr).add j) = some u := by
    intro j u hu
    match j, hu with
    | 0, hu => rw [addr_at]; cases hu; exact hy
  by_cases hroom : xs.length + 1 ≤ cap
  · have hld := run_loadCells_list (P := Tryz.prog) w ⟨b, 0, none⟩ [.int .u8 (y.toNat : Int)] hnew
    have hst := storeCells_clear Tryz.prog g xs.length 5 fz [.int .u8 (y.toNat : Int)] 0 cur w hg (by simp only [List.length_singleton]; omega) (by simp only [List.length_singleton]; omega) (by simp [Value.oneCell'])
    simp only [Nat.add_zero, List.length_singleton] at hst hld
    have hr : (Builtin.append_ #[55, 55] o.type #[.slice (some ⟨g, 0, none⟩) xs.length cap, .slice (some ⟨b, 0, none⟩) 1 1]).run Tryz.prog w = .ok (.slice (some ⟨g, 0, none⟩) (xs.length + 1) cap) (w.setRow g (cur.toList.take xs.length ++ [Value.int .u8 (y.toNat : Int)] ++ cur.toList.drop (xs.length + 1)).toArray) := by
      simp [Builtin.append_, run_underlying Tryz.underlying55, sizeOf, typeInfo, hi, hsize, Builtin.lenOf, hroom, Builtin.firstCells, hld, Addr.add_lit, hst]
    refine wpList_plain hgd fun K hK => ?_
    unfold Oper.wp execOp
    simp only [ho, resolve, invoke, builtin, Sem.run_bind, Sem.run_pure, Result.andThen_ok, List.map_toArray, List.map_cons, List.map_nil, hs, hx, hr]
    refine hK _ _ (h _ _ ?_ ⟨rfl, rfl, rfl, by simp, fun k _ hk => setRow_other w g k _ (fun e => hk (by simp [Value.ownBlock, e]))⟩)
    refine ⟨g, cap, _, fz, by rw [hln], hbg, setRow_heap w g cur _ 5 _ hg, hfz, by rw [hln]; exact hroom, hcm, ?_, ?_⟩
    · simp only [List.size_toArray, List.length_append, List.length_take, List.length_drop, Array.length_toList, List.length_singleton]
      omega
    · rw [htake, bcl_app]
      exact List.take_left' (by simp [bcl])
  · refine wpList_append_grows w hgd sl x 55 ho 5 i0 (.int .u8 0) 1 1 Tryz.underlying55 hi hz hsize hby rfl (by decide) (some ⟨g, 0, none⟩) xs.length cap (bcl xs) hs (by simp) (by simp [bcl]) (fun b' hb' j u hu => by cases hb'; exact holds j u hu) ⟨b, 0, none⟩ 1 1 [.int .u8 (y.toNat : Int)] hx rfl hnew (by simp [Value.oneCell']) (by omega) (by unfold maxLen; omega) (by omega) ?_
    intro v' w' ho' hgr
    obtain ⟨a1, a2, a3, a4, a5⟩ := hgr
    refine h v' w' ?_ ⟨a1, a2, a3, a4, fun k hk _ => a5 k hk (by simp)⟩
    rcases ho'.2 with ⟨_, h0⟩ | ⟨g', cap', cur', hv, hb', hh, hnc', hcm', hcs', ht'⟩
    · omega
    · refine ⟨g', cap', cur', (0, 0), by rw [hln]; exact hv, Nat.le_trans hbase hb', hh, .inl rfl, by rw [hln]; exact hnc', hcm', by rw [hcs']; omega, ?_⟩
      rw [Nat.mul_one] at ht'
      rw [hln, ht', bcl_app]
      rfl

theorem OwnsC.alloc {w : World} {base : Nat} {v : Value} {xs : List UInt8} (h : OwnsC w base v xs) (o : Obj) : OwnsC (w.alloc o) base v xs := by
  obtain ⟨g, cap, cur, fz, hv, hbg, hg, r⟩ := h
  exact ⟨g, cap, cur, fz, hv, hbg, (Below.heap_alloc w o g (box_lt hg)).trans hg, r⟩
theorem OwnsC.form {w : World} {base : Nat} {v : Value} {xs : List UInt8} (h : OwnsC w base v xs) {p : Nat} (hp : xs.length = p) : ∃ g cap, v = .slice (some ⟨g, 0, none⟩) p cap := by
  obtain ⟨g, cap, cur, fz, hv, _⟩ := h
  subst hp
  exact ⟨g, cap, hv⟩
theorem one_cell (X : World) (y : UInt8) : (X.alloc (.cells #[.int .u8 (y.toNat : Int)] 5)).cell? ⟨X.heap.size, 0, none⟩ = some (.int .u8 (y.toNat : Int)) := by
  exact (cells_at (j := 0) (heap_new X (.cells #[.int .u8 (y.toNat : Int)] 5)) rfl).1
def slLen : Value → Nat
  | .slice _ n _ => n
  | _ => 0
/-- a text made up to blocks. -/
def padL (l : List UInt8) : List UInt8 := (List.range (64 * nb l.length)).map (padAt l)
theorem pad_eq (l : List UInt8) (z : Nat) (hz : z = 64 * nb l.length - 8 - (l.length + 1)) : (l ++ 128 :: List.replicate z 0) ++ endT (8 * l.length) 8 = padL l := by
  have hnb : 64 * nb l.length ≥ l.length + 9 := by unfold nb; omega
  apply List.ext_getElem?
  intro k
  unfold padL
  rw [List.getElem?_map]
  by_cases hk : k < 64 * nb l.length
  · rw [List.getElem?_range hk]
    show _ = some (padAt l k)
    unfold padAt
    rw [List.getElem?_append, List.length_append, List.length_cons, List.length_replicate]
    by_cases h1 : k < l.length
    · rw [if_pos (by omega), if_pos h1, List.getElem?_append_left h1, List.getElem?_eq_getElem h1]; rfl
    · rw [if_neg h1]
      by_cases h2 : k = l.length
      · rw [if_pos (by omega), if_pos h2, List.getElem?_append_right (by omega), h2, Nat.sub_self]; rfl
      · rw [if_neg h2]
        by_cases h3 : k < 64 * nb l.length - 8
        · rw [if_pos (by omega), if_pos h3, List.getElem?_append_right (by omega), show k - l.length = (k - l.length - 1) + 1 by omega, List.getElem?_cons_succ, List.getElem?_replicate, if_pos (by omega)]
        · rw [if_neg (by omega), if_neg h3]
          obtain ⟨j, hj, hj8⟩ : ∃ j, k - (l.length + (z + 1)) = j ∧ j < 8 := ⟨_, rfl, by omega⟩
          rw [hj, show 64 * nb l.length - 1 - k = 7 - j by omega]
          rcases (show j = 0 ∨ j = 1 ∨ j = 2 ∨ j = 3 ∨ j = 4 ∨ j = 5 ∨ j = 6 ∨ j = 7 by omega) with rfl | rfl | rfl | rfl | rfl | rfl | rfl | rfl <;> rfl
  · rw [List.getElem?_eq_none (by rw [List.length_append, List.length_append, List.length_cons, List.length_replicate, endT_len]; omega), List.getElem?_eq_none (by rw [List.length_range]; omega)]
    rfl
theorem endT_take (m t : Nat) (ht : t < 8) : (endT m 8).take (t + 1) = (endT m 8).take t ++ [bt m (7 - t)] := by
  rcases (show t = 0 ∨ t = 1 ∨ t = 2 ∨ t = 3 ∨ t = 4 ∨ t = 5 ∨ t = 6 ∨ t = 7 by omega) with rfl | rfl | rfl | rfl | rfl | rfl | rfl | rfl <;> rfl

set_option maxRecDepth 100000 in
set_option maxHeartbeats 2000000 in
theorem padded_in (s : ByteArray) (hs : s.size ≤ 140737488351232) (W : World) :
    Calls Tryz.prog 66 #[.string s] W fun e w' => e = .returned (.string ⟨(padL s.data.toList).toArray⟩) ∧ Below W.heap.size W w' := by
  obtain ⟨i0, hi, hz0, hz1, hz2⟩ := info_of info5
  obtain ⟨n, hn⟩ : ∃ n, s.size = n := ⟨_, rfl⟩
  obtain ⟨l, hl⟩ : ∃ l, s.data.toList = l := ⟨_, rfl⟩
  have HLN : Hid (l.length = n) := by rw [Hid, ← hl, size_list]; exact hn
  obtain ⟨z, hz⟩ : ∃ z, z = 64 * nb n - 8 - (n + 1) := ⟨_, rfl⟩
  have HPE := Hid.mk (pad_eq l z (by rw [HLN.out]; exact hz))
  rw [HLN.out] at HPE
  have hcv := conv_bytes s
  have HC0 : Hid (∀ W : World, OwnsC (Lib.bytesWorld W 5 s) W.heap.size (.slice (some ⟨W.heap.size, 0, none⟩) n (grownCap W n 0 5)) l) := fun W => by
    have h := OwnsC.conv W s (by unfold maxLen; omega)
    rwa [hl, hn] at h
  have HB0 : Hid (∀ W : World, Below W.heap.size W (Lib.bytesWorld W 5 s)) := conv_below s
  rw [hl, ← HPE.out]
  rw [hn] at hcv
  have hzn : z ≤ 63 := by rw [hz]; unfold nb; omega
  have HZ : Hid (∀ j, j ≤ z → ((n + 1 + j) % 64 = 56 ↔ j = z)) := fun j hj => by rw [hz] at hj ⊢; unfold nb at hj ⊢; omega
  have hnl : n ≤ 140737488351232 := by omega
  clear hz hl HPE
  go_enter Tryz.func66, Tryz.ntmps66
  go_wp2_with (at_builtin; refine wpList_append_C1 _ rfl _ _ rfl i0 hi hz0 hz1 hz2 W.heap.size _ l rfl ((HC0.out W).alloc _) _ 128 rfl (one_cell _ 128) (by rw [HLN.out]; omega) (Nat.le_trans (HB0.out W).size (by simp)) ?_; intro v1 w1 hown1 hgrow1)
  have B1 : Below W.heap.size W w1 := ((HB0.out W).alloc (HB0.out W).size _).grown hgrow1 (Nat.le_trans (HB0.out W).size (by simp)) (fun k hk => (HC0.out W).lt k hk)
  have O1 := Hid.mk hown1
  clear hown1 hgrow1 HC0 HB0 hcv
  go_loopw [4] (fun v wr => ∃ j, j ≤ z ∧ OwnsC wr W.heap.size v (l ++ 128 :: List.replicate j 0) ∧ Below W.heap.size W wr) (fun v _ => (n + 1 + z) - slLen v)
  case atStart => exact ⟨0, by omega, O1.out, B1⟩
  case round =>
    obtain ⟨j, hj, hown, hbl⟩ := hrel
    obtain ⟨p, hp⟩ : ∃ p, n + 1 + j = p := ⟨_, rfl⟩
    have hpl : (l ++ 128 :: List.replicate j 0).length = p := by rw [List.length_append, List.length_cons, List.length_replicate, HLN.out]; omega
    obtain ⟨g, cap, rfl⟩ := hown.form hpl
    have HO := Hid.mk hown
    have HZJ := HZ.out j hj
    rw [hp] at HZJ
    have hpn : p ≤ 140737488355000 := by omega
    have hsz := hbl.size
    have HPL := Hid.mk hpl
    have HPP := Hid.mk hp
    clear hown hpl hp
    by_cases he : j = z
    · have h56 : p % 64 = 56 := HZJ.2 he
      have r1 : (p : Int).tmod 64 = 56 := by rw [Int.tmod_eq_emod_of_nonneg (by omega)]; omega
      have r2 : (p : Int) % 64 = 56 := by omega
      have HEQ : Hid (j = z) := he
      clear HZJ h56 he
      have HOZ : Hid (OwnsC wr W.heap.size (.slice (some ⟨g, 0, none⟩) p cap) (l ++ 128 :: List.replicate z 0)) := by rw [← HEQ.out]; exact HO.out
      have HLZ : Hid ((l ++ 128 :: List.replicate z 0).length = p) := by rw [← HEQ.out]; exact HPL.out
      obtain ⟨pre, hpre⟩ : ∃ pre, l ++ 128 :: List.replicate z 0 = pre := ⟨_, rfl⟩
      rw [hpre] at HOZ HLZ
      have HPRE := Hid.mk hpre
      clear hpre
      clear HO HPL HPP HEQ HZ O1 B1
      go_wp2_with fail
      go_loopw [4, 5] (fun v i w2 => ∃ t : Nat, t ≤ 8 ∧ i = .int .i64 (7 - (t : Int)) ∧ OwnsC w2 W.heap.size v (pre ++ (endT (8 * n) 8).take t) ∧ Below W.heap.size W w2) (fun _ i _ => (intOf i + 1).toNat)
      case atStart => exact ⟨0, by omega, rfl, by rw [List.take_zero, List.append_nil]; exact HOZ.out, hbl⟩
      case round =>
        obtain ⟨t, ht, rfl, hown, hbl2⟩ := hrel
        have hlt : (pre ++ (endT (8 * n) 8).take t).length = p + t := by rw [List.length_append, HLZ.out, List.length_take, endT_len]; omega
        obtain ⟨g2, cap2, rfl⟩ := hown.form hlt
        have HO2 := Hid.mk hown
        have HL2 := Hid.mk hlt
        have hsz2 := hbl2.size
        clear hown hlt
        by_cases h8 : t < 8
        · have hbv : (8 * (n : Int)) / 2 ^ (8 * (7 - t)) % 256 = ((bt (8 * n) (7 - t)).toNat : Int) := by
            have := bt_int (8 * n) (7 - t)
            rw [Int.natCast_mul] at this
            exact this.symm
          have HTK := Hid.mk (endT_take (8 * n) t h8)
          generalize bt (8 * n) (7 - t) = y at hbv HTK
          have hsh : (8 * (7 - (t : Int))).toNat = 8 * (7 - t) := by omega
          have hge : (0 : Int) ≤ 7 - (t : Int) := by omega
          go_wp2_with (at_builtin; refine wpList_append_C1 _ rfl _ _ rfl i0 hi hz0 hz1 hz2 W.heap.size _ _ rfl (HO2.out.alloc _) _ y rfl (one_cell _ y) (by rw [HL2.out]; omega) (Nat.le_trans hbl2.size (by simp)) ?_; intro v2 w3 hown2 hgrow2)
          have B3 : Below W.heap.size W w3 := (hbl2.alloc hbl2.size _).grown hgrow2 (Nat.le_trans hbl2.size (by simp)) (fun k hk => HO2.out.lt k hk)
          rw [List.append_assoc, ← HTK.out] at hown2
          go_roundw
          case rel => exact ⟨t + 1, by omega, by go_num, hown2, B3⟩
          case measure => simp [intOf]; omega
        · obtain rfl : t = 8 := by omega
          have hfull : pre ++ (endT (8 * n) 8).take 8 = pre ++ endT (8 * n) 8 := by rw [List.take_of_length_le (by rw [endT_len]; omega)]
          have hcv := HO2.out.back
          rw [hfull] at hcv
          clear hfull
          go_wp2
          go_ret
          exact ⟨by rw [HPRE.out]; rfl, hbl2⟩
    · obtain ⟨r, hr⟩ : ∃ r, p % 64 = r := ⟨_, rfl⟩
      have hr56 : r ≠ 56 := fun e => he (HZJ.1 (hr.trans e))
      have r1 : (p : Int).tmod 64 = (r : Int) := by rw [Int.tmod_eq_emod_of_nonneg (by omega)]; omega
      have r2 : (p : Int) % 64 = (r : Int) := by omega
      have r3 : ((r : Int) != 56) = true := by rw [bne_iff_ne]; omega
      have r4 : ((r : Int) == 56) = false := by rw [beq_eq_false_iff_ne]; omega
      have hjz : j < z := by omega
      clear HZJ hr he hr56
      go_wp2_with (at_builtin; refine wpList_append_C1 _ rfl _ _ rfl i0 hi hz0 hz1 hz2 W.heap.size _ _ rfl (HO.out.alloc _) _ 0 rfl (one_cell _ 0) (by rw [HPL.out]; omega) (Nat.le_trans hbl.size (by simp)) ?_; intro v2 w2 hown2 hgrow2)
      have B2 : Below W.heap.size W w2 := (hbl.alloc hbl.size _).grown hgrow2 (Nat.le_trans hbl.size (by simp)) (fun k hk => HO.out.lt k hk)
      have hrep : (l ++ 128 :: List.replicate j 0) ++ [0] = l ++ 128 :: List.replicate (j + 1) 0 := by rw [List.append_assoc, List.replicate_succ']; rfl
      rw [hrep] at hown2
      have hl2 : (l ++ 128 :: List.replicate (j + 1) 0).length = p + 1 := by rw [← hrep, List.length_append, HPL.out]; rfl
      obtain ⟨g2, cap2, hv2⟩ := hown2.form hl2
      go_roundw
      case rel => exact ⟨j + 1, by omega, hown2, B2⟩
      case measure =>
        have := HPP.out
        simp only [hv2, slLen]
        omega
end Go.Proofs.YtlcjagkfeakinaaGreatDoor.G
