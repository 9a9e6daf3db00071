/- Texts of this proof, joined: LeE, LeI. -/
import Derived.Test.YtdlcldjlfhmlgaaGreatDoorJ31
import Derived.Deep.RegionHeld3
set_option linter.unusedVariables false
set_option linter.unusedSimpArgs false
/- The document's rightRecord, ttl, find, has (guidepostref08). -/
namespace Go.Proofs.YtdlcldjlfhmlgaaGreatDoor
open Go.RowKit
open So (El elC elC_len SRow)
theorem rin_in (n a b : Int) (w : World) : Calls Tryz.prog 98 #[.int .i64 n, .int .i64 a, .int .i64 b] w fun e w' => e = .returned (.bool (decide (a ≤ n) && decide (n ≤ b))) ∧ w' = w := by
 by_cases h : a ≤ n
 ·have d1 : decide (a ≤ n) = true := decide_eq_true h
  rw [d1, Bool.true_and]
  go_enter Tryz.func98, Tryz.ntmps98
  go_wp2
  go_ret
  exact ⟨rfl, rfl⟩
 ·have d1 : decide (a ≤ n) = false := decide_eq_false h
  rw [d1, Bool.false_and]
  go_enter Tryz.func98, Tryz.ntmps98
  go_wp2
  go_ret
  exact ⟨rfl, rfl⟩
theorem rttl_in (r : Rc) (h : 0 ≤ r.tl) (w : World) : Calls Tryz.prog 67 #[.int .i64 r.tl] w fun e w' => e = .returned (.int .i64 (ttl r)) ∧ w' = w := by
 by_cases hb : 2147483647 < r.tl
 ·have e0 : ttl r = 0 := by
   unfold ttl
   rw [if_neg (fun hh => by have := (ftB_iff.1 hh).2; omega)]
  rw [e0]
  go_enter Tryz.func67, Tryz.ntmps67
  go_wp2
  go_ret
  exact ⟨rfl, rfl⟩
 ·have e0 : ttl r = r.tl := by
   unfold ttl
   rw [if_pos (ftB_iff.2 ⟨h, by omega⟩)]
  rw [e0]
  go_enter Tryz.func67, Tryz.ntmps67
  go_wp2
  go_ret
  exact ⟨rfl, rfl⟩
theorem ft16 (n : Int) : (decide (0 ≤ n) && decide (n ≤ 65535)) = ftB n 16 := by
 unfold ftB
 congr 1
 exact decide_eq_decide.2 (by omega)
theorem ft32 (n : Int) : (decide (0 ≤ n) && decide (n ≤ 4294967295)) = ftB n 32 := by
 unfold ftB
 congr 1
 exact decide_eq_decide.2 (by omega)
set_option maxRecDepth 100000 in
set_option maxHeartbeats 2000000 in
theorem rrec_in (r : Rc) (h1 : r.nm.size ≤ maxLen) (h2 : r.dat.size ≤ maxLen) (W : World) : Calls Tryz.prog 65 #[.agg #[.string r.nm, .int .i64 r.ty, .int .i64 r.cl, .int .i64 r.tl, .string r.dat]] W fun e w' => e = .returned (.bool (rOk r)) ∧ Below W.heap.size W w' := by
 have HA := Hid.mk (rright_in r.nm h1)
 have HB := Hid.mk (rdRight_in r.ty r.dat h2)
 have HC := Hid.mk (rin_in r.cl 0 65535)
 have HD := Hid.mk (rin_in r.tl 0 4294967295)
 rw [ft16] at HC
 rw [ft32] at HD
 have X0 := Bx.new W (rcL r) 33
 have x0 := X0.cells5
 obtain ⟨R, hR⟩ : ∃ R, rOk r = R := ⟨_, rfl⟩
 have HR : Hid (R = (isN r.nm && ftB r.cl 16 && ftB r.tl 32 && dRt r.ty r.dat)) := hR.symm
 rw [hR]
 clear hR
 obtain ⟨V, hV⟩ : ∃ V, W.alloc (.cells #[.string r.nm, .int .i64 r.ty, .int .i64 r.cl, .int .i64 r.tl, .string r.dat] 33) = V := ⟨_, rfl⟩
 have X1 : Bx W W.heap.size (rcL r) 33 V := hV ▸ X0
 have x1 := X1.cells5
 have HV := Hid.mk hV
 clear hV X0 x0
 go_enter Tryz.func65, Tryz.ntmps65
 go_upto_region 1 with fail
 rw [HV.out]
 go_wp2_with fail
 refine (HA.out _).mono ?_
 rintro e w1 ⟨rfl, hb1⟩
 have X2 := X1.blk hb1
 have x2 := X2.cells5
 clear x1 X1 hb1
 go_wp2_with fail
 refine (HB.out _).mono ?_
 rintro e w2 ⟨rfl, hb2⟩
 have X3 := X2.blk hb2
 have x3 := X3.cells5
 clear x2 X2 hb2
 generalize isN r.nm = b1 at HR ⊢
 generalize dRt r.ty r.dat = b2 at HR ⊢
 cases b1 with
 | false =>
  obtain rfl : R = false := by rw [HR.out]; rfl
  go_wp2
  go_ret
  exact ⟨rfl, X3.bel⟩
 | true =>
  cases b2 with
  | false =>
   obtain rfl : R = false := by rw [HR.out]; simp
   go_wp2
   go_ret
   exact ⟨rfl, X3.bel⟩
  | true =>
   generalize ftB r.cl 16 = b3 at HR HC ⊢
   generalize ftB r.tl 32 = b4 at HR HD ⊢
   cases b3 with
   | false =>
    obtain rfl : R = false := by rw [HR.out]; simp
    go_wp2_with fail
    refine (HC.out _).mono ?_
    rintro e w3 ⟨rfl, rfl⟩
    go_wp2
    go_ret
    exact ⟨rfl, X3.bel⟩
   | true =>
    obtain rfl : R = b4 := by rw [HR.out]; simp
    go_wp2_with fail
    refine (HC.out _).mono ?_
    rintro e w3 ⟨rfl, rfl⟩
    go_wp2_with fail
    refine (HD.out _).mono ?_
    rintro e w4 ⟨rfl, rfl⟩
    go_wp2
    go_ret
    exact ⟨rfl, X3.bel⟩
open Classical in
noncomputable def keyP (ls : N3) (ty cl : Int) (p : Sg) : Bool := decide (lowN p.1.ls = lowN ls ∧ p.1.ty = ty ∧ p.1.cl = cl)
noncomputable def fndP (ps : List Sg) (ls : N3) (ty cl : Int) : Option Nat := ps.findIdx? (keyP ls ty cl)
def idxV : Option Nat → Value
 | some i => .int .i64 (i : Int)
 | none => .int .i64 (-1)
theorem findIdx_step {α : Type} {p : α → Bool} {l : List α} {i : Nat} (hi : i < l.length) (hn : ∀ j (hj : j < l.length), j < i → p l[j] = false) (h : p l[i] = true) : l.findIdx? p = some i := by
 rw [List.findIdx?_eq_some_iff_getElem]
 exact ⟨hi, h, fun j hj => by rw [hn j (by omega) hj]; simp⟩
theorem findIdx_none {α : Type} {p : α → Bool} {l : List α} (hn : ∀ j (hj : j < l.length), p l[j] = false) : l.findIdx? p = none := by
 rw [List.findIdx?_eq_none_iff]
 intro x hx
 obtain ⟨j, hj, rfl⟩ := List.getElem_of_mem hx
 exact hn j hj
theorem nm_low_eq {a b : N3} (ha : OkN a) (hb : OkN b) : ((nm (lowN a)).toList == (nm (lowN b)).toList) = decide (lowN a = lowN b) := by
 by_cases h : lowN a = lowN b
 ·rw [h, decide_eq_true rfl]; simp
 ·rw [decide_eq_false h]
  exact (ba_ne (fun e => h (nm_inj ha.low hb.low e))).1
set_option maxRecDepth 100000 in
set_option maxHeartbeats 4000000 in
theorem rfind_in {N : Nat} {W : World} {v : Value} {els : List El} {ps : List Sg} (h : RS N W v els ps) (hok : ∀ p ∈ ps, OkN p.1.ls) (ls : N3) (ho : OkN ls) (ty cl : Int) : Calls Tryz.prog 66 #[v, .string (nm ls), .int .i64 ty, .int .i64 cl] W fun e w' => e = .returned (idxV (fndP ps ls ty cl)) ∧ Below W.heap.size W w' := by
 obtain ⟨q, cap, rfl⟩ := h.form
 have HL : Hid (∀ w, Calls Tryz.prog 64 #[.string (nm ls)] w fun e w' => e = .returned (.string (nm (lowN ls))) ∧ Below w.heap.size w w') := fun w => U.rLower_yes ls ho w
 obtain ⟨n, hn⟩ : ∃ n, ps.length = n := ⟨_, rfl⟩
 have HC : Hid (∀ i, i < n → ∃ g, q = some ⟨g, 0, none⟩ ∧ ∃ (a : N3) (t c : Int), Hid (∃ hi : i < ps.length, a = ps[i].1.ls ∧ t = ps[i].1.ty ∧ c = ps[i].1.cl) ∧ Hid (OkN a) ∧ Hid (∀ w, Below W.heap.size W w → w.cell? ⟨g, i * 6, none⟩ = some (.string (nm a)) ∧ w.cell? ⟨g, i * 6 + 1, none⟩ = some (.int .i64 t) ∧ w.cell? ⟨g, i * 6 + 2, none⟩ = some (.int .i64 c))) := by
  intro i hi
  replace hi : i < ps.length := by omega
  have hi' : i < els.length := by rw [h.len]; exact hi
  obtain ⟨g, cap', e, _, hr⟩ := srow_form h.row (by omega)
  simp only [Value.slice.injEq] at e
  obtain ⟨rfl, _, rfl⟩ := e
  have hs := h.rel.at i hi' hi
  refine ⟨g, rfl, ps[i].1.ls, ps[i].1.ty, ps[i].1.cl, ⟨hi, rfl, rfl, rfl⟩, hok _ (List.getElem_mem hi), fun w hb => ?_⟩
  have hr2 := hr.same (hb.block g hr.lt)
  refine ⟨?_, ?_, ?_⟩
  ·have := hr2.cell i hi' 0 (by decide)
   rw [Nat.add_zero] at this
   rw [this, ← hs.ls]; rfl
  ·rw [hr2.cell i hi' 1 (by decide), ← hs.ty]; rfl
  ·rw [hr2.cell i hi' 2 (by decide), ← hs.cl]; rfl
 rw [hn]
 have hlen : n ≤ maxLen := by
  obtain ⟨_, h0 | ⟨g, c, cur, e, _, _, h1, h2, _⟩⟩ := h.row
  ·have h3 := h0.2; have := h.len; unfold maxLen; omega
  ·have := h.len; omega
 have hno : Hid (∀ i, i ≤ n → (∀ j (hj : j < ps.length), j < i → keyP ls ty cl ps[j] = false) → i = n → fndP ps ls ty cl = none) := fun i hi hj e => findIdx_none (fun j hj' => hj j hj' (by omega))
 have hyes : Hid (∀ i (hi : i < ps.length), (∀ j (hj : j < ps.length), j < i → keyP ls ty cl ps[j] = false) → keyP ls ty cl ps[i] = true → fndP ps ls ty cl = some i) := fun i hi hj e => findIdx_step hi hj e
 obtain ⟨R, hR⟩ : ∃ R, fndP ps ls ty cl = R := ⟨_, rfl⟩
 rw [hR] at hno hyes ⊢
 have HN := Hid.mk hn
 clear hR h hok hn
 go_enter Tryz.func66, Tryz.ntmps66
 go_wp2
 go_loopw [9] (fun iv wr => ∃ i : Nat, i ≤ n ∧ iv = .int .i64 (i : Int) ∧ Hid (∀ j (hj : j < ps.length), j < i → keyP ls ty cl ps[j] = false) ∧ Below W.heap.size W wr) (fun iv _ => n - (intOf iv).toNat)
 case atStart => exact ⟨0, Nat.zero_le _, rfl, fun j _ h => absurd h (Nat.not_lt_zero _), Below.refl _ _⟩
 case round =>
  obtain ⟨i, hi, rfl, HI, hbl⟩ := hrel
  by_cases hlt : i < n
  ·have hlz : (i : Int) < (n : Int) := by omega
   obtain ⟨g, rfl, a, t, c, HE, HO, HX⟩ := HC.out i hlt
   obtain ⟨x0, x1, x2⟩ := HX.out wr hbl
   have HLa : Hid (∀ w, Calls Tryz.prog 64 #[.string (nm a)] w fun e w' => e = .returned (.string (nm (lowN a))) ∧ Below w.heap.size w w') := fun w => U.rLower_yes a HO.out w
   have wi : IntKind.i64.wrap ((i : Int) + 1) = ((i + 1 : Nat) : Int) := by rw [IntKind.wrap_i64]; unfold maxLen at hlen; omega
   have heq := nm_low_eq HO.out ho
   have HK : Hid (∃ hi : i < ps.length, keyP ls ty cl ps[i] = decide (lowN a = lowN ls ∧ t = ty ∧ c = cl)) := by
    obtain ⟨h1, e1, e2, e3⟩ := HE.out
    refine ⟨h1, ?_⟩
    unfold keyP
    rw [e1, e2, e3]
   have HNext : Hid (¬ (lowN a = lowN ls ∧ t = ty ∧ c = cl) → ∀ j (hj : j < ps.length), j < i + 1 → keyP ls ty cl ps[j] = false) := by
    intro hne j hj hji
    rcases Nat.lt_succ_iff_lt_or_eq.1 hji with h1 | rfl
    ·exact HI.out j hj h1
    ·obtain ⟨h1, e⟩ := HK.out
     rw [e]; exact decide_eq_false hne
   clear HE HO
   go_wp2_with fail
   refine (HLa.out _).mono ?_
   rintro e w1 ⟨rfl, hb1⟩
   go_wp2_with fail
   refine (HL.out _).mono ?_
   rintro e w2 ⟨rfl, hb2⟩
   have hbl2 : Below W.heap.size W w2 := hbl.trans ((hb1.trans (hb2.mono hb1.size)).mono hbl.size)
   obtain ⟨z0, z1, z2⟩ := HX.out w2 hbl2
   clear x0 x1 x2 hb1 hb2 hbl
   by_cases h1 : lowN a = lowN ls
   ·rw [decide_eq_true h1] at heq
    by_cases h2 : t = ty
    ·have d2 : (t == ty) = true := by rw [beq_iff_eq]; exact h2
     by_cases h3 : c = cl
     ·have d3 : (c == cl) = true := by rw [beq_iff_eq]; exact h3
      have e0 : R = some i := by
       obtain ⟨h4, e⟩ := HK.out
       exact hyes.out i h4 HI.out (by rw [e]; exact decide_eq_true ⟨h1, h2, h3⟩)
      subst e0
      clear h1 h2 h3 HK HNext
      go_wp2
      go_ret
      exact ⟨rfl, hbl2⟩
     ·have d3 : (c == cl) = false := by rw [beq_eq_false_iff_ne]; exact h3
      have HNx := Hid.mk (HNext.out (fun h => h3 h.2.2))
      clear h1 h2 h3 HK HNext
      go_wp2
      go_roundw
      case rel => exact ⟨i + 1, by omega, by first | rfl | go_num, HNx, hbl2⟩
      case measure => simp [intOf]; omega
    ·have d2 : (t == ty) = false := by rw [beq_eq_false_iff_ne]; exact h2
     have HNx := Hid.mk (HNext.out (fun h => h2 h.2.1))
     clear h1 h2 HK HNext
     go_wp2
     go_roundw
     case rel => exact ⟨i + 1, by omega, by first | rfl | go_num, HNx, hbl2⟩
     case measure => simp [intOf]; omega
   ·rw [decide_eq_false h1] at heq
    have HNx := Hid.mk (HNext.out (fun h => h1 h.1))
    clear h1 HK HNext
    go_wp2
    go_roundw
    case rel => exact ⟨i + 1, by omega, by first | rfl | go_num, HNx, hbl2⟩
    case measure => simp [intOf]; omega
  ·have hlz : ¬ (i : Int) < (n : Int) := by omega
   have e0 := hno.out i hi HI.out (by omega)
   subst e0
   go_wp2
   go_ret
   exact ⟨rfl, hbl⟩
def TxAt (w : World) (q : Option Addr) (ds : List ByteArray) : Prop := ∀ j (hj : j < ds.length), ∃ b off, q = some ⟨b, off, none⟩ ∧ b < w.heap.size ∧ w.cell? ⟨b, off + j, none⟩ = some (.string ds[j])
theorem TxAt.blk {w w' : World} {q : Option Addr} {ds : List ByteArray} (h : TxAt w q ds) (hb : Below w.heap.size w w') : TxAt w' q ds := fun j hj => by
 obtain ⟨b, off, e, hlt, hc⟩ := h j hj
 exact ⟨b, off, e, Nat.lt_of_lt_of_le hlt hb.size, (hb.cell (p := ⟨b, off + j, none⟩) hlt).trans hc⟩
theorem TxAt.of_own {w : World} {N : Nat} {v : Value} {ds : List ByteArray} (h : w.ownsRow N 9 1 v ds.length (strs ds)) : ∃ q cap, v = .slice q ds.length cap ∧ TxAt w q ds ∧ ds.length ≤ maxLen := by
 obtain ⟨hl, ⟨rfl, h0⟩ | ⟨g, cap, cur, rfl, hg0, hg, hn, hm, hs, ht⟩⟩ := h
 ·have : ds = [] := by simpa [strs] using h0
  subst this
  exact ⟨none, 0, rfl, fun j hj => by simp at hj, by unfold maxLen; simp⟩
 ·refine ⟨_, _, rfl, fun j hj => ⟨g, 0, rfl, (Array.getElem?_eq_some_iff.1 hg).1, ?_⟩, by omega⟩
  rw [So.cell_blk hg, Nat.zero_add, ← Array.getElem?_toList]
  have : (cur.toList.take (ds.length * 1))[j]? = some (.string ds[j]) := by
   rw [ht]; simp [strs, hj]
  rw [Nat.mul_one, List.getElem?_take, if_pos hj] at this
  exact this
open Classical in
noncomputable def hasD (k : Int) (ds : List ByteArray) (d : ByteArray) : Bool := decide (lowR k d ∈ ds.map (lowR k))
set_option maxRecDepth 100000 in
set_option maxHeartbeats 4000000 in
open Classical in
theorem rhas_in (k : Int) (hk : k ≠ 46) (q : Option Addr) (cap : Nat) (ds : List ByteArray) (d : ByteArray) (hd : d.size ≤ maxLen) (hds : ∀ x ∈ ds, x.size ≤ maxLen) (hlen : ds.length ≤ maxLen) (W : World) (hat : TxAt W q ds) : Calls Tryz.prog 68 #[.int .i64 k, .slice q ds.length cap, .string d] W fun e w' => e = .returned (.bool (hasD k ds d)) ∧ Below W.heap.size W w' := by
 have HL := Hid.mk (rdLower_in k hk d hd)
 obtain ⟨n, hn⟩ : ∃ n, ds.length = n := ⟨_, rfl⟩
 have HX : Hid (∀ i, i < n → ∃ b off, q = some ⟨b, off, none⟩ ∧ ∃ x : ByteArray, Hid (∃ hi : i < ds.length, x = ds[i]) ∧ Hid (∀ w, Calls Tryz.prog 99 #[.int .i64 k, .string x] w fun e w' => e = .returned (.string (lowR k x)) ∧ Below w.heap.size w w') ∧ Hid (∀ w, Below W.heap.size W w → w.cell? ⟨b, off + i, none⟩ = some (.string x))) := by
  intro i hi
  replace hi : i < ds.length := by omega
  obtain ⟨b, off, e, hlt, hc⟩ := hat i hi
  exact ⟨b, off, e, ds[i], ⟨hi, rfl⟩, fun w => rdLower_in k hk _ (hds _ (List.getElem_mem hi)) w, fun w hb => (hb.cell (p := ⟨b, off + i, none⟩) hlt).trans hc⟩
 obtain ⟨L, hL⟩ : ∃ L, lowR k d = L := ⟨_, rfl⟩
 have hyes : Hid (∀ i (hi : i < ds.length), lowR k ds[i] = L → hasD k ds d = true) := fun i hi e => by
  unfold hasD
  rw [hL]
  exact decide_eq_true (by rw [← e]; exact List.mem_map_of_mem (List.getElem_mem hi))
 have hno : Hid ((∀ j (hj : j < ds.length), lowR k ds[j] ≠ L) → hasD k ds d = false) := fun h => by
  unfold hasD
  rw [hL]
  refine decide_eq_false (fun hm => ?_)
  obtain ⟨x, hx, e⟩ := List.mem_map.1 hm
  obtain ⟨j, hj, rfl⟩ := List.getElem_of_mem hx
  exact h j hj e
 rw [hL] at HL
 obtain ⟨R, hR⟩ : ∃ R, hasD k ds d = R := ⟨_, rfl⟩
 rw [hR] at hyes hno ⊢
 have HN := Hid.mk hn
 rw [hn] at hlen ⊢
 clear hn hat hds hR hL
 go_enter Tryz.func68, Tryz.ntmps68
 go_wp2_with fail
 refine (HL.out _).mono ?_
 rintro e w0 ⟨rfl, hb0⟩
 go_wp2
 go_loopw [7] (fun iv wr => ∃ i : Nat, i ≤ n ∧ iv = .int .i64 (i : Int) ∧ Hid (∀ j (hj : j < ds.length), j < i → lowR k ds[j] ≠ L) ∧ Below W.heap.size W wr) (fun iv _ => n - (intOf iv).toNat)
 case atStart => exact ⟨0, Nat.zero_le _, rfl, fun j _ h => absurd h (Nat.not_lt_zero _), hb0⟩
 case round =>
  obtain ⟨i, hi, rfl, HI, hbl⟩ := hrel
  clear hb0
  by_cases hlt : i < n
  ·have hlz : (i : Int) < (n : Int) := by omega
   obtain ⟨b, off, rfl, x, HE, HLx, HC⟩ := HX.out i hlt
   have x0 := HC.out wr hbl
   have wi : IntKind.i64.wrap ((i : Int) + 1) = ((i + 1 : Nat) : Int) := by rw [IntKind.wrap_i64]; unfold maxLen at hlen; omega
   obtain ⟨M, hM⟩ : ∃ M, lowR k x = M := ⟨_, rfl⟩
   rw [hM] at HLx
   have HM := Hid.mk hM
   clear hM
   by_cases h1 : M = L
   ·have e0 : R = true := by
     obtain ⟨h4, e⟩ := HE.out
     exact hyes.out i h4 (by rw [← e, HM.out, h1])
    subst e0
    subst h1
    have heq : (M.toList == M.toList) = true := by simp
    go_wp2_with fail
    refine (HLx.out _).mono ?_
    rintro e w1 ⟨rfl, hb1⟩
    have hbl2 : Below W.heap.size W w1 := hbl.trans (hb1.mono hbl.size)
    go_wp2
    go_ret
    exact ⟨rfl, hbl2⟩
   ·have heq := (ba_ne h1).1
    have HNx : Hid (∀ j (hj : j < ds.length), j < i + 1 → lowR k ds[j] ≠ L) := by
     intro j hj hji
     rcases Nat.lt_succ_iff_lt_or_eq.1 hji with h2 | rfl
     ·exact HI.out j hj h2
     ·obtain ⟨h4, e⟩ := HE.out
      rw [← e, HM.out]; exact h1
    clear h1
    go_wp2_with fail
    refine (HLx.out _).mono ?_
    rintro e w1 ⟨rfl, hb1⟩
    have hbl2 : Below W.heap.size W w1 := hbl.trans (hb1.mono hbl.size)
    clear hbl hb1
    go_wp2
    go_roundw
    case rel => exact ⟨i + 1, by omega, by first | rfl | go_num, HNx, hbl2⟩
    case measure => simp [intOf]; omega
  ·have hlz : ¬ (i : Int) < (n : Int) := by omega
   have e0 := hno.out (fun j hj => HI.out j hj (by rw [HN.out] at hj; omega))
   subst e0
   go_wp2
   go_ret
   exact ⟨rfl, hbl⟩
end Go.Proofs.YtdlcldjlfhmlgaaGreatDoor
/- The document's Right and Same (guidepostref08), of sets of one text without signatures. -/
namespace Go.Proofs.YtdlcldjlfhmlgaaGreatDoor
open Go.RowKit
theorem Kd.cell {V u : World} (h : Kd V u) {b i : Nat} {x : Value} (hc : V.cell? ⟨b, i, none⟩ = some x) (hb : b < V.heap.size) : u.cell? ⟨b, i, none⟩ = some x := (Below.cell (p := ⟨b, i, none⟩) h hb).trans hc
theorem hasD_nil (k : Int) (d : ByteArray) : hasD k [] d = false := by
 classical
 unfold hasD
 exact decide_eq_false (by simp)
theorem hasD_one (k : Int) (x d : ByteArray) : hasD k [x] d = decide (lowR k d = lowR k x) := by
 classical
 unfold hasD
 exact decide_eq_decide.2 (by simp)
structure OneS (ls : N3) (ty cl tl : Int) (d : ByteArray) : Prop where
 okn : OkN ls
 rty : 0 ≤ ty ∧ ty ≤ 65535
 r46 : ty ≠ 46
 r41 : ty ≠ 41
 rcl : 0 ≤ cl ∧ cl ≤ 65535
 rtl : 0 ≤ tl ∧ tl ≤ 2147483647
 rdt : dRt ty d = true
theorem OneS.size {ls : N3} {ty cl tl : Int} {d : ByteArray} (h : OneS ls ty cl tl d) : d.size ≤ maxLen := by have := dRt_size h.rdt; unfold maxLen; omega
set_option maxRecDepth 100000 in
set_option maxHeartbeats 8000000 in
theorem rRight1_in (ls : N3) (ty cl tl : Int) (d : ByteArray) (h1 : OneS ls ty cl tl d) (b o c : Nat) (hc1 : 1 ≤ c) (hcm : c ≤ maxLen) (qs : Option Addr) (es : Nat) (W : World) (hb : b < W.heap.size) (hd : W.cell? ⟨b, o, none⟩ = some (.string d)) :
  Calls Tryz.prog 103 #[.agg #[.string (nm ls), .int .i64 ty, .int .i64 cl, .int .i64 tl, .slice (some ⟨b, o, none⟩) 1 c, .slice qs 0 es]] W fun e w' => e = .returned (.bool true) ∧ Below W.heap.size W w' := by
 have HN : Hid (∀ w, Calls Tryz.prog 28 #[.string (nm ls)] w fun e w' => e = .returned (.bool true) ∧ Below w.heap.size w w') := fun w => rRight_yes ls h1.okn w
 have HI1 : Hid (∀ w, Calls Tryz.prog 98 #[.int .i64 ty, .int .i64 0, .int .i64 65535] w fun e w' => e = .returned (.bool true) ∧ w' = w) := fun w => by
  have := rin_in ty 0 65535 w
  rwa [decide_eq_true h1.rty.1, decide_eq_true h1.rty.2] at this
 have HI2 : Hid (∀ w, Calls Tryz.prog 98 #[.int .i64 cl, .int .i64 0, .int .i64 65535] w fun e w' => e = .returned (.bool true) ∧ w' = w) := fun w => by
  have := rin_in cl 0 65535 w
  rwa [decide_eq_true h1.rcl.1, decide_eq_true h1.rcl.2] at this
 have HI3 : Hid (∀ w, Calls Tryz.prog 98 #[.int .i64 tl, .int .i64 0, .int .i64 2147483647] w fun e w' => e = .returned (.bool true) ∧ w' = w) := fun w => by
  have := rin_in tl 0 2147483647 w
  rwa [decide_eq_true h1.rtl.1, decide_eq_true h1.rtl.2] at this
 have HI4 : Hid (∀ w, Calls Tryz.prog 98 #[.int .i64 1, .int .i64 1, .int .i64 200] w fun e w' => e = .returned (.bool true) ∧ w' = w) := fun w => rin_in 1 1 200 w
 have HD : Hid (∀ w, Calls Tryz.prog 97 #[.int .i64 ty, .string d] w fun e w' => e = .returned (.bool true) ∧ Below w.heap.size w w') := fun w => by
  have := rdRight_in ty d h1.size w
  rwa [h1.rdt] at this
 have HH : Hid (∀ w, Calls Tryz.prog 68 #[.int .i64 ty, .slice (some ⟨b, o, none⟩) 0 c, .string d] w fun e w' => e = .returned (.bool false) ∧ Below w.heap.size w w') := fun w => by
  have := rhas_in ty h1.r46 (some ⟨b, o, none⟩) c [] d h1.size (by simp) (by unfold maxLen; simp) w (fun j hj => by simp at hj)
  rwa [hasD_nil] at this
 have e46 : (ty == 46) = false := by rw [beq_eq_false_iff_ne]; exact h1.r46
 have e41 : (ty == 41) = false := by rw [beq_eq_false_iff_ne]; exact h1.r41
 obtain ⟨V, hV⟩ : ∃ V, W.alloc (.cells #[.string (nm ls), .int .i64 ty, .int .i64 cl, .int .i64 tl, .slice (some ⟨b, o, none⟩) 1 c, .slice qs 0 es] 44) = V := ⟨_, rfl⟩
 obtain ⟨B, hB⟩ : ∃ B, W.heap.size = B := ⟨_, rfl⟩
 have BW : Hid (Below W.heap.size W V) := hV ▸ (Below.refl _ _).alloc (Nat.le_refl _) _
 have HX : Hid (∀ w, Kd V w → (fun w' : World => w'.cell? ⟨B, 0, none⟩ = some (.string (nm ls)) ∧ w'.cell? ⟨B, 1, none⟩ = some (.int .i64 ty) ∧ w'.cell? ⟨B, 2, none⟩ = some (.int .i64 cl) ∧ w'.cell? ⟨B, 3, none⟩ = some (.int .i64 tl) ∧ w'.cell? ⟨B, 4, none⟩ = some (.slice (some ⟨b, o, none⟩) 1 c) ∧ w'.cell? ⟨B, 5, none⟩ = some (.slice qs 0 es) ∧ w'.cell? ⟨b, o, none⟩ = some (.string d)) w) := fun w k => by
  have h0 : V.heap[B]? = some (.cells #[.string (nm ls), .int .i64 ty, .int .i64 cl, .int .i64 tl, .slice (some ⟨b, o, none⟩) 1 c, .slice qs 0 es] 44 (0, 0)) := by rw [← hV, ← hB]; exact heap_new _ _
  have h2 := (Below.block k _ (box_lt h0)).trans h0
  refine ⟨(cells_at h2 rfl).1, (cells_at h2 rfl).1, (cells_at h2 rfl).1, (cells_at h2 rfl).1, (cells_at h2 rfl).1, (cells_at h2 rfl).1, ?_⟩
  exact k.cell ((BW.out.cell (p := ⟨b, o, none⟩) hb).trans hd) (Nat.lt_of_lt_of_le hb BW.out.size)
 have HV := Hid.mk hV
 have HB := Hid.mk hB
 clear hV hB h1 hd hb
 have k0 := Kd.refl V
 have c0 := HX.out _ k0
 go_enter Tryz.func103, Tryz.ntmps103
 go_upto_region 1 with fail
 rw [HV.out]
 rw [HB.out] at BW ⊢
 go_wp2_with fail
 refine (HN.out _).mono ?_
 rintro e w1 ⟨rfl, hb1⟩
 have k1 := k0.blk hb1
 have c1 := HX.out _ k1
 clear c0 k0 hb1 HN
 go_wp2_with fail
 refine (HI1.out _).mono ?_
 rintro e w2 ⟨rfl, rfl⟩
 go_wp2_with fail
 refine (HI2.out _).mono ?_
 rintro e w3 ⟨rfl, rfl⟩
 go_wp2_with fail
 refine (HI3.out _).mono ?_
 rintro e w4 ⟨rfl, rfl⟩
 go_wp2_with fail
 refine (HI4.out _).mono ?_
 rintro e w5 ⟨rfl, rfl⟩
 clear HI1 HI2 HI3 HI4
 go_wp2
 clear c1
 go_loopw [4] (fun iv wr => ∃ i : Nat, i ≤ 1 ∧ iv = .int .i64 (i : Int) ∧ Hid (Kd V wr)) (fun iv _ => 1 - (intOf iv).toNat)
 case atStart => exact ⟨0, by omega, rfl, k1⟩
 case round =>
  obtain ⟨i, hi, rfl, HK⟩ := hrel
  have c2 := HX.out _ HK.out
  rcases (show i = 0 ∨ i = 1 by omega) with rfl | rfl
  ·go_upto_region 7 with fail
   refine wp_region_held_drew (S := (fun w' : World => w'.cell? ⟨B, 0, none⟩ = some (.string (nm ls)) ∧ w'.cell? ⟨B, 1, none⟩ = some (.int .i64 ty) ∧ w'.cell? ⟨B, 2, none⟩ = some (.int .i64 cl) ∧ w'.cell? ⟨B, 3, none⟩ = some (.int .i64 tl) ∧ w'.cell? ⟨B, 4, none⟩ = some (.slice (some ⟨b, o, none⟩) 1 c) ∧ w'.cell? ⟨B, 5, none⟩ = some (.slice qs 0 es) ∧ w'.cell? ⟨b, o, none⟩ = some (.string d))) (by kernel_rfl) (HX.out _ HK.out.drew) (fun hHeld => ?_)
   refine wU (i := 0) (v := ?va_0) rfl ?ya_0 (by assumption) ?_
   case ya_0 => (intro w hSw; (try dsimp only at hSw); go_simp; try with_reducible rfl)
   refine wU (i := 1) (v := ?va_1) rfl ?ya_1 (by assumption) ?_
   case ya_1 => (intro w hSw; (try dsimp only at hSw); go_simp; try with_reducible rfl)
   refine wU (i := 2) (v := ?va_2) rfl ?ya_2 (by assumption) ?_
   case ya_2 => (intro w hSw; (try dsimp only at hSw); go_simp; try with_reducible rfl)
   refine wU (i := 3) (v := ?va_3) rfl ?ya_3 (by assumption) ?_
   case ya_3 => (intro w hSw; (try dsimp only at hSw); go_simp; try with_reducible rfl)
   refine wU (i := 4) (v := ?va_4) rfl ?ya_4 (by assumption) ?_
   case ya_4 => (intro w hSw; (try dsimp only at hSw); go_simp; try with_reducible rfl)
   refine wU (i := 5) (v := ?va_5) rfl ?ya_5 (by assumption) ?_
   case ya_5 => (intro w hSw; (try dsimp only at hSw); go_simp; try with_reducible rfl)
   refine wU (i := 6) (v := ?va_6) rfl ?ya_6 (by assumption) ?_
   case ya_6 => (intro w hSw; (try dsimp only at hSw); go_simp; try with_reducible rfl)
   try simp only [Act.put, List.getElem_toArray, List.getElem_cons_succ, List.getElem_cons_zero, List.setIfInBounds_toArray, List.set_cons_zero, List.set_cons_succ]
   refine wpAnyH_ready (rs := [7]) (by kernel_rfl) (by simp) ?_
   refine AllReadyH.cons rfl (fun K hK => ?_) AllReadyH.nil
   go_simp
   go_at_call 97
   refine (HD.out _).mono ?_
   rintro e w6 ⟨rfl, hb6⟩
   have k6 := HK.out.drew.blk hb6
   refine hK.out _ _ (HX.out _ k6) (fun hHeld => ?_)
   clear hK K
   try simp only [Act.put, List.getElem_toArray, List.getElem_cons_succ, List.getElem_cons_zero, List.setIfInBounds_toArray, List.set_cons_zero, List.set_cons_succ]
   refine wU (i := 8) (v := ?vb_8) rfl ?yb_8 (by assumption) ?_
   case yb_8 => (intro w hSw; (try dsimp only at hSw); go_simp; try with_reducible rfl)
   try simp only [Act.put, List.getElem_toArray, List.getElem_cons_succ, List.getElem_cons_zero, List.setIfInBounds_toArray, List.set_cons_zero, List.set_cons_succ]
   refine wpAnyH_done (by kernel_rfl) ?_ _
   clear hHeld c2
   have c6 := HX.out _ k6
   go_upto_region 8 with fail
   refine wp_region_held_drew (S := (fun w' : World => w'.cell? ⟨B, 0, none⟩ = some (.string (nm ls)) ∧ w'.cell? ⟨B, 1, none⟩ = some (.int .i64 ty) ∧ w'.cell? ⟨B, 2, none⟩ = some (.int .i64 cl) ∧ w'.cell? ⟨B, 3, none⟩ = some (.int .i64 tl) ∧ w'.cell? ⟨B, 4, none⟩ = some (.slice (some ⟨b, o, none⟩) 1 c) ∧ w'.cell? ⟨B, 5, none⟩ = some (.slice qs 0 es) ∧ w'.cell? ⟨b, o, none⟩ = some (.string d))) (by kernel_rfl) (HX.out _ k6.drew) (fun hHeld => ?_)
   refine wU (i := 0) (v := ?vc_0) rfl ?yc_0 (by assumption) ?_
   case yc_0 => (intro w hSw; (try dsimp only at hSw); go_simp; try with_reducible rfl)
   refine wU (i := 1) (v := ?vc_1) rfl ?yc_1 (by assumption) ?_
   case yc_1 => (intro w hSw; (try dsimp only at hSw); go_simp; try with_reducible rfl)
   refine wU (i := 2) (v := ?vc_2) rfl ?yc_2 (by assumption) ?_
   case yc_2 => (intro w hSw; (try dsimp only at hSw); go_simp; try with_reducible rfl)
   refine wU (i := 3) (v := ?vc_3) rfl ?yc_3 (by assumption) ?_
   case yc_3 => (intro w hSw; (try dsimp only at hSw); go_simp; try with_reducible rfl)
   refine wU (i := 4) (v := ?vc_4) rfl ?yc_4 (by assumption) ?_
   case yc_4 => (intro w hSw; (try dsimp only at hSw); go_simp; try with_reducible rfl)
   refine wU (i := 5) (v := ?vc_5) rfl ?yc_5 (by assumption) ?_
   case yc_5 => (intro w hSw; (try dsimp only at hSw); go_simp; try with_reducible rfl)
   refine wU (i := 6) (v := ?vc_6) rfl ?yc_6 (by assumption) ?_
   case yc_6 => (intro w hSw; (try dsimp only at hSw); go_simp; try with_reducible rfl)
   refine wU (i := 7) (v := ?vc_7) rfl ?yc_7 (by assumption) ?_
   case yc_7 => (intro w hSw; (try dsimp only at hSw); go_simp; try with_reducible rfl)
   refine wU (i := 8) (v := ?vc_8) rfl ?yc_8 (by assumption) ?_
   case yc_8 => (intro w hSw; (try dsimp only at hSw); go_simp; try with_reducible rfl)
   refine wU (i := 9) (v := ?vc_9) rfl ?yc_9 (by assumption) ?_
   case yc_9 => (intro w hSw; (try dsimp only at hSw); go_simp; try with_reducible rfl)
   refine wU (i := 10) (v := ?vc_10) rfl ?yc_10 (by assumption) ?_
   case yc_10 => (intro w hSw; (try dsimp only at hSw); go_simp; try with_reducible rfl)
   try simp only [Act.put, List.getElem_toArray, List.getElem_cons_succ, List.getElem_cons_zero, List.setIfInBounds_toArray, List.set_cons_zero, List.set_cons_succ]
   refine wpAnyH_ready (rs := [11]) (by kernel_rfl) (by simp) ?_
   refine AllReadyH.cons rfl (fun K hK => ?_) AllReadyH.nil
   go_simp
   go_at_call 68
   refine (HH.out _).mono ?_
   rintro e w7 ⟨rfl, hb7⟩
   have k7 := k6.drew.blk hb7
   refine hK.out _ _ (HX.out _ k7) (fun hHeld => ?_)
   clear hK K
   try simp only [Act.put, List.getElem_toArray, List.getElem_cons_succ, List.getElem_cons_zero, List.setIfInBounds_toArray, List.set_cons_zero, List.set_cons_succ]
   refine wU (i := 12) (v := ?vd_12) rfl ?yd_12 (by assumption) ?_
   case yd_12 => (intro w hSw; (try dsimp only at hSw); go_simp; try with_reducible rfl)
   try simp only [Act.put, List.getElem_toArray, List.getElem_cons_succ, List.getElem_cons_zero, List.setIfInBounds_toArray, List.set_cons_zero, List.set_cons_succ]
   refine wpAnyH_done (by kernel_rfl) ?_ _
   clear hHeld c6
   go_wp2
   go_roundw
   case rel => exact ⟨1, by omega, by first | rfl | go_num, k7⟩
   case measure => simp [intOf]
  ·go_wp2
   go_loopw [7] (fun iv wr => iv = .int .i64 0 ∧ Hid (Kd V wr)) (fun _ _ => 0)
   case atStart => exact ⟨rfl, HK⟩
   case round =>
    obtain ⟨rfl, HK⟩ := hrel
    clear c2
    have c3 := HX.out _ HK.out
    go_wp2
    go_ret
    exact ⟨rfl, HK.out.bel (by rw [HB.out]; exact BW.out)⟩
set_option maxRecDepth 100000 in
set_option maxHeartbeats 8000000 in
theorem rSame1_in (ls ls' : N3) (hls : lowN ls = lowN ls') (ty cl tl tl' : Int) (d d' : ByteArray) (h1 : OneS ls ty cl tl d) (h2 : OneS ls' ty cl tl' d') (b o c b' o' c' : Nat) (hc1 : 1 ≤ c) (hcm : c ≤ maxLen) (hc1' : 1 ≤ c') (hcm' : c' ≤ maxLen) (qs qs' : Option Addr) (es es' : Nat) (W : World) (hb : b < W.heap.size) (hd : W.cell? ⟨b, o, none⟩ = some (.string d)) (hb' : b' < W.heap.size) (hd' : W.cell? ⟨b', o', none⟩ = some (.string d')) :
  Calls Tryz.prog 70 #[.agg #[.string (nm ls), .int .i64 ty, .int .i64 cl, .int .i64 tl, .slice (some ⟨b, o, none⟩) 1 c, .slice qs 0 es], .agg #[.string (nm ls'), .int .i64 ty, .int .i64 cl, .int .i64 tl', .slice (some ⟨b', o', none⟩) 1 c', .slice qs' 0 es']] W fun e w' => e = .returned (.bool (decide (lowR ty d = lowR ty d'))) ∧ Below W.heap.size W w' := by
 have HA : Hid (∀ w, b < w.heap.size → w.cell? ⟨b, o, none⟩ = some (.string d) → Calls Tryz.prog 103 #[.agg #[.string (nm ls), .int .i64 ty, .int .i64 cl, .int .i64 tl, .slice (some ⟨b, o, none⟩) 1 c, .slice qs 0 es]] w fun e w' => e = .returned (.bool true) ∧ Below w.heap.size w w') := fun w x y => rRight1_in ls ty cl tl d h1 b o c hc1 hcm qs es w x y
 have HA' : Hid (∀ w, b' < w.heap.size → w.cell? ⟨b', o', none⟩ = some (.string d') → Calls Tryz.prog 103 #[.agg #[.string (nm ls'), .int .i64 ty, .int .i64 cl, .int .i64 tl', .slice (some ⟨b', o', none⟩) 1 c', .slice qs' 0 es']] w fun e w' => e = .returned (.bool true) ∧ Below w.heap.size w w') := fun w x y => rRight1_in ls' ty cl tl' d' h2 b' o' c' hc1' hcm' qs' es' w x y
 have HL : Hid (∀ w, Calls Tryz.prog 64 #[.string (nm ls)] w fun e w' => e = .returned (.string (nm (lowN ls))) ∧ Below w.heap.size w w') := fun w => U.rLower_yes ls h1.okn w
 have HL' : Hid (∀ w, Calls Tryz.prog 64 #[.string (nm ls')] w fun e w' => e = .returned (.string (nm (lowN ls))) ∧ Below w.heap.size w w') := fun w => by rw [hls]; exact U.rLower_yes ls' h2.okn w
 have HH : Hid (∀ w, b' < w.heap.size → w.cell? ⟨b', o', none⟩ = some (.string d') → Calls Tryz.prog 68 #[.int .i64 ty, .slice (some ⟨b', o', none⟩) 1 c', .string d] w fun e w' => e = .returned (.bool (decide (lowR ty d = lowR ty d'))) ∧ Below w.heap.size w w') := fun w x y => by
  have := rhas_in ty h1.r46 (some ⟨b', o', none⟩) c' [d'] d h1.size (fun z hz => by obtain rfl := List.mem_singleton.1 hz; exact h2.size) (by unfold maxLen; simp) w (fun j hj => ⟨b', o', rfl, x, by
   have : j = 0 := by simpa using hj
   subst this; exact y⟩)
  rwa [hasD_one] at this
 obtain ⟨V, hV⟩ : ∃ V, (W.alloc (.cells #[.string (nm ls), .int .i64 ty, .int .i64 cl, .int .i64 tl, .slice (some ⟨b, o, none⟩) 1 c, .slice qs 0 es] 44)).alloc (.cells #[.string (nm ls'), .int .i64 ty, .int .i64 cl, .int .i64 tl', .slice (some ⟨b', o', none⟩) 1 c', .slice qs' 0 es'] 44) = V := ⟨_, rfl⟩
 obtain ⟨B, hB⟩ : ∃ B, W.heap.size = B := ⟨_, rfl⟩
 have hw1 : Below W.heap.size W (W.alloc (.cells #[.string (nm ls), .int .i64 ty, .int .i64 cl, .int .i64 tl, .slice (some ⟨b, o, none⟩) 1 c, .slice qs 0 es] 44)) := (Below.refl _ _).alloc (Nat.le_refl _) _
 have BW : Hid (Below W.heap.size W V) := hV ▸ hw1.alloc (by simp) _
 have HX : Hid (∀ w, Kd V w → (fun w' : World => (w'.cell? ⟨B, 0, none⟩ = some (.string (nm ls)) ∧ w'.cell? ⟨B, 1, none⟩ = some (.int .i64 ty) ∧ w'.cell? ⟨B, 2, none⟩ = some (.int .i64 cl) ∧ w'.cell? ⟨B, 3, none⟩ = some (.int .i64 tl) ∧ w'.cell? ⟨B, 4, none⟩ = some (.slice (some ⟨b, o, none⟩) 1 c) ∧ w'.cell? ⟨B, 5, none⟩ = some (.slice qs 0 es)) ∧ (w'.cell? ⟨(B + 1), 0, none⟩ = some (.string (nm ls')) ∧ w'.cell? ⟨(B + 1), 1, none⟩ = some (.int .i64 ty) ∧ w'.cell? ⟨(B + 1), 2, none⟩ = some (.int .i64 cl) ∧ w'.cell? ⟨(B + 1), 3, none⟩ = some (.int .i64 tl') ∧ w'.cell? ⟨(B + 1), 4, none⟩ = some (.slice (some ⟨b', o', none⟩) 1 c') ∧ w'.cell? ⟨(B + 1), 5, none⟩ = some (.slice qs' 0 es')) ∧ w'.cell? ⟨b, o, none⟩ = some (.string d)) w) := fun w k => by
  have h0 : (W.alloc (.cells #[.string (nm ls), .int .i64 ty, .int .i64 cl, .int .i64 tl, .slice (some ⟨b, o, none⟩) 1 c, .slice qs 0 es] 44)).heap[B]? = some (.cells #[.string (nm ls), .int .i64 ty, .int .i64 cl, .int .i64 tl, .slice (some ⟨b, o, none⟩) 1 c, .slice qs 0 es] 44 (0, 0)) := by rw [← hB]; exact heap_new _ _
  have hsz : (W.alloc (.cells #[.string (nm ls), .int .i64 ty, .int .i64 cl, .int .i64 tl, .slice (some ⟨b, o, none⟩) 1 c, .slice qs 0 es] 44)).heap.size = B + 1 := by rw [← hB]; simp
  have h00 : V.heap[B]? = some (.cells #[.string (nm ls), .int .i64 ty, .int .i64 cl, .int .i64 tl, .slice (some ⟨b, o, none⟩) 1 c, .slice qs 0 es] 44 (0, 0)) := by
   rw [← hV]
   exact (((Below.refl _ _).alloc (Nat.le_refl _) _).block _ (box_lt h0)).trans h0
  have h01 : V.heap[B + 1]? = some (.cells #[.string (nm ls'), .int .i64 ty, .int .i64 cl, .int .i64 tl', .slice (some ⟨b', o', none⟩) 1 c', .slice qs' 0 es'] 44 (0, 0)) := by rw [← hV, ← hsz]; exact heap_new _ _
  have g0 := (Below.block k _ (box_lt h00)).trans h00
  have g1 := (Below.block k _ (box_lt h01)).trans h01
  refine ⟨⟨(cells_at g0 rfl).1, (cells_at g0 rfl).1, (cells_at g0 rfl).1, (cells_at g0 rfl).1, (cells_at g0 rfl).1, (cells_at g0 rfl).1⟩, ⟨(cells_at g1 rfl).1, (cells_at g1 rfl).1, (cells_at g1 rfl).1, (cells_at g1 rfl).1, (cells_at g1 rfl).1, (cells_at g1 rfl).1⟩, ?_⟩
  exact k.cell ((BW.out.cell (p := ⟨b, o, none⟩) hb).trans hd) (Nat.lt_of_lt_of_le hb BW.out.size)
 have HY : Hid (∀ w, Kd V w → (b < w.heap.size ∧ w.cell? ⟨b, o, none⟩ = some (.string d)) ∧ (b' < w.heap.size ∧ w.cell? ⟨b', o', none⟩ = some (.string d'))) := fun w k => by
  have hz : V.heap.size ≤ w.heap.size := Below.size k
  have hz0 := BW.out.size
  exact ⟨⟨by omega, k.cell ((BW.out.cell (p := ⟨b, o, none⟩) hb).trans hd) (by omega)⟩, ⟨by omega, k.cell ((BW.out.cell (p := ⟨b', o', none⟩) hb').trans hd') (by omega)⟩⟩
 have HV := Hid.mk hV
 have HB := Hid.mk hB
 have hne : ((nm (lowN ls)).toList != (nm (lowN ls)).toList) = false := by simp
 have hnt : (ty != ty) = false := by simp
 have hnc : (cl != cl) = false := by simp
 clear hV hB h1 h2 hd hb hd' hb' hls hw1
 generalize decide (lowR ty d = lowR ty d') = R at HH ⊢
 generalize nm (lowN ls) = L at HL HL' hne
 have k0 := Kd.refl V
 have c0 := HX.out _ k0
 go_enter Tryz.func70, Tryz.ntmps70
 go_upto_region 1 with fail
 rw [HV.out]
 rw [HB.out] at BW ⊢
 go_wp2_with fail
 refine (HA.out _ (HY.out _ k0).1.1 (HY.out _ k0).1.2).mono ?_
 rintro e w1 ⟨rfl, hb1⟩
 have k1 := k0.blk hb1
 have c1 := HX.out _ k1
 clear c0 k0 hb1 HA
 go_wp2_with fail
 refine (HA'.out _ (HY.out _ k1).2.1 (HY.out _ k1).2.2).mono ?_
 rintro e w2 ⟨rfl, hb2⟩
 have k2 := k1.blk hb2
 have c2 := HX.out _ k2
 clear c1 k1 hb2 HA'
 go_upto_region 3 with fail
 refine wp_region_held_drew (S := (fun w' : World => (w'.cell? ⟨B, 0, none⟩ = some (.string (nm ls)) ∧ w'.cell? ⟨B, 1, none⟩ = some (.int .i64 ty) ∧ w'.cell? ⟨B, 2, none⟩ = some (.int .i64 cl) ∧ w'.cell? ⟨B, 3, none⟩ = some (.int .i64 tl) ∧ w'.cell? ⟨B, 4, none⟩ = some (.slice (some ⟨b, o, none⟩) 1 c) ∧ w'.cell? ⟨B, 5, none⟩ = some (.slice qs 0 es)) ∧ (w'.cell? ⟨(B + 1), 0, none⟩ = some (.string (nm ls')) ∧ w'.cell? ⟨(B + 1), 1, none⟩ = some (.int .i64 ty) ∧ w'.cell? ⟨(B + 1), 2, none⟩ = some (.int .i64 cl) ∧ w'.cell? ⟨(B + 1), 3, none⟩ = some (.int .i64 tl') ∧ w'.cell? ⟨(B + 1), 4, none⟩ = some (.slice (some ⟨b', o', none⟩) 1 c') ∧ w'.cell? ⟨(B + 1), 5, none⟩ = some (.slice qs' 0 es')) ∧ w'.cell? ⟨b, o, none⟩ = some (.string d))) (by kernel_rfl) (HX.out _ k2.drew) (fun hHeld => ?_)
 refine wU (i := 0) (v := ?va_0) rfl ?ya_0 (by assumption) ?_
 case ya_0 => (intro w hSw; (try dsimp only at hSw); go_simp; try with_reducible rfl)
 refine wU (i := 1) (v := ?va_1) rfl ?ya_1 (by assumption) ?_
 case ya_1 => (intro w hSw; (try dsimp only at hSw); go_simp; try with_reducible rfl)
 refine wU (i := 2) (v := ?va_2) rfl ?ya_2 (by assumption) ?_
 case ya_2 => (intro w hSw; (try dsimp only at hSw); go_simp; try with_reducible rfl)
 refine wU (i := 3) (v := ?va_3) rfl ?ya_3 (by assumption) ?_
 case ya_3 => (intro w hSw; (try dsimp only at hSw); go_simp; try with_reducible rfl)
 refine wU (i := 4) (v := ?va_4) rfl ?ya_4 (by assumption) ?_
 case ya_4 => (intro w hSw; (try dsimp only at hSw); go_simp; try with_reducible rfl)
 refine wU (i := 5) (v := ?va_5) rfl ?ya_5 (by assumption) ?_
 case ya_5 => (intro w hSw; (try dsimp only at hSw); go_simp; try with_reducible rfl)
 refine wU (i := 6) (v := ?va_6) rfl ?ya_6 (by assumption) ?_
 case ya_6 => (intro w hSw; (try dsimp only at hSw); go_simp; try with_reducible rfl)
 refine wU (i := 7) (v := ?va_7) rfl ?ya_7 (by assumption) ?_
 case ya_7 => (intro w hSw; (try dsimp only at hSw); go_simp; try with_reducible rfl)
 refine wU (i := 8) (v := ?va_8) rfl ?ya_8 (by assumption) ?_
 case ya_8 => (intro w hSw; (try dsimp only at hSw); go_simp; try with_reducible rfl)
 refine wU (i := 10) (v := ?va_10) rfl ?ya_10 (by assumption) ?_
 case ya_10 => (intro w hSw; (try dsimp only at hSw); go_simp; try with_reducible rfl)
 refine wU (i := 11) (v := ?va_11) rfl ?ya_11 (by assumption) ?_
 case ya_11 => (intro w hSw; (try dsimp only at hSw); go_simp; try with_reducible rfl)
 try simp only [Act.put, List.getElem_toArray, List.getElem_cons_succ, List.getElem_cons_zero, List.setIfInBounds_toArray, List.set_cons_zero, List.set_cons_succ]
 refine wpAnyH_ready (rs := [9]) (by kernel_rfl) (by simp) ?_
 refine AllReadyH.cons rfl (fun K hK => ?_) AllReadyH.nil
 go_simp
 go_at_call 64
 refine (HL.out _).mono ?_
 rintro e w3 ⟨rfl, hb3⟩
 have k3 := k2.drew.blk hb3
 refine hK.out _ _ (HX.out _ k3) (fun hHeld => ?_)
 clear hK K
 try simp only [Act.put, List.getElem_toArray, List.getElem_cons_succ, List.getElem_cons_zero, List.setIfInBounds_toArray, List.set_cons_zero, List.set_cons_succ]
 refine wpAnyH_ready (rs := [12]) (by kernel_rfl) (by simp) ?_
 refine AllReadyH.cons rfl (fun K hK => ?_) AllReadyH.nil
 go_simp
 go_at_call 64
 refine (HL'.out _).mono ?_
 rintro e w4 ⟨rfl, hb4⟩
 have k4 := k3.blk hb4
 refine hK.out _ _ (HX.out _ k4) (fun hHeld => ?_)
 clear hK K
 try simp only [Act.put, List.getElem_toArray, List.getElem_cons_succ, List.getElem_cons_zero, List.setIfInBounds_toArray, List.set_cons_zero, List.set_cons_succ]
 refine wU (i := 13) (v := ?vb_13) rfl ?yb_13 (by assumption) ?_
 case yb_13 => (intro w hSw; (try dsimp only at hSw); go_simp; try with_reducible rfl)
 refine wU (i := 14) (v := ?vb_14) rfl ?yb_14 (by assumption) ?_
 case yb_14 => (intro w hSw; (try dsimp only at hSw); go_simp; try with_reducible rfl)
 refine wU (i := 15) (v := ?vb_15) rfl ?yb_15 (by assumption) ?_
 case yb_15 => (intro w hSw; (try dsimp only at hSw); go_simp; try with_reducible rfl)
 refine wU (i := 16) (v := ?vb_16) rfl ?yb_16 (by assumption) ?_
 case yb_16 => (intro w hSw; (try dsimp only at hSw); go_simp; try with_reducible rfl)
 refine wU (i := 17) (v := ?vb_17) rfl ?yb_17 (by assumption) ?_
 case yb_17 => (intro w hSw; (try dsimp only at hSw); go_simp; try with_reducible rfl)
 refine wU (i := 18) (v := ?vb_18) rfl ?yb_18 (by assumption) ?_
 case yb_18 => (intro w hSw; (try dsimp only at hSw); go_simp; try with_reducible rfl)
 refine wU (i := 19) (v := ?vb_19) rfl ?yb_19 (by assumption) ?_
 case yb_19 => (intro w hSw; (try dsimp only at hSw); go_simp; try with_reducible rfl)
 refine wU (i := 20) (v := ?vb_20) rfl ?yb_20 (by assumption) ?_
 case yb_20 => (intro w hSw; (try dsimp only at hSw); go_simp; try with_reducible rfl)
 refine wU (i := 21) (v := ?vb_21) rfl ?yb_21 (by assumption) ?_
 case yb_21 => (intro w hSw; (try dsimp only at hSw); go_simp; try with_reducible rfl)
 refine wU (i := 22) (v := ?vb_22) rfl ?yb_22 (by assumption) ?_
 case yb_22 => (intro w hSw; (try dsimp only at hSw); go_simp; try with_reducible rfl)
 refine wU (i := 23) (v := ?vb_23) rfl ?yb_23 (by assumption) ?_
 case yb_23 => (intro w hSw; (try dsimp only at hSw); go_simp; try with_reducible rfl)
 refine wU (i := 24) (v := ?vb_24) rfl ?yb_24 (by assumption) ?_
 case yb_24 => (intro w hSw; (try dsimp only at hSw); go_simp; try with_reducible rfl)
 refine wU (i := 25) (v := ?vb_25) rfl ?yb_25 (by assumption) ?_
 case yb_25 => (intro w hSw; (try dsimp only at hSw); go_simp; try with_reducible rfl)
 refine wU (i := 26) (v := ?vb_26) rfl ?yb_26 (by assumption) ?_
 case yb_26 => (intro w hSw; (try dsimp only at hSw); go_simp; try with_reducible rfl)
 refine wU (i := 27) (v := ?vb_27) rfl ?yb_27 (by assumption) ?_
 case yb_27 => (intro w hSw; (try dsimp only at hSw); go_simp; try with_reducible rfl)
 refine wU (i := 28) (v := ?vb_28) rfl ?yb_28 (by assumption) ?_
 case yb_28 => (intro w hSw; (try dsimp only at hSw); go_simp; try with_reducible rfl)
 refine wU (i := 29) (v := ?vb_29) rfl ?yb_29 (by assumption) ?_
 case yb_29 => (intro w hSw; (try dsimp only at hSw); go_simp; try with_reducible rfl)
 refine wU (i := 30) (v := ?vb_30) rfl ?yb_30 (by assumption) ?_
 case yb_30 => (intro w hSw; (try dsimp only at hSw); go_simp; try with_reducible rfl)
 refine wU (i := 31) (v := ?vb_31) rfl ?yb_31 (by assumption) ?_
 case yb_31 => (intro w hSw; (try dsimp only at hSw); go_simp; try with_reducible rfl)
 refine wU (i := 32) (v := ?vb_32) rfl ?yb_32 (by assumption) ?_
 case yb_32 => (intro w hSw; (try dsimp only at hSw); go_simp; try with_reducible rfl)
 refine wU (i := 33) (v := ?vb_33) rfl ?yb_33 (by assumption) ?_
 case yb_33 => (intro w hSw; (try dsimp only at hSw); go_simp; try with_reducible rfl)
 refine wU (i := 34) (v := ?vb_34) rfl ?yb_34 (by assumption) ?_
 case yb_34 => (intro w hSw; (try dsimp only at hSw); go_simp; try with_reducible rfl)
 refine wU (i := 35) (v := ?vb_35) rfl ?yb_35 (by assumption) ?_
 case yb_35 => (intro w hSw; (try dsimp only at hSw); go_simp; try with_reducible rfl)
 refine wU (i := 36) (v := ?vb_36) rfl ?yb_36 (by assumption) ?_
 case yb_36 => (intro w hSw; (try dsimp only at hSw); go_simp; try with_reducible rfl)
 refine wU (i := 37) (v := ?vb_37) rfl ?yb_37 (by assumption) ?_
 case yb_37 => (intro w hSw; (try dsimp only at hSw); go_simp; try with_reducible rfl)
 try simp only [Act.put, List.getElem_toArray, List.getElem_cons_succ, List.getElem_cons_zero, List.setIfInBounds_toArray, List.set_cons_zero, List.set_cons_succ]
 refine wpAnyH_done (by kernel_rfl) ?_ _
 clear hHeld c2
 have c4 := HX.out _ k4
 go_wp2
 clear c4
 go_loopw [7] (fun iv wr => ∃ i : Nat, i ≤ 1 ∧ iv = .int .i64 (i : Int) ∧ (i = 1 → R = true) ∧ Hid (Kd V wr)) (fun iv _ => 1 - (intOf iv).toNat)
 case atStart => exact ⟨0, by omega, rfl, fun h => by omega, k4⟩
 case round =>
  obtain ⟨i, hi, rfl, hR, HK⟩ := hrel
  have c5 := HX.out _ HK.out
  rcases (show i = 0 ∨ i = 1 by omega) with rfl | rfl
  ·have HH5 := Hid.mk (HH.out _ (HY.out _ HK.out.drew).2.1 (HY.out _ HK.out.drew).2.2)
   go_upto_region 8 with fail
   refine wp_region_held_drew (S := (fun w' : World => (w'.cell? ⟨B, 0, none⟩ = some (.string (nm ls)) ∧ w'.cell? ⟨B, 1, none⟩ = some (.int .i64 ty) ∧ w'.cell? ⟨B, 2, none⟩ = some (.int .i64 cl) ∧ w'.cell? ⟨B, 3, none⟩ = some (.int .i64 tl) ∧ w'.cell? ⟨B, 4, none⟩ = some (.slice (some ⟨b, o, none⟩) 1 c) ∧ w'.cell? ⟨B, 5, none⟩ = some (.slice qs 0 es)) ∧ (w'.cell? ⟨(B + 1), 0, none⟩ = some (.string (nm ls')) ∧ w'.cell? ⟨(B + 1), 1, none⟩ = some (.int .i64 ty) ∧ w'.cell? ⟨(B + 1), 2, none⟩ = some (.int .i64 cl) ∧ w'.cell? ⟨(B + 1), 3, none⟩ = some (.int .i64 tl') ∧ w'.cell? ⟨(B + 1), 4, none⟩ = some (.slice (some ⟨b', o', none⟩) 1 c') ∧ w'.cell? ⟨(B + 1), 5, none⟩ = some (.slice qs' 0 es')) ∧ w'.cell? ⟨b, o, none⟩ = some (.string d))) (by kernel_rfl) (HX.out _ HK.out.drew) (fun hHeld => ?_)
   refine wU (i := 0) (v := ?vc_0) rfl ?yc_0 (by assumption) ?_
   case yc_0 => (intro w hSw; (try dsimp only at hSw); go_simp; try with_reducible rfl)
   refine wU (i := 1) (v := ?vc_1) rfl ?yc_1 (by assumption) ?_
   case yc_1 => (intro w hSw; (try dsimp only at hSw); go_simp; try with_reducible rfl)
   refine wU (i := 2) (v := ?vc_2) rfl ?yc_2 (by assumption) ?_
   case yc_2 => (intro w hSw; (try dsimp only at hSw); go_simp; try with_reducible rfl)
   refine wU (i := 3) (v := ?vc_3) rfl ?yc_3 (by assumption) ?_
   case yc_3 => (intro w hSw; (try dsimp only at hSw); go_simp; try with_reducible rfl)
   refine wU (i := 4) (v := ?vc_4) rfl ?yc_4 (by assumption) ?_
   case yc_4 => (intro w hSw; (try dsimp only at hSw); go_simp; try with_reducible rfl)
   refine wU (i := 5) (v := ?vc_5) rfl ?yc_5 (by assumption) ?_
   case yc_5 => (intro w hSw; (try dsimp only at hSw); go_simp; try with_reducible rfl)
   refine wU (i := 6) (v := ?vc_6) rfl ?yc_6 (by assumption) ?_
   case yc_6 => (intro w hSw; (try dsimp only at hSw); go_simp; try with_reducible rfl)
   refine wU (i := 7) (v := ?vc_7) rfl ?yc_7 (by assumption) ?_
   case yc_7 => (intro w hSw; (try dsimp only at hSw); go_simp; try with_reducible rfl)
   refine wU (i := 8) (v := ?vc_8) rfl ?yc_8 (by assumption) ?_
   case yc_8 => (intro w hSw; (try dsimp only at hSw); go_simp; try with_reducible rfl)
   try simp only [Act.put, List.getElem_toArray, List.getElem_cons_succ, List.getElem_cons_zero, List.setIfInBounds_toArray, List.set_cons_zero, List.set_cons_succ]
   refine wpAnyH_ready (rs := [9]) (by kernel_rfl) (by simp) ?_
   refine AllReadyH.cons rfl (fun K hK => ?_) AllReadyH.nil
   go_simp
   go_at_call 68
   refine HH5.out.mono ?_
   rintro e w7 ⟨rfl, hb7⟩
   have k7 := HK.out.drew.blk hb7
   refine hK.out _ _ (HX.out _ k7) (fun hHeld => ?_)
   clear hK K
   try simp only [Act.put, List.getElem_toArray, List.getElem_cons_succ, List.getElem_cons_zero, List.setIfInBounds_toArray, List.set_cons_zero, List.set_cons_succ]
   refine wU (i := 10) (v := ?vd_10) rfl ?yd_10 (by assumption) ?_
   case yd_10 => (intro w hSw; (try dsimp only at hSw); go_simp; try with_reducible rfl)
   try simp only [Act.put, List.getElem_toArray, List.getElem_cons_succ, List.getElem_cons_zero, List.setIfInBounds_toArray, List.set_cons_zero, List.set_cons_succ]
   refine wpAnyH_done (by kernel_rfl) ?_ _
   clear hHeld c5 HH5 HH
   cases R with
   | false =>
    go_wp2
    go_ret
    exact ⟨rfl, k7.bel (by rw [HB.out]; exact BW.out)⟩
   | true =>
    go_wp2
    go_roundw
    case rel => exact ⟨1, by omega, by first | rfl | go_num, (fun _ => by first | rfl | trivial), k7⟩
    case measure => simp [intOf]
  ·obtain rfl := hR rfl
   go_wp2
   go_ret
   exact ⟨rfl, HK.out.bel (by rw [HB.out]; exact BW.out)⟩
end Go.Proofs.YtdlcldjlfhmlgaaGreatDoor
