/- Texts of this proof, joined: LcS, LcT, LcV, RsC, RcG, RsDf. -/
import Derived.Test.YtikjepodmdaknaaGreatDoorJ11
import Derived.Sort.OwnSorted
import Derived.Lib.OwnBridge
import Derived.Test.YtikjepodmdaknaaGreatDoorJ16
import Derived.Test.YtikjepodmdaknaaGreatDoorJ4
import Derived.Test.YtikjepodmdaknaaGreatDoorJ13
set_option linter.unusedVariables false
set_option linter.unusedSimpArgs false
/- Layer 8: sets in the making: newGathering, isNew. -/
namespace Go.Proofs.YtikjepodmdaknaaGreatDoor
open Go.RowKit
open Go.MapKept Go.WideMaps
open Go.Proofs.YtikjepodmdaknaaGreatDoor.So (El)
end Go.Proofs.YtikjepodmdaknaaGreatDoor
/- Layer 8: setFor. -/
namespace Go.Proofs.YtikjepodmdaknaaGreatDoor
open Go.RowKit
open Go.MapKept Go.WideMaps
open Go.Proofs.YtikjepodmdaknaaGreatDoor.So (El)
theorem infoSt : (Tryz.prog.info? 34).map (fun i => (i.zero, i.size, i.bytes)) = some (some (.agg #[.string ⟨#[]⟩, .int .i64 0, .int .i64 0, .int .i64 0, .slice none 0 0, .slice none 0 0]), 6, 88) := by kernel_rfl
theorem infoStr : (Tryz.prog.info? 9).map (fun i => (i.zero, i.size, i.bytes)) = some (some (.string ⟨#[]⟩), 1, 16) := by kernel_rfl
theorem info_parts' {e : TypeId} {z : Value} {s b : Nat} (h : (Tryz.prog.info? e).map (fun i => (i.zero, i.size, i.bytes)) = some (some z, s, b)) : ∃ i, Tryz.prog.info? e = some i ∧ i.zero = some z ∧ i.size = s ∧ i.bytes = b := by
 cases hi : Tryz.prog.info? e with
 | none => rw [hi] at h; simp at h
 | some i => rw [hi] at h; simp at h; exact ⟨i, rfl, h.1, h.2.1, h.2.2⟩
end Go.Proofs.YtikjepodmdaknaaGreatDoor
/- Layer 8: a set of the row written to: its TTL, its data. -/
namespace Go.Proofs.YtikjepodmdaknaaGreatDoor
open Go.RowKit
open Go.MapKept Go.WideMaps
open Go.Proofs.YtikjepodmdaknaaGreatDoor.So (El)
def bAppD (a : Array Value) : Sem Value := Builtin.append_ #[32, 32] 32 a
end Go.Proofs.YtikjepodmdaknaaGreatDoor
/- Layer 8: data in small letters, in order. -/
namespace Go.Proofs.YtikjepodmdaknaaGreatDoor
open Go.RowKit Go.Sort
theorem own_lowS {w : World} {N M e size k : Nat} {v : Value} {l : List Value} (hr : w.ownsRow M e size v k l) (hN : N ≤ M) : w.ownsRow N e size v k l := by
 obtain ⟨hl, h0 | ⟨g, cap, cur, hv, hg0, r⟩⟩ := hr
 ·exact ⟨hl, .inl h0⟩
 ·exact ⟨hl, .inr ⟨g, cap, cur, hv, Nat.le_trans hN hg0, r⟩⟩
theorem app_dd (a : Array Value) : Builtin.append_ #[32, 32] 32 a = bAppD a := rfl
theorem txt_app {M : Nat} {w : World} {v : Value} {n : Nat} {l : List Value} (h : w.ownsRow M 9 1 v n l) (hM : M ≤ w.heap.size) (hl : n ≤ 1000000) (d : ByteArray) :
  ∃ q c w', (bAppD #[v, .slice (some ⟨w.heap.size, 0, none⟩) 1 1]).run Tryz.prog (w.alloc (.cells #[.string d] 9)) = .ok (.slice q (n + 1) c) w' ∧ w'.ownsRow M 9 1 (.slice q (n + 1) c) (n + 1) (l ++ [.string d]) ∧ Below M w w' := by
 obtain ⟨i0, hi0, hz0, hz1, hz2⟩ := info_parts' infoStr
 have bU : Below w.heap.size w (w.alloc (.cells #[.string d] 9)) := (Below.refl _ _).alloc (Nat.le_refl _) _
 have hnew := heap_alloc_new w (.cells #[.string d] 9)
 obtain ⟨v', w', hrun, hown, hgr, _, _⟩ := run_append_own_at (P := Tryz.prog) (w.alloc (.cells #[.string d] 9)) M 32 32 9 i0 _ 1 16 Tryz.underlying32 hi0 hz0 hz1 hz2 rfl (by decide) v n l (own_blk h bU) ⟨w.heap.size, 0, none⟩ 1 1 [.string d] rfl (fun j u hu => by
  rw [So.add_of, Nat.zero_add, So.cell_blk hnew, ← hu]
  simp) (fun u hu => by obtain rfl := List.mem_singleton.1 hu; rfl) (by unfold maxLen; omega) (by omega) (by rw [World.size_alloc]; omega)
 obtain ⟨q, c, rfl⟩ := srow_any hown
 exact ⟨q, c, w', hrun, hown, (bU.mono hM).trans ((Below.refl _ _).grown hgr (by rw [World.size_alloc]; omega) fun b hb' => (own_lt (own_blk h bU) hb').2.1)⟩
theorem sort_own (w : World) (N : Nat) (v : Value) (zs : List (List UInt8)) (h : w.ownsRow N 9 1 v zs.length (zs.map encStr)) (hN : N ≤ w.heap.size) (hl : zs.length ≤ 1000000) : Calls Tryz.prog 123 #[v] w fun e w' => e = .returned (.tuple #[]) ∧ w'.ownsRow N 9 1 v zs.length ((sortB zs).map encStr) ∧ Below N w w' := by
 by_cases hv : v = .slice none 0 0
 ·subst hv
  have hz : zs = [] := by
   rcases h.2 with ⟨_, h0⟩ | ⟨g, cap, cur, hv, _⟩
   ·exact List.eq_nil_of_length_eq_zero h0
   ·cases hv
  subst hz
  refine (Tryz.slices_Sort_string_none none 0 w).mono ?_
  rintro e w' ⟨rfl, rfl⟩
  have e : sortB [] = [] := List.eq_nil_of_length_eq_zero (by rw [sortB_len]; rfl)
  rw [e]
  exact ⟨rfl, h, Below.refl _ _⟩
 ·obtain ⟨g, cap, rfl, hbg, hgl, hncap, hcm, hlen, hH⟩ := Lib.holds_of_ownsRow h hv
  refine (Tryz.slices_Sort_string g 0 cap zs w hH hgl (by omega)).mono ?_
  rintro e w' ⟨rfl, n, os, rfl⟩
  rcases h.2 with ⟨h0, _⟩ | ⟨g', cap', cur, hv', hbase, hb, h1, h2, h3, h4⟩
  ·cases h0
  ·cases hv'
   exact ⟨rfl, ownsRow_sorted (ts := sortB zs) (sortB_len zs) hbase hb h1 h2 h3, (Below.refl _ _).grown (grownBy_sorted _) hN fun j hj => by cases hj; exact hbase⟩
section
attribute [local go_sem ↓] app_dd
set_option maxRecDepth 100000 in
set_option maxHeartbeats 4000000 in
theorem inOrder_in (s : Sv) (hin : SvIn s) (qd : Option Addr) (cd : Nat) (qg : Option Addr) (cg : Nat) (W : World) (hat : SvAt W s qd cd qg cg) (hl : s.ds.length ≤ 1000) : Calls Tryz.prog 83 #[.agg (svC s qd cd qg cg).toArray] W fun e w' => ∃ v, e = .returned v ∧ w'.ownsRow W.heap.size 9 1 v s.ds.length ((sortB (lowsS s)).map encStr) ∧ Below W.heap.size W w' := by
 obtain ⟨N, hN⟩ : ∃ N, W.heap.size = N := ⟨_, rfl⟩
 obtain ⟨n, hn⟩ : ∃ n, s.ds.length = n := ⟨_, rfl⟩
 have HTx : Hid (∀ i, i < n → ∃ (b off : Nat) (d : ByteArray), qd = some ⟨b, off, none⟩ ∧ Hid (s.ds[i]? = some d ∧ d ∈ s.ds) ∧ Hid (∀ w, Below N W w → w.cell? ⟨b, off + i, none⟩ = some (.string d))) := fun i hi => by
  have := tx_cell hat.ds i (by rw [hn]; exact hi)
  rw [hN] at this
  exact this
 have HLw : Hid (∀ d, d ∈ s.ds → ∀ w, Calls Tryz.prog 122 #[.int .i64 s.ty, .string d] w fun e w' => e = .returned (.string (lowR s.ty d)) ∧ Below w.heap.size w w') := fun d hd w => lower_in s.ty d (hin.ds d hd) w
 have HSt : Hid (∀ (i : Nat) d, s.ds[i]? = some d → (lowsS s).take (i + 1) = (lowsS s).take i ++ [(lowR s.ty d).data.toList]) := fun i d h => by
  obtain ⟨hi, rfl⟩ := List.getElem?_eq_some_iff.1 h
  unfold lowsS
  rw [List.take_succ_eq_append_getElem (by simpa using hi)]
  simp
 have hll : (lowsS s).length = n := by unfold lowsS; rw [List.length_map]; exact hn
 have hncd : n ≤ cd ∧ cd ≤ 9223372036854775807 := by have := hat.cd; rw [hn] at this; unfold maxLen at this; omega
 have X0 := Bx.new W (svC s qd cd qg cg) 34
 simp only [svC] at X0 ⊢
 rw [hn] at X0 hl ⊢
 rw [hN] at X0 ⊢
 obtain ⟨V, hV⟩ : ∃ V, W.alloc (.cells [.string s.nm, .int .i64 s.ty, .int .i64 s.cl, .int .i64 s.tl, .slice qd n cd, .slice qg s.sg.length cg].toArray 34) = V := ⟨_, rfl⟩
 rw [hV] at X0
 have HX : Hid (∀ w, Below V.heap.size V w → Below N W w ∧ N ≤ w.heap.size ∧ (w.cell? ⟨N, 0, none⟩ = some (.string s.nm) ∧ w.cell? ⟨N, 1, none⟩ = some (.int .i64 s.ty) ∧ w.cell? ⟨N, 2, none⟩ = some (.int .i64 s.cl) ∧ w.cell? ⟨N, 3, none⟩ = some (.int .i64 s.tl) ∧ w.cell? ⟨N, 4, none⟩ = some (.slice qd n cd) ∧ w.cell? ⟨N, 5, none⟩ = some (.slice qg s.sg.length cg))) := fun w hb => ⟨by have := (X0.blk hb).bel; rw [hN] at this; exact this, Nat.le_of_lt (X0.blk hb).lt, (X0.blk hb).cells6⟩
 have HV := Hid.mk hV
 obtain ⟨M, hM⟩ : ∃ M, V.heap.size = M := ⟨_, rfl⟩
 have hNM : Hid (N ≤ M) := by rw [← hM]; exact (HX.out V (Below.refl _ _)).2.1
 rw [hM] at HX
 have HM := Hid.mk hM
 obtain ⟨L, hL⟩ : ∃ L, lowsS s = L := ⟨_, rfl⟩
 rw [hL] at HSt hll ⊢
 have HLl := Hid.mk hll
 generalize s.sg.length = m0 at *
 generalize s.nm = y0 at *
 generalize s.cl = y2 at *
 generalize s.tl = y3 at *
 clear hin hat X0 hV hn hL hll hM
 go_enter Tryz.func83, Tryz.ntmps83
 go_upto_region 1 with fail
 (try rw [hN])
 rw [HV.out]
 clear hN
 obtain ⟨_, _, x0, x1, x2, x3, x4, x5⟩ := HX.out _ (Below.refl _ _)
 go_wp2_with fail
 clear x0 x1 x2 x3 x4 x5
 go_loopw [3, 9] (fun lv iv wr => ∃ (i : Nat) (q1 : Option Addr) (c1 : Nat) (wq : World), wq = wr ∧ i ≤ n ∧ iv = .int .i64 (i : Int) ∧ lv = .slice q1 i c1 ∧ Hid (Below M V wq ∧ wq.ownsRow M 9 1 (.slice q1 i c1) i ((L.take i).map encStr))) (fun _ iv _ => n - (intOf iv).toNat)
 case atStart => exact ⟨0, none, 0, _, rfl, Nat.zero_le _, rfl, rfl, Below.refl _ _, by rw [List.take_zero]; exact World.ownsRow_nil ..⟩
 case round =>
  obtain ⟨i, q1, c1, wq, rfl, hi, rfl, rfl, HI⟩ := hrel
  by_cases hlt : i < n
  ·have hlz : (i : Int) < (n : Int) := by omega
   have hlz0 : (0 : Int) ≤ (i : Int) := by omega
   have wi : IntKind.i64.wrap ((i : Int) + 1) = ((i + 1 : Nat) : Int) := by rw [IntKind.wrap_i64]; omega
   obtain ⟨b, off, d, rfl, hd, hc⟩ := HTx.out i hlt
   obtain ⟨hbl, _, x0, x1, x2, x3, x4, x5⟩ := HX.out _ HI.out.1
   have hcell := hc.out _ hbl
   have HS1 := Hid.mk (HLw.out d hd.out.2)
   clear hbl hc
   go_wp2_with fail
   refine (HS1.out _).mono ?_
   rintro e w1 ⟨rfl, hb1⟩
   have hMq : M ≤ wq.heap.size := by rw [← HM.out]; exact (HI.out.1).size
   obtain ⟨q2, c2, w2, ra, ho2, hb2⟩ := txt_app (own_blk HI.out.2 hb1) (Nat.le_trans hMq hb1.size) (by omega) (lowR s.ty d)
   have HE : Hid (Below M V w2 ∧ w2.ownsRow M 9 1 (.slice q2 (i + 1) c2) (i + 1) ((L.take (i + 1)).map encStr)) := by
    refine ⟨HI.out.1.trans ((hb1.mono hMq).trans hb2), ?_⟩
    rw [HSt.out i d hd.out.1, List.map_append]
    exact ho2
   clear hb1 hMq ho2 hb2 hcell HS1 x0 x1 x2 x3 x4 x5
   go_wp2
   go_roundw
   case rel => exact ⟨i + 1, q2, c2, _, rfl, by omega, by first | rfl | go_num, rfl, HE⟩
   case measure => simp [intOf]; omega
  ·have hlz : ¬ (i : Int) < (n : Int) := by omega
   obtain rfl : i = n := by omega
   have hMq : M ≤ wq.heap.size := by rw [← HM.out]; exact (HI.out.1).size
   have ho := HI.out.2
   rw [List.take_of_length_le (by rw [HLl.out]; exact Nat.le_refl _)] at ho
   have hsrt := sort_own wq M _ L (by rw [HLl.out]; exact ho) hMq (by rw [HLl.out]; omega)
   rw [HLl.out] at hsrt
   have HSr := Hid.mk hsrt
   clear hsrt ho hMq
   go_wp2_with fail
   refine HSr.out.mono ?_
   rintro e w2 ⟨rfl, ho2, hb2⟩
   have HF : Hid (w2.ownsRow N 9 1 (.slice q1 i c1) i ((sortB L).map encStr) ∧ Below N W w2) := ⟨own_lowS ho2 hNM.out, (HX.out _ HI.out.1).1.trans (hb2.mono hNM.out)⟩
   clear ho2 hb2 HSr
   go_wp2
   go_ret
   exact ⟨_, rfl, HF.out⟩
end
end Go.Proofs.YtikjepodmdaknaaGreatDoor
/- Layer 16: a cache in memory. -/
namespace Go.Proofs.YtikjepodmdaknaaGreatDoor.Rc
open Go.RowKit
theorem data_small {s : Sv} (h : setOk s = true) : s.nm.size ≤ 255 ∧ (∀ d ∈ s.ds, d.size ≤ 2000) ∧ (∀ d ∈ s.sg, d.size ≤ 2000) ∧ 1 ≤ s.ds.length ∧ s.ds.length ≤ 200 ∧ s.sg.length ≤ 200 := by
 unfold setOk headOk datOk sigOk at h
 simp only [Bool.and_eq_true, decide_eq_true_eq, List.all_eq_true] at h
 obtain ⟨⟨⟨⟨⟨hn, _⟩, _⟩, _⟩, ⟨⟨⟨h1, h2⟩, hd⟩, _⟩⟩, h3, hg⟩ := h
 refine ⟨name_size (isN_iff.1 hn), fun d hh => ?_, fun d hh => ?_, h1, h2, h3⟩
 ·have := hd d hh
  unfold dRt at this
  rw [Option.isSome_iff_exists] at this
  obtain ⟨xs, hx⟩ := this
  exact ((split_iff _ _ _).1 hx).2.1
 ·have := hg d hh
  unfold covOk at this
  split at this
  ·rename_i hx
   exact ((split_iff _ _ _).1 hx).2.1
  ·cases this
def TxQ (w : World) (Q : Nat → Prop) (q : Option Addr) (ds : List ByteArray) : Prop := 0 < ds.length → ∃ g cur, q = some ⟨g, 0, none⟩ ∧ Q g ∧ w.heap[g]? = some (.cells cur 9 (0, 0)) ∧ ∀ j (hj : j < ds.length), cur[j]? = some (.string ds[j])
theorem TxQ.at {w : World} {Q : Nat → Prop} {q : Option Addr} {ds : List ByteArray} (h : TxQ w Q q ds) : TxAt w q ds := fun j hj => by
 obtain ⟨g, cur, e, _, hg, hc⟩ := h (by omega)
 exact ⟨g, 0, e, (Array.getElem?_eq_some_iff.1 hg).1, by rw [So.cell_blk hg, Nat.zero_add]; exact hc j hj⟩
theorem TxQ.same {w w' : World} {Q : Nat → Prop} {q : Option Addr} {ds : List ByteArray} (h : TxQ w Q q ds) (hs : ∀ g cur, Q g → w.heap[g]? = some (.cells cur 9 (0, 0)) → w'.heap[g]? = w.heap[g]?) : TxQ w' Q q ds := fun h0 => by
 obtain ⟨g, cur, e, hq, hg, hc⟩ := h h0
 exact ⟨g, cur, e, hq, (hs g cur hq hg).trans hg, hc⟩
theorem TxQ.mono {w : World} {Q Q' : Nat → Prop} {q : Option Addr} {ds : List ByteArray} (h : TxQ w Q q ds) (hs : ∀ g, Q g → Q' g) : TxQ w Q' q ds := fun h0 => by
 obtain ⟨g, cur, e, hq, r⟩ := h h0
 exact ⟨g, cur, e, hs g hq, r⟩
theorem TxQ.of_own {w : World} {N : Nat} {q : Option Addr} {c : Nat} {ds : List ByteArray} (h : w.ownsRow N 9 1 (.slice q ds.length c) ds.length (strs ds)) : TxQ w (fun b => N ≤ b) q ds := fun h0 => by
 obtain ⟨hl, ⟨hv, h1⟩ | ⟨g, cap, cur, hv, hg0, hg, hn, hm, hs, ht⟩⟩ := h
 ·omega
 ·cases hv
  refine ⟨g, cur, rfl, hg0, hg, fun j hj => ?_⟩
  rw [← Array.getElem?_toList]
  have : (cur.toList.take (ds.length * 1))[j]? = some (.string ds[j]) := by
   rw [ht]; simp [strs, hj]
  rwa [Nat.mul_one, List.getElem?_take, if_pos hj] at this
abbrev evC (x : Ev) (qd : Option Addr) (cd : Nat) (qg : Option Addr) (cg : Nat) : List Value := [.string x.s.nm, .int .i64 x.s.ty, .int .i64 x.s.cl, .int .i64 x.s.tl, .slice qd x.s.ds.length cd, .slice qg x.s.sg.length cg, .int .i64 x.rk, .int .i64 x.se, .int .i64 x.ve, .int .i64 x.un]
def EvAt (w : World) (Q : Nat → Prop) (b : Nat) (x : Ev) : Prop := ∃ qd cd qg cg, w.heap[b]? = some (.cells (evC x qd cd qg cg).toArray 44 (0, 0)) ∧ TxQ w Q qd x.s.ds ∧ TxQ w Q qg x.s.sg ∧ (x.s.ds.length ≤ cd ∧ cd ≤ maxLen) ∧ (x.s.sg.length ≤ cg ∧ cg ≤ maxLen)
theorem EvAt.lt {w : World} {Q : Nat → Prop} {b : Nat} {x : Ev} (h : EvAt w Q b x) : b < w.heap.size := by
 obtain ⟨qd, cd, qg, cg, h, _⟩ := h
 exact blk_lt h
theorem EvAt.mono {w : World} {Q Q' : Nat → Prop} {b : Nat} {x : Ev} (h : EvAt w Q b x) (hs : ∀ g, Q g → Q' g) : EvAt w Q' b x := by
 obtain ⟨qd, cd, qg, cg, h, h1, h2, r⟩ := h
 exact ⟨qd, cd, qg, cg, h, h1.mono hs, h2.mono hs, r⟩
structure FrC (T : Nat) (w w' : World) : Prop where
 size : w.heap.size ≤ w'.heap.size
 same : ∀ (b : Nat) (c : Array Value) (t : TypeId) (f : Nat × Nat), w.heap[b]? = some (.cells c t f) → t ≠ 161 → t ≠ 166 → t ≠ 97 → w'.heap[b]? = some (.cells c t f)
 mp : MapFr T w w'
theorem FrC.refl (T : Nat) (w : World) : FrC T w w := ⟨Nat.le_refl _, fun _ _ _ _ h _ _ _ => h, MapFr.refl T w⟩
theorem FrC.trans {T : Nat} {a b c : World} (h : FrC T a b) (k : FrC T b c) : FrC T a c := ⟨Nat.le_trans h.size k.size, fun i x t f hi h1 h2 h3 => k.same i x t f (h.same i x t f hi h1 h2 h3) h1 h2 h3, h.mp.trans k.mp⟩
theorem FrC.below {T : Nat} {w w' : World} (h : Below w.heap.size w w') : FrC T w w' := ⟨h.size, fun b c t f hb _ _ _ => (h.block b (blk_lt hb)).trans hb, MapFr.below h⟩
theorem FrC.frn {T : Nat} {w w' : World} (h : Frn T w w') : FrC T w w' := ⟨h.size, fun b c t f hb h1 h2 _ => h.same b c t f hb h1 h2, h.mp⟩
theorem FrC.drew {T : Nat} {w w' : World} (h : FrC T w w') : FrC T w w'.drew := ⟨h.size, h.same, h.mp⟩
theorem FrC.row {T : Nat} {w w' : World} (h : FrC T w w') {base e size k : Nat} {v : Value} {xs : List Value} (hr : w.ownsRow base e size v k xs) (h1 : e ≠ 161) (h2 : e ≠ 166) (h3 : e ≠ 97) : w'.ownsRow base e size v k xs := by
 obtain ⟨hl, h0 | ⟨g, cap, cur, hv, hb, hg, r⟩⟩ := hr
 ·exact ⟨hl, .inl h0⟩
 ·exact ⟨hl, .inr ⟨g, cap, cur, hv, hb, h.same g _ e _ hg h1 h2 h3, r⟩⟩
theorem EvAt.frc {T : Nat} {w w' : World} {Q : Nat → Prop} {b : Nat} {x : Ev} (h : EvAt w Q b x) (hf : FrC T w w') : EvAt w' Q b x := by
 obtain ⟨qd, cd, qg, cg, h, h1, h2, r⟩ := h
 exact ⟨qd, cd, qg, cg, hf.same b _ _ _ h (by decide) (by decide) (by decide), h1.same (fun g cur _ hg => (hf.same g _ _ _ hg (by decide) (by decide) (by decide)).trans hg.symm), h2.same (fun g cur _ hg => (hf.same g _ _ _ hg (by decide) (by decide) (by decide)).trans hg.symm), r⟩
structure EvI (n : Nat) (x : Ev) : Prop where
 ok : setOk x.s = true
 sv : SvI x.s
 un : 1 ≤ x.un ∧ x.un ≤ 4294967295 + 604800
 rk : 1 ≤ x.rk ∧ x.rk ≤ 4
 se : 0 ≤ x.se ∧ x.se ≤ 3
 ve : 1 ≤ x.ve ∧ x.ve ≤ (n : Int)
abbrev ML := List (Ky × (Nat × Ev))
structure RC (W w : World) (C T m n : Nat) (ver : Int) (l : ML) (Q : Nat → Prop) : Prop where
 bx : w.heap[C]? = some (.cells #[pt T, .int .i64 ver] 97 (0, 0))
 own : W.heap.size ≤ C
 tab : TabK W w T (m : Int) n (l.map fun p => (p.1, p.2.1))
 ev : ∀ p ∈ l, EvAt w Q p.2.1 p.2.2 ∧ W.heap.size ≤ p.2.1
 ok : ∀ p ∈ l, p.1 = keyS p.2.2.s.nm p.2.2.s.ty ∧ EvI n p.2.2
 len : l.length ≤ m
 nd : (l.map fun p => p.2.1).Nodup
 vb : 0 ≤ ver ∧ ver ≤ (n : Int)
 mb : 1 ≤ m ∧ m ≤ 100000
section
variable {W w w' : World} {C T m n : Nat} {ver : Int} {l : ML} {Q : Nat → Prop}
theorem RC.blk (h : RC W w C T m n ver l Q) (hb : Below w.heap.size w w') : RC W w' C T m n ver l Q :=
 ⟨(hb.block C (blk_lt h.bx)).trans h.bx, h.own, h.tab.blk hb, fun p hp => ⟨(h.ev p hp).1.frc (FrC.below (T := 0) hb), (h.ev p hp).2⟩, h.ok, h.len, h.nd, h.vb, h.mb⟩
theorem RC.bel (h : RC W w C T m n ver l Q) : Below W.heap.size W w := h.tab.bel
theorem RC.drew (h : RC W w C T m n ver l Q) : RC W w.drew C T m n ver l Q := h.blk (Below.refl _ _).drew
end
def abs (l : ML) : AL := l.map fun p => (p.1, p.2.2)
theorem abs_get (l : ML) (k : Ky) : getR (abs l) k = (getR l k).map Prod.snd := getR_map Prod.snd l k
theorem abs_put (m : Nat) (l : ML) (k : Ky) (v : Nat × Ev) : abs (putR m l k v) = putR m (abs l) k v.2 := (putR_map Prod.snd m l k v).symm
theorem abs_without (l : ML) (k : Ky) : abs (without l k) = without (abs l) k := (without_map Prod.snd l k).symm
end Go.Proofs.YtikjepodmdaknaaGreatDoor.Rc
/- Layer 8: the data of a set: facts alone. -/
namespace Go.Proofs.YtikjepodmdaknaaGreatDoor
open Go.RowKit
theorem dat_few {s : Sv} (h : ¬ 1 ≤ s.ds.length) : datOk s = false := by
 unfold datOk
 rw [decide_eq_false h]
 rfl
theorem dat_many {s : Sv} (h : ¬ s.ds.length ≤ 200) : datOk s = false := by
 unfold datOk
 rw [decide_eq_false h, Bool.and_false]
 rfl
theorem dat_no {s : Sv} {d : ByteArray} (h : d ∈ s.ds) (hd : dRt s.ty d = false) : datOk s = false := by
 unfold datOk
 rw [show s.ds.all (dRt s.ty) = false from List.all_eq_false.2 ⟨d, h, by simp [hd]⟩, Bool.and_false]
 rfl
theorem dat_end {s : Sv} (h1 : 1 ≤ s.ds.length) (h2 : s.ds.length ≤ 200) (h : ∀ (i : Nat) d, s.ds[i]? = some d → dRt s.ty d = true) : datOk s = decide ((Lib.compact (sortB (lowsS s))).length = s.ds.length) := by
 have hl : (sortB (lowsS s)).length = s.ds.length := by rw [sortB_len]; unfold lowsS; rw [List.length_map]
 have e : (Lib.compact (sortB (lowsS s))).length = s.ds.length ↔ (lowsS s).Nodup := by
  rw [← hl, compact_nodup (sortB_sorted _)]
  exact (sortB_perm _).nodup_iff
 unfold datOk
 rw [decide_eq_true h1, decide_eq_true h2, List.all_eq_true.2 fun d hd => ?_]
 ·simp only [Bool.and_true, Bool.true_and]
  exact decide_eq_decide.2 e.symm
 ·obtain ⟨i, hi, rfl⟩ := List.getElem_of_mem hd
  exact h i _ (List.getElem?_eq_getElem hi)
end Go.Proofs.YtikjepodmdaknaaGreatDoor
