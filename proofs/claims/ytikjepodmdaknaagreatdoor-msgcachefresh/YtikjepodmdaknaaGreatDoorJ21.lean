/- Texts of this proof, joined: RcI. -/
import Derived.Deep.RegionHeld3
import Derived.Deep.DeepCutAuto
import Derived.Test.YtikjepodmdaknaaGreatDoorJ20
set_option linter.unusedVariables false
set_option linter.unusedSimpArgs false
/- Layer 16: a set in memory of its own. -/
namespace Go.Proofs.YtikjepodmdaknaaGreatDoor.Rc
open Go.RowKit
section
attribute [local go_sem ↓] app_dd
set_option maxRecDepth 100000 in
set_option maxHeartbeats 4000000 in
theorem clones_in (ds : List ByteArray) (hsz : ∀ d ∈ ds, d.size ≤ 65535) (q : Option Addr) (c : Nat) (hc : ds.length ≤ c ∧ c ≤ maxLen) (hl : ds.length ≤ 1000) (W : World) (hat : TxAt W q ds) : Calls Tryz.prog 95 #[.slice q ds.length c] W fun e w' => ∃ q' c', e = .returned (.slice q' ds.length c') ∧ w'.ownsRow W.heap.size 9 1 (.slice q' ds.length c') ds.length (strs ds) ∧ Below W.heap.size W w' := by
 obtain ⟨N, hN⟩ : ∃ N, W.heap.size = N := ⟨_, rfl⟩
 obtain ⟨n, hn⟩ : ∃ n, ds.length = n := ⟨_, rfl⟩
 have HTx : Hid (∀ i, i < n → ∃ (b off : Nat) (d : ByteArray), q = some ⟨b, off, none⟩ ∧ Hid (ds[i]? = some d ∧ d.size ≤ 65535) ∧ Hid (∀ w, Below N W w → w.cell? ⟨b, off + i, none⟩ = some (.string d))) := fun i hi => by
  obtain ⟨b, off, d, e, h1, h2⟩ := tx_cell hat i (by rw [hn]; exact hi)
  rw [hN] at h2
  exact ⟨b, off, d, e, Hid.mk ⟨h1.out.1, hsz d h1.out.2⟩, h2⟩
 have HSt : Hid (∀ (i : Nat) d, ds[i]? = some d → strs (ds.take (i + 1)) = strs (ds.take i) ++ [.string d]) := fun i d h => by
  obtain ⟨hi, rfl⟩ := List.getElem?_eq_some_iff.1 h
  unfold strs
  rw [List.take_succ_eq_append_getElem hi, List.map_append]
  rfl
 have HFin : Hid (ds.take n = ds) := List.take_of_length_le (by omega)
 have hncd : n ≤ c ∧ c ≤ 9223372036854775807 := by rw [hn] at hc; unfold maxLen at hc; omega
 rw [hn] at hl ⊢
 rw [hN]
 have HC := Hid.mk fun (s : ByteArray) (h : s.size ≤ 65535) (w : World) => clone_in s w h
 have HN := Hid.mk hN
 obtain ⟨V, hV⟩ : ∃ V, V = W := ⟨_, rfl⟩
 have H0 : Hid (Below N W W) := Below.refl _ _
 clear hat hsz hn hc hN hV V
 go_enter Tryz.func95, Tryz.ntmps95
 go_wp2_with fail
 go_loopw [3, 8] (fun lv iv wr => ∃ (i : Nat) (q1 : Option Addr) (c1 : Nat) (wq : World), wq = wr ∧ i ≤ n ∧ iv = .int .i64 (i : Int) ∧ lv = .slice q1 i c1 ∧ Hid (Below N W wq ∧ wq.ownsRow N 9 1 (.slice q1 i c1) i (strs (ds.take i)))) (fun _ iv _ => n - (intOf iv).toNat)
 case atStart => exact ⟨0, none, 0, _, rfl, Nat.zero_le _, rfl, rfl, Below.refl _ _, by rw [List.take_zero]; exact World.ownsRow_nil ..⟩
 case round =>
  obtain ⟨i, q1, c1, wq, rfl, hi, rfl, rfl, HI⟩ := hrel
  by_cases hlt : i < n
  ·have hlz : (i : Int) < (n : Int) := by omega
   have hlz0 : (0 : Int) ≤ (i : Int) := by omega
   have wi : IntKind.i64.wrap ((i : Int) + 1) = ((i + 1 : Nat) : Int) := by rw [IntKind.wrap_i64]; omega
   obtain ⟨b, off, d, rfl, hd, hc⟩ := HTx.out i hlt
   have hcell := hc.out _ HI.out.1
   have HS1 := Hid.mk (HC.out d hd.out.2)
   clear hc
   go_wp2_with fail
   refine (HS1.out _).mono ?_
   rintro e w1 ⟨rfl, hb1⟩
   have hMq : N ≤ wq.heap.size := by rw [← HN.out]; exact (HI.out.1).size
   obtain ⟨q2, c2, w2, ra, ho2, hb2⟩ := txt_app (own_blk HI.out.2 hb1) (Nat.le_trans hMq hb1.size) (by omega) d
   have HE : Hid (Below N W w2 ∧ w2.ownsRow N 9 1 (.slice q2 (i + 1) c2) (i + 1) (strs (ds.take (i + 1)))) := by
    refine ⟨HI.out.1.trans ((hb1.mono hMq).trans hb2), ?_⟩
    rw [HSt.out i d hd.out.1]
    exact ho2
   clear hb1 hMq ho2 hb2 hcell HS1
   go_wp2
   go_roundw
   case rel => exact ⟨i + 1, q2, c2, _, rfl, by omega, by first | rfl | go_num, rfl, HE⟩
   case measure => simp [intOf]; omega
  ·have hlz : ¬ (i : Int) < (n : Int) := by omega
   obtain rfl : i = n := by omega
   have HF : Hid (wq.ownsRow N 9 1 (.slice q1 i c1) i (strs ds) ∧ Below N W wq) := by
    have := HI.out.2
    rw [HFin.out] at this
    exact ⟨this, HI.out.1⟩
   go_wp2
   go_ret
   exact ⟨_, _, rfl, HF.out⟩
end
theorem six_set {w : World} {N : Nat} {c : Array Value} {t : TypeId} (hy : w.heap[N]? = some (.cells c t (0, 0))) (hc : c.size = 6) (v0 v1 v2 v3 v4 v5 : Value) : ((((((w.setCell ⟨N, 0, none⟩ v0).setCell ⟨N, 1, none⟩ v1).setCell ⟨N, 2, none⟩ v2).setCell ⟨N, 3, none⟩ v3).setCell ⟨N, 4, none⟩ v4).setCell ⟨N, 5, none⟩ v5).heap[N]? = some (.cells #[v0, v1, v2, v3, v4, v5] t (0, 0)) := by
 rw [hset (hset (hset (hset (hset (hset hy 0 v0) 1 v1) 2 v2) 3 v3) 4 v4) 5 v5]
 obtain ⟨l⟩ := c
 match l, hc with
 | [a, b, c, d, e, f], _ => rfl
theorem six_cells {w : World} {b : Nat} {x0 x1 x2 x3 x4 x5 : Value} {t : TypeId} (h : w.heap[b]? = some (.cells #[x0, x1, x2, x3, x4, x5] t (0, 0))) : w.cell? ⟨b, 0, none⟩ = some x0 ∧ w.cell? ⟨b, 1, none⟩ = some x1 ∧ w.cell? ⟨b, 2, none⟩ = some x2 ∧ w.cell? ⟨b, 3, none⟩ = some x3 ∧ w.cell? ⟨b, 4, none⟩ = some x4 ∧ w.cell? ⟨b, 5, none⟩ = some x5 := by
 refine ⟨?_, ?_, ?_, ?_, ?_, ?_⟩ <;> (rw [So.cell_blk h]; rfl)
theorem free_at {w : World} {b : Nat} {c : Array Value} {t : TypeId} (h : w.heap[b]? = some (.cells c t (0, 0))) (i : Nat) : w.frozen? ⟨b, i, none⟩ = false := by
 unfold World.frozen?
 rw [show (⟨b, i, none⟩ : Addr).block = b from rfl, h]
 simp
theorem six_free {w : World} {b : Nat} {c : Array Value} {t : TypeId} (h : w.heap[b]? = some (.cells c t (0, 0))) : w.frozen? ⟨b, 0, none⟩ = false ∧ w.frozen? ⟨b, 1, none⟩ = false ∧ w.frozen? ⟨b, 2, none⟩ = false ∧ w.frozen? ⟨b, 3, none⟩ = false ∧ w.frozen? ⟨b, 4, none⟩ = false ∧ w.frozen? ⟨b, 5, none⟩ = false := ⟨free_at h 0, free_at h 1, free_at h 2, free_at h 3, free_at h 4, free_at h 5⟩
theorem cp_fin {W w : World} {N n m : Nat} {D G : List Value} {q1 : Option Addr} {c1 : Nat} {q2 : Option Addr} {c2 : Nat} {c : Array Value} (g : w.heap[N + 1]? = some (.cells c 34 (0, 0))) (h1 : w.ownsRow N 9 1 (.slice q1 n c1) n D) (h2 : w.ownsRow N 9 1 (.slice q2 m c2) m G) (hb : Below N W w) (hc : c.size = 6 := by rfl) (v0 v1 v2 v3 v4 v5 : Value) :
  ((((((w.setCell ⟨N + 1, 0, none⟩ v0).setCell ⟨N + 1, 1, none⟩ v1).setCell ⟨N + 1, 2, none⟩ v2).setCell ⟨N + 1, 3, none⟩ v3).setCell ⟨N + 1, 4, none⟩ v4).setCell ⟨N + 1, 5, none⟩ v5).heap[N + 1]? = some (.cells #[v0, v1, v2, v3, v4, v5] 34 (0, 0)) ∧
  ((((((w.setCell ⟨N + 1, 0, none⟩ v0).setCell ⟨N + 1, 1, none⟩ v1).setCell ⟨N + 1, 2, none⟩ v2).setCell ⟨N + 1, 3, none⟩ v3).setCell ⟨N + 1, 4, none⟩ v4).setCell ⟨N + 1, 5, none⟩ v5).ownsRow N 9 1 (.slice q1 n c1) n D ∧
  ((((((w.setCell ⟨N + 1, 0, none⟩ v0).setCell ⟨N + 1, 1, none⟩ v1).setCell ⟨N + 1, 2, none⟩ v2).setCell ⟨N + 1, 3, none⟩ v3).setCell ⟨N + 1, 4, none⟩ v4).setCell ⟨N + 1, 5, none⟩ v5).ownsRow N 9 1 (.slice q2 m c2) m G ∧
  Below N W ((((((w.setCell ⟨N + 1, 0, none⟩ v0).setCell ⟨N + 1, 1, none⟩ v1).setCell ⟨N + 1, 2, none⟩ v2).setCell ⟨N + 1, 3, none⟩ v3).setCell ⟨N + 1, 4, none⟩ v4).setCell ⟨N + 1, 5, none⟩ v5) := by
 have hs : ∀ (b : Nat), b ≠ N + 1 → ((((((w.setCell ⟨N + 1, 0, none⟩ v0).setCell ⟨N + 1, 1, none⟩ v1).setCell ⟨N + 1, 2, none⟩ v2).setCell ⟨N + 1, 3, none⟩ v3).setCell ⟨N + 1, 4, none⟩ v4).setCell ⟨N + 1, 5, none⟩ v5).heap[b]? = w.heap[b]? := fun b hb => by
  rw [Below.heap_setCell _ _ _ _ hb, Below.heap_setCell _ _ _ _ hb, Below.heap_setCell _ _ _ _ hb, Below.heap_setCell _ _ _ _ hb, Below.heap_setCell _ _ _ _ hb, Below.heap_setCell _ _ _ _ hb]
 have ho : ∀ {v : Value} {k : Nat} {xs : List Value}, w.ownsRow N 9 1 v k xs → ((((((w.setCell ⟨N + 1, 0, none⟩ v0).setCell ⟨N + 1, 1, none⟩ v1).setCell ⟨N + 1, 2, none⟩ v2).setCell ⟨N + 1, 3, none⟩ v3).setCell ⟨N + 1, 4, none⟩ v4).setCell ⟨N + 1, 5, none⟩ v5).ownsRow N 9 1 v k xs := fun h => own_same h fun b c f _ hb => hs b (fun e => by
  subst e
  rw [g] at hb
  simp at hb)
 have hst : ∀ {u : World} (i : Nat) (v : Value), Below N W u → Below N W (u.setCell ⟨N + 1, i, none⟩ v) := fun i v h => h.setCell (p := ⟨N + 1, i, none⟩) (by show N ≤ N + 1; omega) v
 exact ⟨six_set g hc v0 v1 v2 v3 v4 v5, ho h1, ho h2, hst _ _ (hst _ _ (hst _ _ (hst _ _ (hst _ _ (hst _ _ hb)))))⟩
def CpJ (W : World) (N n m : Nat) (x0 : ByteArray) (x1 x2 x3 : Int) (D G : List Value) (w : World) : Prop := ∃ q1 c1 q2 c2, w.heap[N]? = some (.cells #[.string x0, .int .i64 x1, .int .i64 x2, .int .i64 x3, .slice q1 n c1, .slice q2 m c2] 34 (0, 0)) ∧ w.heap[N + 1]? = some (.cells #[.string ⟨#[]⟩, .int .i64 0, .int .i64 0, .int .i64 0, .slice none 0 0, .slice none 0 0] 34 (0, 0)) ∧ w.ownsRow N 9 1 (.slice q1 n c1) n D ∧ w.ownsRow N 9 1 (.slice q2 m c2) m G ∧ Below N W w
theorem cp_mk {W w : World} {N n m : Nat} {x0 : ByteArray} {x1 x2 x3 : Int} {D G : List Value} {qd : Option Addr} {cd : Nat} {qg : Option Addr} {cg : Nat} {q1 : Option Addr} {c1 : Nat} {q2 : Option Addr} {c2 : Nat} (hN : W.heap.size = N)
  (hx : Bx2 W N [.string x0, .int .i64 x1, .int .i64 x2, .int .i64 x3, .slice qd n cd, .slice qg m cg] 34 (N + 1) [.string ⟨#[]⟩, .int .i64 0, .int .i64 0, .int .i64 0, .slice none 0 0, .slice none 0 0] 34 w)
  (h1 : w.ownsRow N 9 1 (.slice q1 n c1) n D) (h2 : w.ownsRow N 9 1 (.slice q2 m c2) m G) : CpJ W N n m x0 x1 x2 x3 D G (((w.setCell ⟨N, 0, none⟩ (.string x0)).setCell ⟨N, 4, none⟩ (.slice q1 n c1)).setCell ⟨N, 5, none⟩ (.slice q2 m c2)) := by
 have hs : ∀ (b : Nat) (i : Nat) (v : Value) (u : World), b ≠ N → (u.setCell ⟨N, i, none⟩ v).heap[b]? = u.heap[b]? := fun b i v u hb => Below.heap_setCell _ _ _ _ hb
 have hr : ∀ (b : Nat), b ≠ N → (((w.setCell ⟨N, 0, none⟩ (.string x0)).setCell ⟨N, 4, none⟩ (.slice q1 n c1)).setCell ⟨N, 5, none⟩ (.slice q2 m c2)).heap[b]? = w.heap[b]? := fun b hb => (hs b _ _ _ hb).trans ((hs b _ _ _ hb).trans (hs b _ _ _ hb))
 have ho : ∀ {v : Value} {k : Nat} {xs : List Value}, w.ownsRow N 9 1 v k xs → (((w.setCell ⟨N, 0, none⟩ (.string x0)).setCell ⟨N, 4, none⟩ (.slice q1 n c1)).setCell ⟨N, 5, none⟩ (.slice q2 m c2)).ownsRow N 9 1 v k xs := fun h => own_same h fun b c f _ hb => hr b (fun e => by
  subst e
  rw [hx.x.hb] at hb
  simp at hb)
 refine ⟨q1, c1, q2, c2, ?_, (hr _ (by omega)).trans hx.y.hb, ho h1, ho h2, ?_⟩
 ·rw [hset (hset (hset hx.x.hb 0 _) 4 _) 5 _]
  rfl
 ·have hb := hx.x.bel
  rw [hN] at hb
  exact ((hb.setCell (p := ⟨N, 0, none⟩) (Nat.le_refl _) _).setCell (p := ⟨N, 4, none⟩) (Nat.le_refl _) _).setCell (p := ⟨N, 5, none⟩) (Nat.le_refl _) _
set_option maxRecDepth 100000 in
set_option maxHeartbeats 4000000 in
theorem copied_in (s : Sv) (hn : s.nm.size ≤ 65535) (hd : ∀ d ∈ s.ds, d.size ≤ 65535) (hg : ∀ d ∈ s.sg, d.size ≤ 65535) (hdl : s.ds.length ≤ 1000) (hgl : s.sg.length ≤ 1000) (qd : Option Addr) (cd : Nat) (qg : Option Addr) (cg : Nat) (W : World) (hat : SvAt W s qd cd qg cg) : Calls Tryz.prog 46 #[.agg (svC s qd cd qg cg).toArray] W fun e w' => ∃ q1 c1 q2 c2, e = .returned (.agg (svC s q1 c1 q2 c2).toArray) ∧ w'.ownsRow W.heap.size 9 1 (.slice q1 s.ds.length c1) s.ds.length (strs s.ds) ∧ w'.ownsRow W.heap.size 9 1 (.slice q2 s.sg.length c2) s.sg.length (strs s.sg) ∧ Below W.heap.size W w' := by
 obtain ⟨V, hV⟩ : ∃ V, (W.alloc (.cells (svC s qd cd qg cg).toArray 34)).alloc (.cells [.string ⟨#[]⟩, .int .i64 0, .int .i64 0, .int .i64 0, .slice none 0 0, .slice none 0 0].toArray 34) = V := ⟨_, rfl⟩
 have X0 : Bx2 W W.heap.size (svC s qd cd qg cg) 34 (W.heap.size + 1) [.string ⟨#[]⟩, .int .i64 0, .int .i64 0, .int .i64 0, .slice none 0 0, .slice none 0 0] 34 V := hV ▸ Bx2.new W _ _ _ _
 obtain ⟨N, hN⟩ : ∃ N, W.heap.size = N := ⟨_, rfl⟩
 have hVs : N ≤ V.heap.size := by rw [← hN]; exact X0.x.bel.size
 have HC : Hid (∀ w, Calls Tryz.prog 94 #[.string s.nm] w fun e w' => e = .returned (.string s.nm) ∧ Below w.heap.size w w') := fun w => clone_in s.nm w hn
 have HD : Hid (∀ w, Below V.heap.size V w → Calls Tryz.prog 95 #[.slice qd s.ds.length cd] w fun e w' => ∃ q' c', e = .returned (.slice q' s.ds.length c') ∧ w'.ownsRow w.heap.size 9 1 (.slice q' s.ds.length c') s.ds.length (strs s.ds) ∧ Below w.heap.size w w') := fun w hb => clones_in s.ds hd qd cd hat.cd hdl w (hat.blk (X0.x.bel.trans (hb.mono X0.x.bel.size))).ds
 have HG : Hid (∀ w, Below V.heap.size V w → Calls Tryz.prog 95 #[.slice qg s.sg.length cg] w fun e w' => ∃ q' c', e = .returned (.slice q' s.sg.length c') ∧ w'.ownsRow w.heap.size 9 1 (.slice q' s.sg.length c') s.sg.length (strs s.sg) ∧ Below w.heap.size w w') := fun w hb => clones_in s.sg hg qg cg hat.cg hgl w (hat.blk (X0.x.bel.trans (hb.mono X0.x.bel.size))).sg
 simp only [svC] at X0 hV ⊢
 obtain ⟨n, hnn⟩ : ∃ n, s.ds.length = n := ⟨_, rfl⟩
 obtain ⟨m, hmm⟩ : ∃ m, s.sg.length = m := ⟨_, rfl⟩
 rw [hnn] at X0 hV HD ⊢
 rw [hmm] at X0 hV HG ⊢
 rw [hN] at X0 ⊢
 generalize strs s.ds = D at *
 generalize strs s.sg = G at *
 generalize s.nm = x0 at *
 generalize s.ty = x1 at *
 generalize s.cl = x2 at *
 generalize s.tl = x3 at *
 have HX : Hid (∀ w, Below V.heap.size V w → Bx2 W N [.string x0, .int .i64 x1, .int .i64 x2, .int .i64 x3, .slice qd n cd, .slice qg m cg] 34 (N + 1) [.string ⟨#[]⟩, .int .i64 0, .int .i64 0, .int .i64 0, .slice none 0 0, .slice none 0 0] 34 w) := fun w hb => X0.blk hb
 have HF : Hid (∀ w, Below V.heap.size V w → (w.frozen? ⟨N, 0, none⟩ = false ∧ w.frozen? ⟨N, 4, none⟩ = false ∧ w.frozen? ⟨N, 5, none⟩ = false) ∧ (w.frozen? ⟨N + 1, 0, none⟩ = false ∧ w.frozen? ⟨N + 1, 1, none⟩ = false ∧ w.frozen? ⟨N + 1, 2, none⟩ = false ∧ w.frozen? ⟨N + 1, 3, none⟩ = false ∧ w.frozen? ⟨N + 1, 4, none⟩ = false ∧ w.frozen? ⟨N + 1, 5, none⟩ = false)) := fun w hb => by
  have := X0.blk hb
  refine ⟨⟨?_, ?_, ?_⟩, ?_, ?_, ?_, ?_, ?_, ?_⟩ <;> unfold World.frozen? <;> first | (rw [this.x.hb]; simp) | (rw [this.y.hb]; simp)
 have HJ : Hid (∀ w q1 c1 q2 c2, Below V.heap.size V w → w.ownsRow N 9 1 (.slice q1 n c1) n D → w.ownsRow N 9 1 (.slice q2 m c2) m G → CpJ W N n m x0 x1 x2 x3 D G (((w.setCell ⟨N, 0, none⟩ (.string x0)).setCell ⟨N, 4, none⟩ (.slice q1 n c1)).setCell ⟨N, 5, none⟩ (.slice q2 m c2))) := fun w q1 c1 q2 c2 hw h1 h2 => cp_mk hN (X0.blk hw) h1 h2
 have HV := Hid.mk hV
 have HB : Hid (Below V.heap.size V V.drew) := (Below.refl _ _).drew
 have HN := Hid.mk hVs
 obtain ⟨⟨y0, y1, y2, y3, y4, y5⟩, yy⟩ := And.intro (HX.out _ HB.out).x.cells6 trivial
 obtain ⟨z0, z1, z2⟩ := (HF.out _ HB.out).1
 clear hV X0 hat hn hd hg hdl hgl hnn hmm hVs yy
 go_enter Tryz.func46, Tryz.ntmps46
 go_upto_region 1 with fail
 (try rw [hN])
 rw [HV.out]
 clear hN
 go_cut [] (fun wx => CpJ W N n m x0 x1 x2 x3 D G wx)
 case first =>
  go_region_with (first
   | (go_at_call 94; refine (HC.out _).mono ?_; rintro e w1 ⟨rfl, b1⟩; replace HB := Hid.mk (HB.out.trans (b1.mono HB.out.size)); (try replace HOd := Hid.mk (own_blk HOd.out b1)); (try replace HOg := Hid.mk (own_blk HOg.out b1)); clear y0 y1 y2 y3 y4 y5 z0 z1 z2; obtain ⟨y0, y1, y2, y3, y4, y5⟩ := (HX.out _ HB.out).x.cells6; obtain ⟨z0, z1, z2⟩ := (HF.out _ HB.out).1)
   | (go_at_call 95; with_reducible refine (HD.out _ HB.out).mono ?_; rintro e w2 ⟨q1, c1, rfl, o1, b1⟩; (try replace HOg := Hid.mk (own_blk HOg.out b1)); have HOd := Hid.mk (own_lowS o1 (Nat.le_trans HN.out HB.out.size)); replace HB := Hid.mk (HB.out.trans (b1.mono HB.out.size)); clear y0 y1 y2 y3 y4 y5 z0 z1 z2; obtain ⟨y0, y1, y2, y3, y4, y5⟩ := (HX.out _ HB.out).x.cells6; obtain ⟨z0, z1, z2⟩ := (HF.out _ HB.out).1)
   | (go_at_call 95; with_reducible refine (HG.out _ HB.out).mono ?_; rintro e w3 ⟨q2, c2, rfl, o1, b1⟩; (try replace HOd := Hid.mk (own_blk HOd.out b1)); have HOg := Hid.mk (own_lowS o1 (Nat.le_trans HN.out HB.out.size)); replace HB := Hid.mk (HB.out.trans (b1.mono HB.out.size)); clear y0 y1 y2 y3 y4 y5 z0 z1 z2; obtain ⟨y0, y1, y2, y3, y4, y5⟩ := (HX.out _ HB.out).x.cells6; obtain ⟨z0, z1, z2⟩ := (HF.out _ HB.out).1))
  all_goals (go_wp2; go_meet; exact HJ.out _ _ _ _ _ HB.out HOd.out HOg.out)
 case rest =>
  obtain ⟨q1, c1, q2, c2, g0, g1, o1, o2, hb⟩ := hcut
  obtain ⟨a0, a1, a2, a3, a4, a5⟩ := six_cells g0
  obtain ⟨b0, b1, b2, b3, b4, b5⟩ := six_cells g1
  obtain ⟨f0, f1, f2, f3, f4, f5⟩ := six_free g1
  have HE := Hid.mk (cp_fin g1 o1 o2 hb)
  clear g0 g1 o1 o2 hb y0 y1 y2 y3 y4 y5 z0 z1 z2 HB HX HF HJ HC HD HG
  go_wp2
  refine bodyPost_ret (results_cell_row Tryz.results46 _ _ (N + 1) 34 _ (0, 0) _ (by rfl) (HE.out _ _ _ _ _ _).1 Tryz.underlying34 rfl (by kernel_rfl)) rfl ?_
  exact ⟨q1, c1, q2, c2, rfl, (HE.out _ _ _ _ _ _).2⟩
end Go.Proofs.YtikjepodmdaknaaGreatDoor.Rc
