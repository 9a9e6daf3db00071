/- Layer 11: the law's own keys: a table and the document's hold the same. -/
import Derived.Test.YtcebljcofkohiaaTbRef3
import Derived.Test.YtcebljcofkohiaaTbAllP
import Derived.Test.YtcebljcofkohiaaTbGoF
import Derived.Deep.RegionHeld3
import Derived.Deep.Cut
namespace Go.Proofs.Ytcebljcofkohiaa
set_option linter.unusedVariables false
open Go.RowKit

theorem kv_get (L : List Ent) (i : Nat) (hi : i < L.length) : (kv L)[i]'(by rw [kv_len]; exact hi) = (L[i].k, L[i].v) := by simp [kv]
theorem KsS.blk {W W' : World} {B X bG bI bX : Nat} {m : Int} {l : KV} {i : Nat} (h : KsS W B X bG bI bX m l i) (hb : Below W.heap.size W W') : KsS W' B X bG bI bX m l i :=
  ⟨h.ref.blk hb, (hb.block _ h.xG.lt).trans h.xG, (hb.block _ h.xI.lt).trans h.xI, (hb.block _ h.xX.lt).trans h.xX, h.ne.1, h.ne.2.1, h.ne.2.2.1, Nat.le_trans h.ne.2.2.2 hb.size⟩

theorem keys_all {V w : World} {T E M nn B X bG bI bX : Nat} {most m : Int} {L : List Ent} (h : Tab V T E M most nn L) (hVw : Below V.heap.size V w) (B1 : Nat) (hB1 : Boxed w B1 24 (pt T)) (h0 : KsS w B X bG bI bX m (kv L) 0) (hG : V.heap.size ≤ bG ∧ V.heap.size ≤ bI) :
    Calls Try.prog 32 #[.func (.func 30) #[] #[pt bG, pt bI, pt bX], pt B1] w fun r w' => r = .returned (.tuple #[]) ∧ KsS w' B X bG bI bX m (kv L) L.length ∧ Below V.heap.size V w' := by
  refine (allP_in (h.blk hVw) B1 hB1 (pt bG) (pt bI) (pt bX) (fun i W => KsS W B X bG bI bX m (kv L) i ∧ Below V.heap.size V W) (fun _ => False) (fun i W hj => ⟨hj.1.blk (Below.refl _ _).drew, hj.2.drew⟩) (fun W hb => ⟨h0.blk hb, hVw.trans (hb.mono hVw.size)⟩) ?_).mono ?_
  · intro i hi W hj
    have ht := h.blk hj.2
    have hm : L[i] ∈ L := List.getElem_mem hi
    refine .inl ⟨L[i].v, now_live ht hm, ht.row.key _ hm, ht.row.val _ hm, ?_⟩
    have hd : KsS W.drew B X bG bI bX m (kv L) i := hj.1.blk (Below.refl _ _).drew
    have := keys1_in hd (by rw [kv_len]; exact hi)
    rw [kv_get L i hi] at this
    refine this.mono ?_
    rintro r W' ⟨rfl, hS, hK⟩
    have hbW : Below V.heap.size V W' := hj.2.drew.trans (hK.below (by exact hj.2.size) (fun b hb hs => by rcases hs with rfl | rfl <;> omega))
    have ht' := h.blk hbW
    refine ⟨true, rfl, fun _ => ⟨hS, hbW⟩, (fun e => by cases e), fun b c t f htt hb => ?_, ht'.row.key _ hm, ht'.row.val _ hm⟩
    refine (hK.same b (blk_lt (w := W.drew) hb) ?_).trans hb
    rintro (rfl | rfl)
    · rw [show W.heap[b]? = _ from hj.1.xG] at hb; cases hb; rcases htt with e | e <;> cases e
    · rw [show W.heap[b]? = _ from hj.1.xI] at hb; cases hb; rcases htt with e | e <;> cases e
  · rintro r w' ⟨rfl, hj | hx⟩
    · exact ⟨rfl, hj.1, hj.2⟩
    · exact hx.elim

set_option maxRecDepth 100000 in
set_option maxHeartbeats 4000000 in
theorem keysL_in {W0 W : World} {T n B X : Nat} {most m : Int} {l : KV} (h : TabK W0 W T most n l) (hr : RefAt W B X m l) (hB : B ≤ W.heap.size) :
    Calls Try.prog 17 #[pt T, pt X] W fun e w' => e = .returned (.bool true) ∧ Below W.heap.size W w' := by
  obtain ⟨E, M, L, ho, rfl⟩ := h
  have ht := ho.tab
  have hll := ht.len
  have b0 : Below W.heap.size W (W.alloc (.cells #[pt X] 28)) := (Below.refl _ _).alloc (Nat.le_refl _) _
  have HK := Hid.mk (keys_in (ht.blk b0))
  have hmf : ∀ (fn : Fn) (first cap : Array Value) (w : World), (Instr.makeFunc fn first cap).run Try.prog w = .ok (.func fn first cap) w := fun _ _ _ _ => rfl
  have HT := Hid.mk ht
  have HRf := Hid.mk hr
  have xX0 : Boxed (W.alloc (.cells #[pt X] 28)) W.heap.size 28 (pt X) := Boxed.new W 28 (pt X)
  clear ht ho hr
  go_enter Try.func17, Try.ntmps17
  go_wp2_with fail
  refine HK.out.mono ?_
  rintro r w1 ⟨⟨v1, rfl, hrow1⟩, b1⟩
  have b01 : Below W.heap.size W w1 := b0.trans (b1.mono b0.size)
  have x1 : Boxed w1 W.heap.size 28 (pt X) := (b1.block _ xX0.lt).trans xX0
  have cx1 := x1.cell
  have hr1 := HRf.out.blk b01
  obtain ⟨q, cap, g1, g2, hlc, hc⟩ := hr1.get
  have cL : w1.cell? ⟨X, 1, none⟩ = some (.slice q L.length cap) := by rw [cell_of_row _ _ _ _ _ _ g1, kv_len]; rfl
  have HLn : Hid (∀ u : World, u.cell? ⟨T, 2, none⟩ = some (.int .i64 (L.length : Int)) → Calls Try.prog 18 #[pt T] u fun e w' => e = .returned (.int .i64 (L.length : Int)) ∧ w' = u) := fun u hu => len_in u T _ hu
  have cT2 := (HT.out.blk b01).c2
  have HR1 := Hid.mk hrow1
  obtain ⟨q1, c1, rfl⟩ := row_shape hrow1
  obtain ⟨np, hnp⟩ : ∃ np, L.length = np := ⟨_, rfl⟩
  rw [hnp] at cL HLn cT2 ⊢
  have HNP := Hid.mk hnp
  have hnb : ((np : Int) != (np : Int)) = false := by simp
  clear hrow1 g1 g2 hc hr1 hnp
  go_wp2
  go_region_held3 (fun u => u.cell? ⟨W.heap.size, 0, none⟩ = some (pt X) ∧ u.cell? ⟨X, 1, none⟩ = some (.slice q np cap) ∧ u.cell? ⟨T, 2, none⟩ = some (.int .i64 (np : Int))) (first | exact ⟨cx1, cL, cT2⟩ | (refine ⟨?_, ?_, ?_⟩ <;> assumption) | go_keep)
    (first | (go_at_call 18; refine (HLn.out _ (by assumption)).mono ?_; rintro r w2 ⟨rfl, rfl⟩))
  clear cx1 cL cT2
  go_upto_region 6 with fail
  obtain ⟨w3, hw3⟩ : ∃ w3, ((w1.alloc (Obj.cells #[Value.int IntKind.i64 0] 3)).alloc (Obj.cells #[Value.bool true] 4)).drew = w3 := ⟨_, rfl⟩
  have b3 : Below w1.heap.size w1 w3 := by rw [← hw3]; exact (((Below.refl _ _).alloc (Nat.le_refl _) _).alloc (by simp) _).drew
  have xI3 : Boxed w3 w1.heap.size 3 (.int .i64 ((0 : Nat) : Int)) := by rw [← hw3]; exact (Boxed.new w1 3 _).alloc _
  have xG3 : Boxed w3 (w1.heap.size + 1) 4 (.bool true) := by
    rw [← hw3]
    have := Boxed.new (w1.alloc (Obj.cells #[Value.int IntKind.i64 0] 3)) 4 (.bool true)
    rw [World.size_alloc] at this
    exact this
  have x3 : Boxed w3 W.heap.size 28 (pt X) := (b3.block _ x1.lt).trans x1
  rw [hw3]
  have hx1l := x1.lt
  have HX3 := Hid.mk (And.intro xI3 (And.intro xG3 x3))
  clear hw3 xI3 xG3 x3 x1
  go_wp2_with fail
  refine (allOf_in _ _).mono ?_
  rintro e w4 ⟨rfl, hw4⟩
  have b4 : Below w3.heap.size w3 w4 := by rw [hw4]; exact (Below.refl _ _).alloc (Nat.le_refl _) _
  have x4 : Boxed w4 w3.heap.size 24 (pt T) := by rw [hw4]; exact Boxed.new _ _ _
  have b14 : Below w1.heap.size w1 w4 := b3.trans (b4.mono b3.size)
  obtain ⟨y1, y2, y3⟩ := HX3.out
  have ht1 := HT.out.blk b01
  have h0 : KsS w4 B X (w1.heap.size + 1) w1.heap.size W.heap.size m (kv L) 0 :=
    ⟨(HRf.out.blk b01).blk b14, (b4.block _ y2.lt).trans y2, (b4.block _ y1.lt).trans y1, (b4.block _ y3.lt).trans y3, by omega, by omega, by omega, by have := b01.size; have := b14.size; omega⟩
  have HAll := Hid.mk (keys_all ht1 b14 w3.heap.size x4 h0 ⟨by omega, by omega⟩)
  clear h0 ht1 y1 y2 y3 x4 hw4 b14
  go_wp2_with fail
  refine HAll.out.mono ?_
  rintro e w5 ⟨rfl, hS5, b5⟩
  have HBB : Hid (Below W.heap.size W w5) := b01.trans (b5.mono b01.size)
  have HS5 := Hid.mk hS5
  have cG := hS5.xG.cell
  have cI := hS5.xI.cell
  have cX := hS5.xX.cell
  obtain ⟨q5, cap5, g1, g2, hlc5, hc5⟩ := hS5.ref.get
  have cL5 : w5.cell? ⟨X, 1, none⟩ = some (.slice q5 np cap5) := by rw [cell_of_row _ _ _ _ _ _ g1, kv_len, HNP.out]; rfl
  rw [HNP.out] at cI
  rw [kv_len, HNP.out] at hlc5
  have HRC : Hid (∀ j, j < np → ∃ g, q5 = some ⟨g, 0, none⟩ ∧ w5.cell? ⟨g, j * 2, none⟩ = some (.string ((ks L).getD j ⟨#[]⟩))) := fun j hj => by
    have hjl : j < L.length := by rw [HNP.out]; exact hj
    obtain ⟨g, e1, _, e2, _⟩ := hc5 j (by rw [kv_len]; exact hjl)
    rw [kv_get L j hjl] at e2
    exact ⟨g, e1, by rw [e2, getD_at _ _ (by simpa [ks] using hjl)]; simp [ks]⟩
  have HKC : Hid (∀ j, j < np → ∃ g, q1 = some ⟨g, 0, none⟩ ∧ w5.cell? ⟨g, j, none⟩ = some (.string ((ks L).getD j ⟨#[]⟩))) := fun j hj => by
    have hjl : j < (ks L).length := by simp [ks, HNP.out]; exact hj
    obtain ⟨g, cc, e1, _, hgl, hce⟩ := row_cells HR1.out (by rw [HNP.out]; omega)
    cases e1
    exact ⟨g, rfl, (b5.cell (p := ⟨g, j, none⟩) hgl).trans (hce j _ (by rw [getD_at _ _ hjl]; simp [hjl]))⟩
  have hnp1 : np ≤ 100001 := by rw [← HNP.out]; exact hll
  clear hS5 g1 g2 hc5 HAll b5 b4 b3
  go_wp2
  go_loopw [9] (fun j wr => ∃ x : Nat, x ≤ np ∧ j = .int .i64 (x : Int) ∧ (∀ a : Addr, wr.cell? a = w5.cell? a) ∧ Below w5.heap.size w5 wr) (fun j _ => np - (intOf j).toNat)
  case atStart => exact ⟨0, Nat.zero_le _, rfl, fun _ => rfl, Below.refl _ _⟩
  case round =>
    obtain ⟨x, hx, rfl, hce, hbr⟩ := hrel
    have k1 := (hce ⟨w1.heap.size + 1, 0, none⟩).trans cG
    have k2 := (hce ⟨w1.heap.size, 0, none⟩).trans cI
    have k3 := (hce ⟨W.heap.size, 0, none⟩).trans cX
    have k4 := (hce ⟨X, 1, none⟩).trans cL5
    by_cases hxn : x < np
    · obtain ⟨g, rfl, e1⟩ := HRC.out x hxn
      obtain ⟨g', rfl, e2⟩ := HKC.out x hxn
      have k5 := (hce ⟨g, x * 2, none⟩).trans e1
      have k6 := (hce ⟨g', x, none⟩).trans e2
      obtain ⟨s, hs⟩ : ∃ s, (ks L).getD x ⟨#[]⟩ = s := ⟨_, rfl⟩
      rw [hs] at k5 k6
      have HCE := Hid.mk hce
      clear hce cG cI cX cL5 e1 e2 hs
      go_wp2
      go_region
      go_wp2
      go_roundw
      case rel => exact ⟨x + 1, hxn, by go_num, fun a => HCE.out a, hbr.drew⟩
      case measure => simp [intOf]; omega
    · obtain rfl : x = np := by omega
      clear hce cG cI cX cL5
      go_wp2
      go_ret
      exact ⟨rfl, HBB.out.trans (hbr.mono HBB.out.size)⟩

end Go.Proofs.Ytcebljcofkohiaa
