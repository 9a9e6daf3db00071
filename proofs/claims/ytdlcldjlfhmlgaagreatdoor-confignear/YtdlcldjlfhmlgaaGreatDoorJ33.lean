/- Texts of this proof, joined: LfJ, LfM, LfU, LfW, LfX. -/
import Derived.Test.YtdlcldjlfhmlgaaGreatDoorJ24
import Derived.Deep.RegionHeld3
import Derived.Test.YtdlcldjlfhmlgaaGreatDoorJ20
import Derived.Test.YtdlcldjlfhmlgaaGreatDoorJ26
import Derived.Test.YtdlcldjlfhmlgaaGreatDoorJ32
set_option linter.unusedVariables false
set_option linter.unusedSimpArgs false
/- Layer 15: Anchor. -/
namespace Go.Proofs.YtdlcldjlfhmlgaaGreatDoor
open Go.RowKit
section
attribute [local go_sem ↓] app_ds
set_option maxRecDepth 100000 in
set_option maxHeartbeats 8000000 in
theorem anchor_in (W : World) (k : Cq) (c : Cf) (hat : CfAt W k c) (hin : CfIn c) (s : ByteArray) (hs : s.size ≤ maxLen) : Calls Tryz.prog 22 #[cfV k c, .string s] W fun e w' => AncP W c s e w' := by
 have HNr : Hid (∀ w, Below W.heap.size W w → Calls Tryz.prog 46 #[.string s, .slice k.q4 c.an.length k.c4, .func (.func 47) #[] #[]] w fun e w' => e = .returned (.int .i64 (plI (bestN (c.an.map An.nm) s c.an.length))) ∧ Below w.heap.size w w') := fun w hb => anNear_in w k.q4 k.c4 c.an (hat.blk hb).an (fun u hu => (hin.an u hu).1) hat.s4 s hs
 have hsh := hat.s4
 have HC0 := Hid.mk (fun n hn => ans_cells hat.an hin.an (n := n) hn)
 have hl4 := hin.l4
 obtain ⟨N, hN⟩ : ∃ N, W.heap.size = N := ⟨_, rfl⟩
 have HNN := Hid.mk hN
 obtain ⟨l, hl⟩ : ∃ l, c.an = l := ⟨_, rfl⟩
 have HNone : Hid (∀ w', bestN (l.map An.nm) s l.length = none → Below N W w' → AncP W c s (.returned (.tuple #[.string ⟨#[]⟩, .slice none 0 0, .bool false])) w') := fun w' h hb => ⟨.inl ⟨by rw [hl]; exact h, rfl⟩, by rw [hN]; exact hb⟩
 have HSome : Hid (∀ w' b (hb : b < l.length) v', bestN (l.map An.nm) s l.length = some b → w'.ownsRow N 68 4 v' (selA l l[b].nm).length (dsC (selA l l[b].nm)) → Below N W w' → AncP W c s (.returned (.tuple #[.string l[b].nm, v', .bool true])) w') := by
  intro w' b hb v' h hr hbel
  subst hl
  exact ⟨.inr ⟨b, hb, h, v', rfl, by rw [hN]; exact hr⟩, by rw [hN]; exact hbel⟩
 obtain ⟨q0, c0, q1, c1, q2, c2, q3, c3, q4, c4⟩ := k
 simp only [cfV, cfC] at HNr HC0 hsh ⊢
 rw [hl] at hsh hl4 HNr HC0 ⊢
 have HNs : Hid (∀ i (hi : i < l.length), (l[i]).nm.size ≤ maxLen) := fun i hi => by
  subst hl
  exact (hin.an _ (List.getElem_mem hi)).1
 obtain ⟨U, hU⟩ : ∃ U, W.alloc (.cells #[.slice q0 c.rt.length c0, .slice q1 c.ru.length c1, .slice q2 c.lc.length c2, .slice q3 c.up.length c3, .slice q4 l.length c4, .int .i64 c.n0, .int .i64 c.n1, .int .i64 c.n2, .int .i64 c.n3] 51) = U := ⟨_, rfl⟩
 have hX : Bx W W.heap.size [.slice q0 c.rt.length c0, .slice q1 c.ru.length c1, .slice q2 c.lc.length c2, .slice q3 c.up.length c3, .slice q4 l.length c4, .int .i64 c.n0, .int .i64 c.n1, .int .i64 c.n2, .int .i64 c.n3] 51 U := hU ▸ Bx.new W _ _
 have HU := Hid.mk hU
 rw [hN] at HNr hX
 have hUb : Below N W U := by rw [← hN]; exact hX.bel
 have HN1 := Hid.mk (HNr.out U hUb)
 obtain ⟨o, ho⟩ : ∃ o, bestN (l.map An.nm) s l.length = o := ⟨_, rfl⟩
 rw [ho] at HNone HSome HN1
 have HO := Hid.mk ho
 obtain ⟨n, hn⟩ : ∃ n, l.length = n := ⟨_, rfl⟩
 have HNL := Hid.mk hn
 have HC := HC0.out n hn
 rw [HNN.out] at HC
 rw [hn] at HN1 HU hsh hl4 ⊢
 have x4 : U.cell? ⟨N, 4, none⟩ = some (.slice q4 n c4) := by rw [← hn]; exact hX.cell 4 _ rfl
 have HXc : Hid (∀ w, Below U.heap.size U w → w.cell? ⟨N, 4, none⟩ = some (.slice q4 n c4) ∧ Below N W w) := fun w hb => ⟨by rw [← hn]; exact (hX.blk hb).cell 4 _ rfl, by have := (hX.blk hb).bel; rw [hN] at this; exact this⟩
 have hn4 : n ≤ c4 := hsh.1
 have hc4 : c4 ≤ 9223372036854775807 := by have := hsh.2.1; unfold maxLen at this; exact this
 clear hat hin hsh hU hX hN HNr ho hn HC0 hl
 go_enter Tryz.func22, Tryz.ntmps22
 go_upto_region 1 with fail
 rw [HNN.out, HU.out]
 go_wp2_with fail
 refine HN1.out.mono ?_
 rintro e w1 ⟨rfl, hb1⟩
 obtain ⟨y4, hbel1⟩ := HXc.out _ hb1
 have HB1 := Hid.mk hbel1
 have hN1 : N ≤ w1.heap.size := by rw [← HNN.out]; exact hbel1.size
 clear x4
 cases o with
 | none =>
  have e1 : plI none = -1 := rfl
  rw [e1]
  clear hb1 hbel1
  go_wp2
  go_ret3
  exact HNone.out _ (by first | rfl | trivial) HB1.out
 | some b =>
  have hbl : b < l.length := bestN_lt HO.out
  have hbn : b < n := by have := HNL.out; omega
  have e1 : plI (some b) = (b : Int) := rfl
  rw [e1]
  have hbz : ¬ (b : Int) < 0 := by omega
  have hbnz : (b : Int) < (n : Int) := by omega
  have hb0 : (0 : Int) ≤ (b : Int) := by omega
  have hbn2 : (b : Int) ≤ (n : Int) := by omega
  have hnc : (n : Int) ≤ (c4 : Int) := by omega
  have hbc : ¬ b = c4 := by omega
  have HSm := Hid.mk (fun w' v' => HSome.out w' b hbl v' rfl)
  obtain ⟨bb, off, rfl, a, HI, HX⟩ := HC.out b hbn
  obtain ⟨d0, _⟩ := HX.out _ hbel1
  have hnm : l[b].nm = a.nm := by
   obtain ⟨⟨hi', e⟩, _⟩ := HI.out
   rw [e]
  rw [hnm] at HSm
  have hdrop := selA_drop HO.out hbl
  rw [hnm] at hdrop
  have hans := HI.out.2.2.1
  have hu := (bestN_is HO.out).2.1
  rw [nmI_map _ hbl, hnm] at hu
  have hnm2 : a.nm.size ≤ 140737488351232 := by
   classical
   obtain ⟨x, y, _, hy, _, e, _⟩ := of_decide_eq_true hu
   have := name_size (s := a.nm) ⟨y, hy, e⟩
   omega
  obtain ⟨own, how⟩ : ∃ own, a.nm = own := ⟨_, rfl⟩
  rw [how] at HSm d0 hdrop hans hnm2
  have HClO := Hid.mk (fun w => cloneL_in own w hnm2)
  have HC2 : Hid (∀ i, i < n → ∃ a : An, Hid ((∃ hi : i < l.length, l[i] = a) ∧ a ∈ l ∧ AnIn a) ∧ Hid (∀ w, Below N W w → w.cell? ⟨bb, off + i * 5, none⟩ = some (.string a.nm) ∧ w.cell? ⟨bb, off + i * 5 + 1, none⟩ = some (.int .i64 a.tg) ∧ w.cell? ⟨bb, off + i * 5 + 2, none⟩ = some (.int .i64 a.al) ∧ w.cell? ⟨bb, off + i * 5 + 3, none⟩ = some (.int .i64 a.kd) ∧ w.cell? ⟨bb, off + i * 5 + 4, none⟩ = some (.string a.dg))) := fun i hi => by
   obtain ⟨b', off', e, a', h1, h2⟩ := HC.out i hi
   cases e
   exact ⟨a', h1, h2⟩
  have H0 : Hid (∀ w : World, w.ownsRow N 68 4 (.slice none 0 0) (selA (l.take (b + 0)) own).length (dsC (selA (l.take (b + 0)) own))) := fun w => by
   rw [Nat.add_zero, hdrop]
   exact World.ownsRow_nil ..
  obtain ⟨m, hm⟩ : ∃ m, n - b = m := ⟨_, rfl⟩
  have hmn : b + m = n := by omega
  have hmz : ((n : Int) - (b : Int)) = (m : Int) := by omega
  have hmz2 : ((n : Int) - (b : Int)).toNat = m := by omega
  have HM := Hid.mk hmn
  have hcz : ((c4 : Int) - (b : Int)).toNat = c4 - b := by omega
  have HC3 : Hid (∀ j, j < m → ∃ a : An, Hid ((∃ hi : b + j < l.length, l[b + j] = a) ∧ AnIn a) ∧ Hid (∀ w, Below N W w → w.cell? ⟨bb, off + b * 5 + j * 5, none⟩ = some (.string a.nm) ∧ w.cell? ⟨bb, off + b * 5 + j * 5 + 1, none⟩ = some (.int .i64 a.tg) ∧ w.cell? ⟨bb, off + b * 5 + j * 5 + 2, none⟩ = some (.int .i64 a.al) ∧ w.cell? ⟨bb, off + b * 5 + j * 5 + 3, none⟩ = some (.int .i64 a.kd) ∧ w.cell? ⟨bb, off + b * 5 + j * 5 + 4, none⟩ = some (.string a.dg))) := fun j hj => by
   obtain ⟨a', h1, h2⟩ := HC2.out (b + j) (by omega)
   refine ⟨a', ⟨h1.out.1, h1.out.2.2⟩, fun w hb => ?_⟩
   have := h2.out w hb
   rw [show off + (b + j) * 5 = off + b * 5 + j * 5 by omega] at this
   exact this
  have HSel : Hid (∀ j (hi : b + j < l.length), selA (l.take (b + (j + 1))) own = if eqF l[b + j].nm own then selA (l.take (b + j)) own ++ [l[b + j]] else selA (l.take (b + j)) own) := fun j hi => selA_snoc l own hi
  have HLen : Hid (∀ j, (selA (l.take (b + j)) own).length * 56 ≤ 140737488353280) := fun j => by
   have h1 := selA_len (l.take (b + j)) own
   have h2 : (l.take (b + j)).length ≤ l.length := List.length_take_le' _ _
   have h3 := HNL.out
   have h4 := Nat.mul_le_mul_right 56 (Nat.le_trans h1 h2)
   rw [h3] at h4
   exact Nat.le_trans h4 hl4
  have HEnd : Hid (selA (l.take (b + m)) own = selA l own) := by
   show _ = _
   rw [List.take_of_length_le (by have := HNL.out; omega)]
  clear hb1 hbel1 HC HC2 HI HX hnm hdrop hu how HSome HNone hnm2 hl4 hmn
  go_upto_region 7 with fail
  clear y4 d0 hmz hmz2 hcz
  go_loopw [9, 29] (fun lv iv wr => ∃ (j : Nat) (lw : Value) (u : World), lw = lv ∧ u = wr ∧ j ≤ m ∧ iv = .int .i64 (j : Int) ∧ Hid (u.ownsRow N 68 4 lv (selA (l.take (b + j)) own).length (dsC (selA (l.take (b + j)) own))) ∧ Hid (Below N W u)) (fun _ iv _ => m - (intOf iv).toNat)
  case atStart => exact ⟨0, _, _, rfl, rfl, Nat.zero_le _, rfl, H0.out _, HB1.out⟩
  case round =>
   obtain ⟨j, lv, u, hlv, rfl, hj, rfl, HR, HU⟩ := hrel
   subst hlv
   have hNu : N ≤ u.heap.size := by rw [← HNN.out]; exact HU.out.size
   by_cases hlt : j < m
   ·have hlz : (j : Int) < (m : Int) := by omega
    have wi : IntKind.i64.wrap ((j : Int) + 1) = ((j + 1 : Nat) : Int) := by rw [IntKind.wrap_i64]; omega
    obtain ⟨a, HI, HX⟩ := HC3.out j hlt
    obtain ⟨d0, d1, d2, d3, d4⟩ := HX.out _ HU.out
    have hns := HI.out.2.1
    have hds := HI.out.2.2.1
    have HSj : Hid (selA (l.take (b + (j + 1))) own = if eqF a.nm own then selA (l.take (b + j)) own ++ [a] else selA (l.take (b + j)) own) := by
     obtain ⟨⟨hi', e⟩, _⟩ := HI.out
     have := HSel.out j hi'
     rw [e] at this
     exact this
    have HAp := Hid.mk (fun (w : World) (h : w.ownsRow N 68 4 lv (selA (l.take (b + j)) own).length (dsC (selA (l.take (b + j)) own))) (hM : N ≤ w.heap.size) => ds_app h hM (by have := HLen.out j; omega) a)
    obtain ⟨nm0, tg, al, kd, dg⟩ := a
    (try simp only at d0 d1 d2 d3 d4)
    (try simp only at hns)
    (try simp only at hds)
    (try simp only at HSj)
    (try simp only at HAp)
    have HEq := Hid.mk (nequal_in nm0 own hns hans)
    have HCl := Hid.mk (fun w => cloneL_in dg w hds)
    obtain ⟨V1, hV1⟩ : ∃ V1, u.alloc (.cells #[.string nm0, .int .i64 tg, .int .i64 al, .int .i64 kd, .string dg] 71) = V1 := ⟨_, rfl⟩
    have X0 : Bx u u.heap.size [.string nm0, .int .i64 tg, .int .i64 al, .int .i64 kd, .string dg] 71 V1 := hV1 ▸ Bx.new u _ _
    have HV1 := Hid.mk hV1
    obtain ⟨Y, hY⟩ : ∃ Y, u.heap.size = Y := ⟨_, rfl⟩
    have HY := Hid.mk hY
    rw [hY] at X0
    have hNY : N ≤ Y := by omega
    have x0 := X0.cell 0 _ rfl
    have HK : Hid (∀ w, Below V1.heap.size V1 w → Below N W w ∧ N ≤ w.heap.size ∧ w.heap[Y]? = some (.cells #[.string nm0, .int .i64 tg, .int .i64 al, .int .i64 kd, .string dg] 71 (0, 0)) ∧ w.ownsRow N 68 4 lv (selA (l.take (b + j)) own).length (dsC (selA (l.take (b + j)) own))) := fun w hb => by
     have h1 : N ≤ V1.heap.size := Nat.le_trans hNu X0.bel.size
     exact ⟨HU.out.trans ((X0.bel.mono hNu).trans (hb.mono h1)), Nat.le_trans h1 hb.size, (X0.blk hb).hb, own_blk (own_blk HR.out X0.bel) hb⟩
    clear hV1 hY X0 hns hds
    go_upto_region 9 with fail
    rw [HV1.out, HY.out]
    clear d0 d1 d2 d3 d4
    cases he : eqF nm0 own with
    | false =>
     rw [he] at HEq HSj
     go_wp2_with fail
     refine (HEq.out _).mono ?_
     rintro e w2 ⟨rfl, hb2⟩
     obtain ⟨k1, k2, k3, k4⟩ := HK.out _ hb2
     have HE : Hid (w2.ownsRow N 68 4 lv (selA (l.take (b + (j + 1))) own).length (dsC (selA (l.take (b + (j + 1))) own))) := by rw [HSj.out]; exact k4
     have HB2 := Hid.mk k1
     clear hb2 k1 k2 k3 k4 he x0
     go_wp2
     go_roundw
     case rel => exact ⟨j + 1, _, _, rfl, rfl, by omega, by first | rfl | go_num, HE, HB2⟩
     case measure => simp [intOf]; omega
    | true =>
     rw [he] at HEq HSj
     go_wp2_with fail
     refine (HEq.out _).mono ?_
     rintro e w2 ⟨rfl, hb2⟩
     have k3 := (HK.out _ hb2).2.2.1
     have x4 : w2.cell? ⟨Y, 4, none⟩ = some (.string dg) := by rw [So.cell_blk k3]; rfl
     have HB2 := Hid.mk hb2
     clear hb2 k3 x0 he
     go_wp2_with fail
     refine (HCl.out _).mono ?_
     rintro e w3 ⟨rfl, hb3⟩
     have HB3 : Hid (Below V1.heap.size V1 w3) := HB2.out.trans (hb3.mono HB2.out.size)
     obtain ⟨k1, k2, k3, k4⟩ := HK.out _ HB3.out
     have f4 := frozenU k3 4
     have y4 : w3.cell? ⟨Y, 4, none⟩ = some (.string dg) := by rw [So.cell_blk k3]; rfl
     obtain ⟨Wx, hWx⟩ : ∃ Wx, w3.setCell ⟨Y, 4, none⟩ (.string dg) = Wx := ⟨_, rfl⟩
     have hsx : w3.heap.size = Wx.heap.size := by rw [← hWx]; simp
     have hk3 : Wx.heap[Y]? = some (.cells #[.string nm0, .int .i64 tg, .int .i64 al, .int .i64 kd, .string dg] 71 (0, 0)) := by rw [← hWx]; exact hset k3 4 _
     have hbx : Below N W Wx := by rw [← hWx]; exact k1.setCell (p := ⟨Y, 4, none⟩) hNY _
     have hrx : Wx.ownsRow N 68 4 lv (selA (l.take (b + j)) own).length (dsC (selA (l.take (b + j)) own)) := by
      rw [← hWx]
      exact own_same k4 fun b' c' f' _ hc => Below.heap_setCell _ _ _ _ (fun e => by obtain rfl : b' = Y := e; rw [k3] at hc; cases hc)
     have z1 : Wx.cell? ⟨Y, 1, none⟩ = some (.int .i64 tg) := by rw [So.cell_blk hk3]; rfl
     have z2 : Wx.cell? ⟨Y, 2, none⟩ = some (.int .i64 al) := by rw [So.cell_blk hk3]; rfl
     have z3 : Wx.cell? ⟨Y, 3, none⟩ = some (.int .i64 kd) := by rw [So.cell_blk hk3]; rfl
     have z4 : Wx.cell? ⟨Y, 4, none⟩ = some (.string dg) := by rw [So.cell_blk hk3]; rfl
     have hNx : N ≤ Wx.heap.size := by rw [← hsx]; exact k2
     obtain ⟨v', w4, hrun, hown, hb4⟩ := HAp.out Wx hrx hNx
     have HE : Hid (w4.ownsRow N 68 4 v' (selA (l.take (b + (j + 1))) own).length (dsC (selA (l.take (b + (j + 1))) own))) := by rw [HSj.out]; exact hown
     have HB4 : Hid (Below N W w4) := hbx.trans hb4
     have HWx := Hid.mk hWx
     clear hb3 k1 k2 k3 k4 hWx hsx hk3 hbx hrx hown hb4
     go_upto_region 11 with fail
     rw [HWx.out]
     clear x4 y4 f4
     go_wp2
     go_roundw
     case rel => exact ⟨j + 1, _, _, rfl, rfl, by omega, by first | rfl | go_num, HE, HB4⟩
     case measure => simp [intOf]; omega
   ·have hlz : ¬ (j : Int) < (m : Int) := by omega
    have HE : Hid (u.ownsRow N 68 4 lv (selA l own).length (dsC (selA l own))) := by
     have := HR.out
     rw [show j = m by omega, HEnd.out] at this
     exact this
    go_wp2_with fail
    refine (HClO.out _).mono ?_
    rintro e w2 ⟨rfl, hb2⟩
    have HE2 := Hid.mk (own_blk HE.out hb2)
    have HB2 : Hid (Below N W w2) := HU.out.trans (hb2.mono hNu)
    clear hb2
    go_wp2
    go_ret3
    exact HSm.out _ _ HE2.out HB2.out
end
end Go.Proofs.YtdlcldjlfhmlgaaGreatDoor
/- Layer 15: the document's Upstream and Anchor (guidepostref15). -/
namespace Go.Proofs.YtdlcldjlfhmlgaaGreatDoor
open Go.RowKit
section
attribute [local go_sem ↓] app_ds
end
end Go.Proofs.YtdlcldjlfhmlgaaGreatDoor
/- Layer 15: ConfigFinds' walk. -/
namespace Go.Proofs.YtdlcldjlfhmlgaaGreatDoor
open Go.RowKit
noncomputable def ancO (c : Cf) (s : ByteArray) : Option An := (bestN (c.an.map An.nm) s c.an.length).bind fun b => c.an[b]?
noncomputable def ancN (c : Cf) (s : ByteArray) : ByteArray := match ancO c s with | none => ⟨#[]⟩ | some a => a.nm
noncomputable def ancL (c : Cf) (s : ByteArray) : List An := match ancO c s with | none => [] | some a => selA c.an a.nm
noncomputable def ancB (c : Cf) (s : ByteArray) : Bool := (ancO c s).isSome
theorem anc_form {W : World} {c : Cf} {s : ByteArray} {e : Ending} {w' : World} (h : AncP W c s e w') : ∃ v, e = .returned (.tuple #[.string (ancN c s), v, .bool (ancB c s)]) ∧ w'.ownsRow W.heap.size 68 4 v (ancL c s).length (dsC (ancL c s)) ∧ Below W.heap.size W w' := by
 obtain ⟨h1 | ⟨b, hb, h1, v', he, hr⟩, hbel⟩ := h
 ·have ho : ancO c s = none := by unfold ancO; rw [h1.1]; rfl
  refine ⟨.slice none 0 0, ?_, ?_, hbel⟩
  ·rw [h1.2]; unfold ancN ancB; rw [ho]; rfl
  ·unfold ancL; rw [ho]; exact World.ownsRow_nil ..
 ·have ho : ancO c s = some c.an[b] := by unfold ancO; rw [h1]; exact List.getElem?_eq_getElem hb
  refine ⟨v', ?_, ?_, hbel⟩
  ·rw [he]; unfold ancN ancB; rw [ho]; rfl
  ·unfold ancL; rw [ho]; exact hr
theorem adNe_same (v : Bool) (h l : Nat) (W : World) : (A.adNeV (.agg #[.bool v, .int .u64 (h : Int), .int .u64 (l : Int)]) (.agg #[.bool v, .int .u64 (h : Int), .int .u64 (l : Int)])).run Tryz.prog W = .ok (.bool false) W := by
 have := A.adNeV_run W v v h l h l
 have e : ∀ {x : A.Ad} (i : Decidable (x = x)), @decide _ i = true := fun i => decide_eq_true rfl
 rw [e] at this
 exact this
def dsNeV (x y : Value) : Sem Value := binOp .neq 68 x y
theorem bin_dsn (x y : Value) : binOp .neq 68 x y = dsNeV x y := rfl
set_option maxRecDepth 100000 in
theorem dsEq_same (d : Nat) (tg al kd : Int) (dg : ByteArray) (W : World) : (Op.equalIn (d + 3) 68 (.agg #[.int .i64 tg, .int .i64 al, .int .i64 kd, .string dg]) (.agg #[.int .i64 tg, .int .i64 al, .int .i64 kd, .string dg])).run Tryz.prog W = .ok true W := by
 have hu : Tryz.prog.underlying 68 = some (.struct (Tryz.prog.fieldsOf 68)) := by kernel_rfl
 have hst : Tryz.prog.stoodInHeld 68 = false := by kernel_rfl
 obtain ⟨f1, f2, f3, f4, hf, n1, n2, n3, n4, t1, t2, t3, t4, o1, o2, o3, o4⟩ : ∃ f1 f2 f3 f4 : Field, (Tryz.prog.fieldsOf 68).toList = [f1, f2, f3, f4] ∧ f1.name = "Tag" ∧ f2.name = "Alg" ∧ f3.name = "Kind" ∧ f4.name = "Digest" ∧ f1.type = 3 ∧ f2.type = 3 ∧ f3.type = 3 ∧ f4.type = 9 ∧ f1.offset = 0 ∧ f2.offset = 1 ∧ f3.offset = 2 ∧ f4.offset = 3 :=
  ⟨(Tryz.prog.fieldsOf 68)[0]!, (Tryz.prog.fieldsOf 68)[1]!, (Tryz.prog.fieldsOf 68)[2]!, (Tryz.prog.fieldsOf 68)[3]!, by kernel_rfl, by kernel_rfl, by kernel_rfl, by kernel_rfl, by kernel_rfl, by kernel_rfl, by kernel_rfl, by kernel_rfl, by kernel_rfl, by kernel_rfl, by kernel_rfl, by kernel_rfl, by kernel_rfl⟩
 replace n1 : f1.name ≠ "_" := by rw [n1]; simp
 replace n2 : f2.name ≠ "_" := by rw [n2]; simp
 replace n3 : f3.name ≠ "_" := by rw [n3]; simp
 replace n4 : f4.name ≠ "_" := by rw [n4]; simp
 have ui : Tryz.prog.underlying 3 = some (.int .i64) := by kernel_rfl
 have us : Tryz.prog.underlying 9 = some .string := by kernel_rfl
 have pi : Tryz.prog.plainKey 3 = true := by kernel_rfl
 have ps : Tryz.prog.plainKey 9 = true := by kernel_rfl
 have q0 : (part 3 #[.int .i64 tg, .int .i64 al, .int .i64 kd, .string dg] 0).run Tryz.prog W = .ok (.int .i64 tg) W := run_part_plain W pi rfl
 have q1 : (part 3 #[.int .i64 tg, .int .i64 al, .int .i64 kd, .string dg] 1).run Tryz.prog W = .ok (.int .i64 al) W := run_part_plain W pi rfl
 have q2 : (part 3 #[.int .i64 tg, .int .i64 al, .int .i64 kd, .string dg] 2).run Tryz.prog W = .ok (.int .i64 kd) W := run_part_plain W pi rfl
 have q3 : (part 9 #[.int .i64 tg, .int .i64 al, .int .i64 kd, .string dg] 3).run Tryz.prog W = .ok (.string dg) W := run_part_plain W ps rfl
 rw [run_equalIn_struct W (d + 2) _ _ _ hu hst, hf]
 rw [A.eqFields_cons n1, t1, o1, Sem.run_bind, q0, Result.andThen_ok, Sem.run_bind, q0, Result.andThen_ok, Sem.run_bind, run_equalIn_int W (d + 1) _ .i64 .i64 _ _ ui, Result.andThen_ok, beq_self_eq_true, if_neg (by simp)]
 rw [A.eqFields_cons n2, t2, o2, Sem.run_bind, q1, Result.andThen_ok, Sem.run_bind, q1, Result.andThen_ok, Sem.run_bind, run_equalIn_int W (d + 1) _ .i64 .i64 _ _ ui, Result.andThen_ok, beq_self_eq_true, if_neg (by simp)]
 rw [A.eqFields_cons n3, t3, o3, Sem.run_bind, q2, Result.andThen_ok, Sem.run_bind, q2, Result.andThen_ok, Sem.run_bind, run_equalIn_int W (d + 1) _ .i64 .i64 _ _ ui, Result.andThen_ok, beq_self_eq_true, if_neg (by simp)]
 rw [A.eqFields_cons n4, t4, o4, Sem.run_bind, q3, Result.andThen_ok, Sem.run_bind, q3, Result.andThen_ok, Sem.run_bind, run_equalIn_string W (d + 1) _ _ _ us, Result.andThen_ok, beq_self_eq_true, if_neg (by simp), Op.eqFields, Sem.run_pure]
theorem dsNe_same (tg al kd : Int) (dg : ByteArray) (W : World) : (dsNeV (.agg #[.int .i64 tg, .int .i64 al, .int .i64 kd, .string dg]) (.agg #[.int .i64 tg, .int .i64 al, .int .i64 kd, .string dg])).run Tryz.prog W = .ok (.bool false) W := by
 unfold dsNeV
 rw [run_neq_struct, dsEq_same 9997]
 rfl
section
attribute [local go_sem ↓] A.bin_adn bin_dsn
attribute [local go_sem] adNe_same dsNe_same
end
end Go.Proofs.YtdlcldjlfhmlgaaGreatDoor
/- Layer 15: ConfigNear: one element more, in either order; what Upstream answers, in one form. -/
namespace Go.Proofs.YtdlcldjlfhmlgaaGreatDoor
open Go.RowKit
theorem step_aUp {ops : Array Oper} {o : Oper} {a : Act} {w : World} {K : Act → World → Prop} {Q : Exit → Act → World → Prop} {E : Prop} (hg : o.guard = none) (s x : Operand) (hop : o.op = Op.call { callee := Callee.builtin Builtin.append, args := #[s, x], argTypes := #[48, 48] }) (hty : o.type = 48) (vs vx v' : Value) (w' : World) (hs : a.eval s = vs) (hx : a.eval x = vx) (hrun : (aUp #[vs, vx]).run Tryz.prog w = .ok v' w') (hK : K (a.put o.dst v') w') :
  if Region.wanted o (yielded ops a.tmps) = true then Oper.wp Tryz.prog o a w K Q else E := by
 have hw : Region.wanted o (yielded ops a.tmps) = true := by simp [Region.wanted, hg]
 rw [if_pos hw]
 unfold aUp at hrun
 unfold Oper.wp execOp
 simp only [hop, hty, resolve, invoke, builtin, Sem.run_bind, Sem.run_pure, Result.andThen_ok, List.map_toArray, List.map_cons, List.map_nil, hs, hx, hrun]
 exact hK
theorem step_aAn {ops : Array Oper} {o : Oper} {a : Act} {w : World} {K : Act → World → Prop} {Q : Exit → Act → World → Prop} {E : Prop} (hg : o.guard = none) (s x : Operand) (hop : o.op = Op.call { callee := Callee.builtin Builtin.append, args := #[s, x], argTypes := #[49, 49] }) (hty : o.type = 49) (vs vx v' : Value) (w' : World) (hs : a.eval s = vs) (hx : a.eval x = vx) (hrun : (aAn #[vs, vx]).run Tryz.prog w = .ok v' w') (hK : K (a.put o.dst v') w') :
  if Region.wanted o (yielded ops a.tmps) = true then Oper.wp Tryz.prog o a w K Q else E := by
 have hw : Region.wanted o (yielded ops a.tmps) = true := by simp [Region.wanted, hg]
 rw [if_pos hw]
 unfold aAn at hrun
 unfold Oper.wp execOp
 simp only [hop, hty, resolve, invoke, builtin, Sem.run_bind, Sem.run_pure, Result.andThen_ok, List.map_toArray, List.map_cons, List.map_nil, hs, hx, hrun]
 exact hK
theorem rows_two' {α : Type} {sz bytes M : Nat} {R : World → α → List Value → Prop} {t e : TypeId} {z : Value} (hz : 0 < sz) (ok : RowOk sz M R) (ht : Tryz.prog.underlying t = some (.slice e)) (info : (Tryz.prog.info? e).map (fun i => (i.zero, i.size, i.bytes)) = some (some z, sz, bytes)) (hzs : z.cells.size = sz) {W : World} (hM : M ≤ W.heap.size) {q : Option Addr} {cap : Nat} {l : List α} (h : RowsAt sz R W q l) (hsh : ShC l.length cap q) (hb : (l.length + 1) * bytes ≤ 140737488355328) (hm : l.length + 1 ≤ maxLen) {x : α} {row : List Value} (hx : R W x row) :
  ∃ v1 w1 q2 c2 w2, (Builtin.append_ #[t, t] t #[.slice none 0 0, .slice q l.length cap]).run Tryz.prog (W.alloc (.cells row.toArray e)) = .ok v1 w1 ∧ (Builtin.append_ #[t, t] t #[v1, .slice (some ⟨W.heap.size, 0, none⟩) 1 1]).run Tryz.prog w1 = .ok (.slice q2 (l.length + 1) c2) w2 ∧ Below W.heap.size W w1 ∧ Hid (RowsAt sz R w2 q2 (l ++ [x]) ∧ ShC (l.length + 1) c2 q2 ∧ Below W.heap.size W w2 ∧ ∀ a, q2 = some a → W.heap.size ≤ a.block) := by
 have bU : Below W.heap.size W (W.alloc (.cells row.toArray e)) := (Below.refl _ _).alloc (Nat.le_refl _) _
 have hnew := heap_alloc_new W (.cells row.toArray e)
 have hlt : W.heap.size < (W.alloc (.cells row.toArray e)).heap.size := (Array.getElem?_eq_some_iff.1 hnew).1
 have hM1 : M ≤ (W.alloc (.cells row.toArray e)).heap.size := Nat.le_trans hM bU.size
 obtain ⟨v1, w1, hrun, hb1, rows, hlen, hall, hR, hone, ho⟩ := rows_copy hz ok ht info hzs hM1 (rows_blk ok h bU hM) hsh (by rw [Nat.add_mul] at hb; omega) (by omega)
 obtain ⟨v2, w2, hrun2, hb2, hR2, hall2, ho2, _⟩ := rows_snoc hz ok ht info hzs hM1 hlen hall hR ho hb1.size (ok.blk _ _ _ _ ((bU.mono hM).trans (hb1.mono hM1)) hx) (X := W.heap.size) (fun j u hu => by
  have e1 : w1.cell? ⟨W.heap.size, j, none⟩ = (W.alloc (.cells row.toArray e)).cell? ⟨W.heap.size, j, none⟩ := hb1.cell (p := ⟨W.heap.size, j, none⟩) hlt
  rw [e1, So.cell_blk hnew, ← hu]
  simp) hb hm
 obtain ⟨g, cap2, rfl, hg, hgl, hrows, hs2⟩ := rows_own (l := l ++ [x]) hz hall2 (by simp [hlen]) (by simp) (by omega) hR2 ho2
 have h1 : Below W.heap.size W w1 := bU.trans (hb1.mono (Nat.le_of_lt hlt))
 exact ⟨v1, w1, _, _, w2, hrun, hrun2, h1, hrows, hs2, h1.trans (hb2.mono (Nat.le_of_lt hlt)), fun a ha => by cases ha; show W.heap.size ≤ g; omega⟩
noncomputable def upO (c : Cf) (s : ByteArray) : Option Up := (bestN (c.up.map Up.nm) s c.up.length).bind fun b => c.up[b]?
noncomputable def upN (c : Cf) (s : ByteArray) : ByteArray := match upO c s with | none => ⟨#[]⟩ | some a => a.nm
noncomputable def upB (c : Cf) (s : ByteArray) : Bool := (upO c s).isSome
theorem up_form {W : World} {c : Cf} {s : ByteArray} {e : Ending} {w' : World} (h : UpP W c s e w') : ∃ q n cc f, e = .returned (.tuple #[.agg #[.string (upN c s), .slice q n cc, .bool f], .bool (upB c s)]) ∧ Below W.heap.size W w' := by
 obtain ⟨⟨h1, he⟩ | ⟨b, hb, h1, v', he, hr⟩, hbel⟩ := h
 ·have ho : upO c s = none := by unfold upO; rw [h1]; rfl
  refine ⟨none, 0, 0, false, ?_, hbel⟩
  rw [he]; unfold upN upB; rw [ho]; rfl
 ·have ho : upO c s = some c.up[b] := by unfold upO; rw [h1]; exact List.getElem?_eq_getElem hb
  obtain ⟨q, cc, rfl⟩ := own_form hr
  refine ⟨q, c.up[b].sv.length, cc, c.up[b].fw, ?_, hbel⟩
  rw [he]; unfold upN upB; rw [ho]; rfl
theorem anc_form' {W : World} {c : Cf} {s : ByteArray} {e : Ending} {w' : World} (h : AncP W c s e w') : ∃ q cc, e = .returned (.tuple #[.string (ancN c s), .slice q (ancL c s).length cc, .bool (ancB c s)]) ∧ Below W.heap.size W w' := by
 obtain ⟨v, he, hr, hb⟩ := anc_form h
 obtain ⟨q, cc, rfl⟩ := own_form hr
 exact ⟨q, cc, he, hb⟩
theorem upN_size {c : Cf} (hin : CfIn c) (s : ByteArray) : (upN c s).size ≤ maxLen := by
 unfold upN
 split
 ·exact Nat.zero_le _
 ·rename_i a h
  unfold upO at h
  obtain ⟨b, _, h2⟩ := Option.bind_eq_some_iff.1 h
  exact (hin.up a (List.mem_of_getElem? h2)).1
theorem ancN_size {c : Cf} (hin : CfIn c) (s : ByteArray) : (ancN c s).size ≤ maxLen := by
 unfold ancN
 split
 ·exact Nat.zero_le _
 ·rename_i a h
  unfold ancO at h
  obtain ⟨b, _, h2⟩ := Option.bind_eq_some_iff.1 h
  exact (hin.an a (List.mem_of_getElem? h2)).1
theorem upN_is (c : Cf) (s : ByteArray) : if upB c s = true then undF s (upN c s) = true else upN c s = ⟨#[]⟩ := by
 unfold upB upN upO
 cases h : bestN (c.up.map Up.nm) s c.up.length with
 | none => rfl
 | some b =>
  have hb : b < c.up.length := bestN_lt h
  rw [Option.bind_some, List.getElem?_eq_getElem hb]
  exact bestU_und h hb
theorem ancN_is (c : Cf) (s : ByteArray) (h : ancB c s = true) : undF s (ancN c s) = true ∧ 0 < (ancL c s).length := by
 unfold ancB at h
 unfold ancN ancL
 unfold ancO at h ⊢
 cases hb : bestN (c.an.map An.nm) s c.an.length with
 | none => rw [hb] at h; cases h
 | some b =>
  have hlt : b < c.an.length := bestN_lt hb
  rw [Option.bind_some, List.getElem?_eq_getElem hlt]
  have hu := bestA_und hb hlt
  exact ⟨hu, selA_pos hlt hu⟩
theorem upO_app {c c' : Cf} {s : ByteArray} {x : Up} (hc : c'.up = c.up ++ [x]) (h : undF s x.nm = false) : upO c' s = upO c s := by
 unfold upO
 rw [hc, bestU_app h]
 cases hb : bestN (c.up.map Up.nm) s c.up.length with
 | none => rfl
 | some b =>
  have hlt : b < c.up.length := bestN_lt hb
  rw [Option.bind_some, Option.bind_some, List.getElem?_append_left hlt]
theorem ancO_app {c c' : Cf} {s : ByteArray} {x : An} (hc : c'.an = c.an ++ [x]) (h : undF s x.nm = false) : ancN c' s = ancN c s ∧ ancB c' s = ancB c s ∧ (ancL c' s).length = (ancL c s).length := by
 have ho : ancO c' s = ancO c s := by
  unfold ancO
  rw [hc, bestA_app h]
  cases hb : bestN (c.an.map An.nm) s c.an.length with
  | none => rfl
  | some b =>
   have hlt : b < c.an.length := bestN_lt hb
   rw [Option.bind_some, Option.bind_some, List.getElem?_append_left hlt]
 unfold ancN ancB ancL
 rw [ho]
 refine ⟨rfl, rfl, ?_⟩
 cases hb : bestN (c.an.map An.nm) s c.an.length with
 | none => unfold ancO; rw [hb]; rfl
 | some b =>
  have hlt : b < c.an.length := bestN_lt hb
  unfold ancO
  rw [hb, Option.bind_some, List.getElem?_eq_getElem hlt]
  show (selA c'.an c.an[b].nm).length = (selA c.an c.an[b].nm).length
  rw [hc, selA_app h (bestA_und hb hlt)]
end Go.Proofs.YtdlcldjlfhmlgaaGreatDoor
/- Layer 15: ConfigNear: the boxes that stay, and one Upstream and one Anchor more. -/
namespace Go.Proofs.YtdlcldjlfhmlgaaGreatDoor
open Go.RowKit
abbrev upC (u : Up) (qs : Option Addr) (cs : Nat) : Array Value := #[.string u.nm, .slice qs u.sv.length cs, .bool u.fw]
abbrev anC (a : An) : Array Value := #[.string a.nm, .int .i64 a.tg, .int .i64 a.al, .int .i64 a.kd, .string a.dg]
structure NB (W : World) (N : Nat) (k : Cq) (c : Cf) (u : Up) (qs : Option Addr) (cs : Nat) (a : An) (w : World) : Prop where
 bel : Below N W w
 lt : N + 2 < w.heap.size
 b0 : w.heap[N]? = some (.cells (cfC k c) 51 (0, 0))
 b1 : w.heap[N + 1]? = some (.cells (upC u qs cs) 61 (0, 0))
 b2 : w.heap[N + 2]? = some (.cells (anC a) 71 (0, 0))
theorem NB.to {W : World} {N : Nat} {k : Cq} {c : Cf} {u : Up} {qs : Option Addr} {cs : Nat} {a : An} {w w' : World} (h : NB W N k c u qs cs a w) {D : Nat} (hD : N + 2 < D) (hb : Below D w w') : NB W N k c u qs cs a w' :=
 ⟨h.bel.trans (hb.mono (by omega)), Nat.lt_of_lt_of_le h.lt hb.size, (hb.block N (by omega)).trans h.b0, (hb.block (N + 1) (by omega)).trans h.b1, (hb.block (N + 2) (by omega)).trans h.b2⟩
theorem NB.blk {W : World} {N : Nat} {k : Cq} {c : Cf} {u : Up} {qs : Option Addr} {cs : Nat} {a : An} {w w' : World} (h : NB W N k c u qs cs a w) (hb : Below w.heap.size w w') : NB W N k c u qs cs a w' := h.to h.lt hb
theorem NB.first {W : World} {N : Nat} (hN : W.heap.size = N) (k : Cq) (c : Cf) (u : Up) (qs : Option Addr) (cs : Nat) (a : An) : NB W N k c u qs cs a (((W.alloc (.cells (cfC k c) 51)).alloc (.cells (upC u qs cs) 61)).alloc (.cells (anC a) 71)) := by
 subst hN
 have h0 := heap_alloc_new W (.cells (cfC k c) 51)
 obtain ⟨w1, e1⟩ : ∃ w1, W.alloc (.cells (cfC k c) 51) = w1 := ⟨_, rfl⟩
 have s1 : w1.heap.size = W.heap.size + 1 := by rw [← e1, World.size_alloc]
 have b1 : Below W.heap.size W w1 := e1 ▸ (Below.refl _ _).alloc (Nat.le_refl _) _
 rw [e1] at h0 ⊢
 have h1 := heap_alloc_new w1 (.cells (upC u qs cs) 61)
 obtain ⟨w2, e2⟩ : ∃ w2, w1.alloc (.cells (upC u qs cs) 61) = w2 := ⟨_, rfl⟩
 have s2 : w2.heap.size = W.heap.size + 2 := by rw [← e2, World.size_alloc, s1]
 have b2 : Below w1.heap.size w1 w2 := e2 ▸ (Below.refl _ _).alloc (Nat.le_refl _) _
 rw [e2] at h1 ⊢
 have h2 := heap_alloc_new w2 (.cells (anC a) 71)
 obtain ⟨w3, e3⟩ : ∃ w3, w2.alloc (.cells (anC a) 71) = w3 := ⟨_, rfl⟩
 have s3 : w3.heap.size = W.heap.size + 3 := by rw [← e3, World.size_alloc, s2]
 have b3 : Below w2.heap.size w2 w3 := e3 ▸ (Below.refl _ _).alloc (Nat.le_refl _) _
 rw [e3] at h2 ⊢
 rw [s1] at h1
 rw [s2] at h2
 refine ⟨(b1.trans (b2.mono (by omega))).trans (b3.mono (by omega)), by omega, ?_, ?_, h2⟩
 ·rw [b3.block _ (by omega), b2.block _ (by omega)]; exact h0
 ·rw [b3.block _ (by omega)]; exact h1
theorem NB.cells {W : World} {N : Nat} {k : Cq} {c : Cf} {u : Up} {qs : Option Addr} {cs : Nat} {a : An} {w : World} (h : NB W N k c u qs cs a w) : CBx w N k c ∧ (w.cell? ⟨N + 1, 0, none⟩ = some (.string u.nm) ∧ w.cell? ⟨N + 1, 1, none⟩ = some (.slice qs u.sv.length cs) ∧ w.cell? ⟨N + 1, 2, none⟩ = some (.bool u.fw)) ∧ (w.cell? ⟨N + 2, 0, none⟩ = some (.string a.nm) ∧ w.cell? ⟨N + 2, 1, none⟩ = some (.int .i64 a.tg) ∧ w.cell? ⟨N + 2, 2, none⟩ = some (.int .i64 a.al) ∧ w.cell? ⟨N + 2, 3, none⟩ = some (.int .i64 a.kd) ∧ w.cell? ⟨N + 2, 4, none⟩ = some (.string a.dg)) := by
 refine ⟨cbx_of h.b0, ⟨?_, ?_, ?_⟩, ?_, ?_, ?_, ?_, ?_⟩
 all_goals first | (rw [So.cell_blk h.b1]; rfl) | (rw [So.cell_blk h.b2]; rfl)
theorem rows_two2 {α : Type} {sz bytes M : Nat} {R : World → α → List Value → Prop} {t e : TypeId} {z : Value} (hz : 0 < sz) (ok : RowOk sz M R) (ht : Tryz.prog.underlying t = some (.slice e)) (info : (Tryz.prog.info? e).map (fun i => (i.zero, i.size, i.bytes)) = some (some z, sz, bytes)) (hzs : z.cells.size = sz) {W : World} (hM : M ≤ W.heap.size) {q : Option Addr} {cap : Nat} {l : List α} (h : RowsAt sz R W q l) (hsh : ShC l.length cap q) (hb : (l.length + 1) * bytes ≤ 140737488355328) (hm : l.length + 1 ≤ maxLen) {x : α} {row : List Value} (hx : R W x row) :
  ∃ v1 w1 q2 c2 w2, (Builtin.append_ #[t, t] t #[.slice none 0 0, .slice q l.length cap]).run Tryz.prog W = .ok v1 w1 ∧ Below W.heap.size W w1 ∧ (Builtin.append_ #[t, t] t #[v1, .slice (some ⟨w1.heap.size, 0, none⟩) 1 1]).run Tryz.prog (w1.alloc (.cells row.toArray e)) = .ok (.slice q2 (l.length + 1) c2) w2 ∧ Hid (RowsAt sz R w2 q2 (l ++ [x]) ∧ ShC (l.length + 1) c2 q2 ∧ Below W.heap.size W w2 ∧ ∀ a, q2 = some a → W.heap.size ≤ a.block) := by
 obtain ⟨v1, w1, hrun, hb1, rows, hlen, hall, hR, hone, ho⟩ := rows_copy hz ok ht info hzs hM h hsh (by rw [Nat.add_mul] at hb; omega) (by omega)
 have bU : Below w1.heap.size w1 (w1.alloc (.cells row.toArray e)) := (Below.refl _ _).alloc (Nat.le_refl _) _
 have hnew := heap_alloc_new w1 (.cells row.toArray e)
 have hM1 : M ≤ w1.heap.size := Nat.le_trans hM hb1.size
 obtain ⟨v2, w2, hrun2, hb2, hR2, hall2, ho2, _⟩ := rows_snoc hz ok ht info hzs hM hlen hall (fun j hj hj' => ok.blk _ _ _ _ (bU.mono hM1) (hR j hj hj')) (own_blk ho bU) (Nat.le_trans hb1.size bU.size) (ok.blk _ _ _ _ ((hb1.mono hM).trans (bU.mono hM1)) hx) (X := w1.heap.size) (fun j u hu => by
  rw [So.cell_blk hnew, ← hu]
  simp) hb hm
 obtain ⟨g, cap2, rfl, hg, hgl, hrows, hs2⟩ := rows_own (l := l ++ [x]) hz hall2 (by simp [hlen]) (by simp) (by omega) hR2 ho2
 exact ⟨v1, w1, _, _, w2, hrun, hb1, hrun2, hrows, hs2, hb1.trans ((bU.mono hb1.size).trans hb2), fun a ha => by cases ha; exact hg⟩
def UpJ (N D : Nat) (k : Cq) (c : Cf) (u : Up) (wc w : World) : Prop := ∃ q' c', w.heap[D]? = some (.cells #[.slice k.q0 c.rt.length k.c0, .slice k.q1 c.ru.length k.c1, .slice k.q2 c.lc.length k.c2, .slice q' (c.up.length + 1) c', .slice k.q4 c.an.length k.c4, .int .i64 c.n0, .int .i64 c.n1, .int .i64 c.n2, .int .i64 c.n3] 51 (0, 0)) ∧ RowsAt 3 (UpRow N) w q' (c.up ++ [u]) ∧ ShC (c.up.length + 1) c' q' ∧ Below D wc w ∧ (∀ x, q' = some x → D < x.block)
theorem UpJ.drew {N D : Nat} {k : Cq} {c : Cf} {u : Up} {w0 w : World} (h : UpJ N D k c u w0 w) : UpJ N D k c u w0 w.drew := by
 obtain ⟨q', c', h1, h2, h3, h4, h5⟩ := h
 refine ⟨q', c', h1, fun j hj => ?_, h3, h4.drew, h5⟩
 obtain ⟨b, off, row, e, hlt, ⟨qr, cr, hR, hr, hs, hM⟩, hc⟩ := h2 j hj
 exact ⟨b, off, row, e, hlt, ⟨qr, cr, hR, hr.blk (Below.refl _ _).drew, hs, hM⟩, hc⟩
theorem up_store {N D : Nat} {k : Cq} {c : Cf} {u : Up} {wc w2 : World} {q2 : Option Addr} {c2 : Nat} (hND : N ≤ D) (hD : D < wc.heap.size) (hbox : wc.heap[D]? = some (.cells (cfC k c) 51 (0, 0))) (h : RowsAt 3 (UpRow N) w2 q2 (c.up ++ [u]) ∧ ShC (c.up.length + 1) c2 q2 ∧ Below wc.heap.size wc w2 ∧ ∀ a, q2 = some a → wc.heap.size ≤ a.block) :
  w2.cell? ⟨D, 3, none⟩ = some (.slice k.q3 c.up.length k.c3) ∧ w2.frozen? ⟨D, 3, none⟩ = false ∧ Hid (UpJ N D k c u wc (w2.setCell ⟨D, 3, none⟩ (.slice q2 (c.up.length + 1) c2))) := by
 obtain ⟨hr, hs, hb, hq⟩ := h
 have hb2 : w2.heap[D]? = some (.cells (cfC k c) 51 (0, 0)) := (hb.block D hD).trans hbox
 refine ⟨by rw [So.cell_blk hb2]; rfl, cell_frozen hb2 _, q2, c2, ?_, rows_set (upOkR N) hND hr (fun a ha e => by have := hq a ha; omega) 3 _, hs, (hb.mono (Nat.le_of_lt hD)).setCell (p := ⟨D, 3, none⟩) (Nat.le_refl _) _, fun x hx => Nat.lt_of_lt_of_le hD (hq x hx)⟩
 rw [hset hb2]
 rfl
def AnJ (N D : Nat) (k : Cq) (c : Cf) (u : Up) (a : An) (wc w : World) : Prop := ∃ q' c' q5 c5, w.heap[D]? = some (.cells #[.slice k.q0 c.rt.length k.c0, .slice k.q1 c.ru.length k.c1, .slice k.q2 c.lc.length k.c2, .slice q' (c.up.length + 1) c', .slice q5 (c.an.length + 1) c5, .int .i64 c.n0, .int .i64 c.n1, .int .i64 c.n2, .int .i64 c.n3] 51 (0, 0)) ∧ RowsAt 3 (UpRow N) w q' (c.up ++ [u]) ∧ ShC (c.up.length + 1) c' q' ∧ RowsAt 5 AnRow w q5 (c.an ++ [a]) ∧ ShC (c.an.length + 1) c5 q5 ∧ Below D wc w
theorem an_store {N D : Nat} {k : Cq} {c : Cf} {u : Up} {a : An} {w0 wc w2 : World} {q5 : Option Addr} {c5 : Nat} (hND : N ≤ D) (hD : D < wc.heap.size) (hup : UpJ N D k c u w0 wc) (h : RowsAt 5 AnRow w2 q5 (c.an ++ [a]) ∧ ShC (c.an.length + 1) c5 q5 ∧ Below wc.heap.size wc w2 ∧ ∀ a, q5 = some a → wc.heap.size ≤ a.block) :
  w2.cell? ⟨D, 4, none⟩ = some (.slice k.q4 c.an.length k.c4) ∧ w2.frozen? ⟨D, 4, none⟩ = false ∧ Hid (AnJ N D k c u a wc (w2.setCell ⟨D, 4, none⟩ (.slice q5 (c.an.length + 1) c5))) := by
 obtain ⟨hr, hs, hb, hq⟩ := h
 obtain ⟨q', c', hbox, hur, hus, _, hud⟩ := hup
 have hb2 := (hb.block D hD).trans hbox
 have hur2 := rows_blk (upOkR N) hur hb (by omega)
 refine ⟨by rw [So.cell_blk hb2]; rfl, cell_frozen hb2 _, q', c', q5, c5, ?_, rows_set (upOkR N) hND hur2 (fun x hx e => by have := hud x hx; omega) 4 _, hus, rows_set (anOkR N) hND hr (fun x hx e => by have := hq x hx; omega) 4 _, hs, (hb.mono (Nat.le_of_lt hD)).setCell (p := ⟨D, 4, none⟩) (Nat.le_refl _) _⟩
 rw [hset hb2]
 rfl
theorem AnJ.cf {W : World} {N D : Nat} (hN : W.heap.size = N) (hND : N ≤ D) {k : Cq} {c : Cf} {u : Up} {a : An} {wc w : World} (hat : CfAt W k c) (hb : Below N W wc) (h : AnJ N D k c u a wc w) :
  ∃ k', CfAt w k' ⟨c.rt, c.ru, c.lc, c.up ++ [u], c.an ++ [a], c.n0, c.n1, c.n2, c.n3⟩ ∧ w.heap[D]? = some (.cells (cfC k' ⟨c.rt, c.ru, c.lc, c.up ++ [u], c.an ++ [a], c.n0, c.n1, c.n2, c.n3⟩) 51 (0, 0)) := by
 obtain ⟨q', c', q5, c5, hbox, hur, hus, har, has, hbel⟩ := h
 have hw : CfAt w k c := hat.blk (by rw [hN]; exact hb.trans (hbel.mono hND))
 have l3 : (c.up ++ [u]).length = c.up.length + 1 := by simp
 have l4 : (c.an ++ [a]).length = c.an.length + 1 := by simp
 refine ⟨⟨k.q0, k.c0, k.q1, k.c1, k.q2, k.c2, q', c', q5, c5⟩, ⟨hw.rt, hw.ru, hw.lc, up_back hur, an_back har, hw.s0, hw.s1, hw.s2, by rw [l3]; exact hus, by rw [l4]; exact has⟩, ?_⟩
 rw [hbox]
 simp only [cfC, l3, l4]
theorem near_in {c : Cf} (hin : CfIn c) (htt : CfTight c) {u : Up} (hu : UpIn u) {a : An} (ha : AnIn a) : CfIn ⟨c.rt, c.ru, c.lc, c.up ++ [u], c.an ++ [a], c.n0, c.n1, c.n2, c.n3⟩ := by
 have h3 := htt.t3
 have h4 := htt.t4
 refine ⟨hin.rt, hin.ru, hin.lc, fun z hz => (List.mem_append.1 hz).elim (hin.up z) (fun h => by obtain rfl := List.mem_singleton.1 h; exact hu), fun z hz => (List.mem_append.1 hz).elim (hin.an z) (fun h => by obtain rfl := List.mem_singleton.1 h; exact ha), hin.n0, hin.n1, hin.n2, hin.n3, hin.l0, hin.l1, hin.l2, ?_, ?_⟩
 ·simp only [List.length_append, List.length_singleton]; omega
 ·simp only [List.length_append, List.length_singleton]; omega
end Go.Proofs.YtdlcldjlfhmlgaaGreatDoor
