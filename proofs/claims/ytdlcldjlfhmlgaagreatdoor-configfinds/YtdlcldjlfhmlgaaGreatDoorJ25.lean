/- Texts of this proof, joined: LfJ. -/
import Derived.Test.YtdlcldjlfhmlgaaGreatDoorJ24
set_option linter.unusedVariables false
set_option linter.unusedSimpArgs false
/- Layer 15: Anchor. -/
namespace Go.Proofs.YtdlcldjlfhmlgaaGreatDoor
open Go.RowKit
section
attribute [local go_sem ↓] app_ds
set_option maxRecDepth 100000 in
set_option maxHeartbeats 8000000 in
theorem anchor_in (W : World) (k : Cq) (c : Cf) (hat : CfAt W k c) (hin : CfIn c) (s : ByteArray) (hs : s.size ≤ maxLen) : Calls Tryz.prog 22 #[cfV k c, .string s] W fun e w' => AncP W c s e w' := by
 have HNr : Hid (∀ w, Below W.heap.size W w → Calls Tryz.prog 46 #[.string s, .slice k.q4 c.an.length k.c4, .func (.func 47) #[] #[]] w fun e w' => e = .returned (.int .i64 (plI (bestN (c.an.map An.nm) s c.an.length))) ∧ Below w.heap.size w w') := fun w hb => anNear_in w k.q4 k.c4 c.an (hat.blk hb).an (fun u hu => (hin.an u hu).1) hat.s4 s hs
 have hsh := hat.s4
 have HC0 := Hid.mk (fun n hn => ans_cells hat.an hin.an (n := n) hn)
 have hl4 := hin.l4
 obtain ⟨N, hN⟩ : ∃ N, W.heap.size = N := ⟨_, rfl⟩
 have HNN := Hid.mk hN
 obtain ⟨l, hl⟩ : ∃ l, c.an = l := ⟨_, rfl⟩
 have HNone : Hid (∀ w', bestN (l.map An.nm) s l.length = none → Below N W w' → AncP W c s (.returned (.tuple #[.string ⟨#[]⟩, .slice none 0 0, .bool false])) w') := fun w' h hb => ⟨.inl ⟨by rw [hl]; exact h, rfl⟩, by rw [hN]; exact hb⟩
 have HSome : Hid (∀ w' b (hb : b < l.length) v', bestN (l.map An.nm) s l.length = some b → w'.ownsRow N 68 4 v' (selA l l[b].nm).length (dsC (selA l l[b].nm)) → Below N W w' → AncP W c s (.returned (.tuple #[.string l[b].nm, v', .bool true])) w') := by
  intro w' b hb v' h hr hbel
  subst hl
  exact ⟨.inr ⟨b, hb, h, v', rfl, by rw [hN]; exact hr⟩, by rw [hN]; exact hbel⟩
 obtain ⟨q0, c0, q1, c1, q2, c2, q3, c3, q4, c4⟩ := k
 simp only [cfV, cfC] at HNr HC0 hsh ⊢
 rw [hl] at hsh hl4 HNr HC0 ⊢
 have HNs : Hid (∀ i (hi : i < l.length), (l[i]).nm.size ≤ maxLen) := fun i hi => by
  subst hl
  exact (hin.an _ (List.getElem_mem hi)).1
 obtain ⟨U, hU⟩ : ∃ U, W.alloc (.cells #[.slice q0 c.rt.length c0, .slice q1 c.ru.length c1, .slice q2 c.lc.length c2, .slice q3 c.up.length c3, .slice q4 l.length c4, .int .i64 c.n0, .int .i64 c.n1, .int .i64 c.n2, .int .i64 c.n3] 51) = U := ⟨_, rfl⟩
 have hX : Bx W W.heap.size [.slice q0 c.rt.length c0, .slice q1 c.ru.length c1, .slice q2 c.lc.length c2, .slice q3 c.up.length c3, .slice q4 l.length c4, .int .i64 c.n0, .int .i64 c.n1, .int .i64 c.n2, .int .i64 c.n3] 51 U := hU ▸ Bx.new W _ _
 have HU := Hid.mk hU
 rw [hN] at HNr hX
 have hUb : Below N W U := by rw [← hN]; exact hX.bel
 have HN1 := Hid.mk (HNr.out U hUb)
 obtain ⟨o, ho⟩ : ∃ o, bestN (l.map An.nm) s l.length = o := ⟨_, rfl⟩
 rw [ho] at HNone HSome HN1
 have HO := Hid.mk ho
 obtain ⟨n, hn⟩ : ∃ n, l.length = n := ⟨_, rfl⟩
 have HNL := Hid.mk hn
 have HC := HC0.out n hn
 rw [HNN.out] at HC
 rw [hn] at HN1 HU hsh hl4 ⊢
 have x4 : U.cell? ⟨N, 4, none⟩ = some (.slice q4 n c4) := by rw [← hn]; exact hX.cell 4 _ rfl
 have HXc : Hid (∀ w, Below U.heap.size U w → w.cell? ⟨N, 4, none⟩ = some (.slice q4 n c4) ∧ Below N W w) := fun w hb => ⟨by rw [← hn]; exact (hX.blk hb).cell 4 _ rfl, by have := (hX.blk hb).bel; rw [hN] at this; exact this⟩
 have hn4 : n ≤ c4 := hsh.1
 have hc4 : c4 ≤ 9223372036854775807 := by have := hsh.2.1; unfold maxLen at this; exact this
 clear hat hin hsh hU hX hN HNr ho hn HC0 hl
 go_enter Tryz.func22, Tryz.ntmps22
 go_upto_region 1 with fail
 rw [HNN.out, HU.out]
 go_wp2_with fail
 refine HN1.out.mono ?_
 rintro e w1 ⟨rfl, hb1⟩
 obtain ⟨y4, hbel1⟩ := HXc.out _ hb1
 have HB1 := Hid.mk hbel1
 have hN1 : N ≤ w1.heap.size := by rw [← HNN.out]; exact hbel1.size
 clear x4
 cases o with
 | none =>
  have e1 : plI none = -1 := rfl
  rw [e1]
  clear hb1 hbel1
  go_wp2
  go_ret3
  exact HNone.out _ (by first | rfl | trivial) HB1.out
 | some b =>
  have hbl : b < l.length := bestN_lt HO.out
  have hbn : b < n := by have := HNL.out; omega
  have e1 : plI (some b) = (b : Int) := rfl
  rw [e1]
  have hbz : ¬ (b : Int) < 0 := by omega
  have hbnz : (b : Int) < (n : Int) := by omega
  have hb0 : (0 : Int) ≤ (b : Int) := by omega
  have hbn2 : (b : Int) ≤ (n : Int) := by omega
  have hnc : (n : Int) ≤ (c4 : Int) := by omega
  have hbc : ¬ b = c4 := by omega
  have HSm := Hid.mk (fun w' v' => HSome.out w' b hbl v' rfl)
  obtain ⟨bb, off, rfl, a, HI, HX⟩ := HC.out b hbn
  obtain ⟨d0, _⟩ := HX.out _ hbel1
  have hnm : l[b].nm = a.nm := by
   obtain ⟨⟨hi', e⟩, _⟩ := HI.out
   rw [e]
  rw [hnm] at HSm
  have hdrop := selA_drop HO.out hbl
  rw [hnm] at hdrop
  have hans := HI.out.2.2.1
  have hu := (bestN_is HO.out).2.1
  rw [nmI_map _ hbl, hnm] at hu
  have hnm2 : a.nm.size ≤ 140737488351232 := by
   classical
   obtain ⟨x, y, _, hy, _, e, _⟩ := of_decide_eq_true hu
   have := name_size (s := a.nm) ⟨y, hy, e⟩
   omega
  obtain ⟨own, how⟩ : ∃ own, a.nm = own := ⟨_, rfl⟩
  rw [how] at HSm d0 hdrop hans hnm2
  have HClO := Hid.mk (fun w => cloneL_in own w hnm2)
  have HC2 : Hid (∀ i, i < n → ∃ a : An, Hid ((∃ hi : i < l.length, l[i] = a) ∧ a ∈ l ∧ AnIn a) ∧ Hid (∀ w, Below N W w → w.cell? ⟨bb, off + i * 5, none⟩ = some (.string a.nm) ∧ w.cell? ⟨bb, off + i * 5 + 1, none⟩ = some (.int .i64 a.tg) ∧ w.cell? ⟨bb, off + i * 5 + 2, none⟩ = some (.int .i64 a.al) ∧ w.cell? ⟨bb, off + i * 5 + 3, none⟩ = some (.int .i64 a.kd) ∧ w.cell? ⟨bb, off + i * 5 + 4, none⟩ = some (.string a.dg))) := fun i hi => by
   obtain ⟨b', off', e, a', h1, h2⟩ := HC.out i hi
   cases e
   exact ⟨a', h1, h2⟩
  have H0 : Hid (∀ w : World, w.ownsRow N 68 4 (.slice none 0 0) (selA (l.take (b + 0)) own).length (dsC (selA (l.take (b + 0)) own))) := fun w => by
   rw [Nat.add_zero, hdrop]
   exact World.ownsRow_nil ..
  obtain ⟨m, hm⟩ : ∃ m, n - b = m := ⟨_, rfl⟩
  have hmn : b + m = n := by omega
  have hmz : ((n : Int) - (b : Int)) = (m : Int) := by omega
  have hmz2 : ((n : Int) - (b : Int)).toNat = m := by omega
  have HM := Hid.mk hmn
  have hcz : ((c4 : Int) - (b : Int)).toNat = c4 - b := by omega
  have HC3 : Hid (∀ j, j < m → ∃ a : An, Hid ((∃ hi : b + j < l.length, l[b + j] = a) ∧ AnIn a) ∧ Hid (∀ w, Below N W w → w.cell? ⟨bb, off + b * 5 + j * 5, none⟩ = some (.string a.nm) ∧ w.cell? ⟨bb, off + b * 5 + j * 5 + 1, none⟩ = some (.int .i64 a.tg) ∧ w.cell? ⟨bb, off + b * 5 + j * 5 + 2, none⟩ = some (.int .i64 a.al) ∧ w.cell? ⟨bb, off + b * 5 + j * 5 + 3, none⟩ = some (.int .i64 a.kd) ∧ w.cell? ⟨bb, off + b * 5 + j * 5 + 4, none⟩ = some (.string a.dg))) := fun j hj => by
   obtain ⟨a', h1, h2⟩ := HC2.out (b + j) (by omega)
   refine ⟨a', ⟨h1.out.1, h1.out.2.2⟩, fun w hb => ?_⟩
   have := h2.out w hb
   rw [show off + (b + j) * 5 = off + b * 5 + j * 5 by omega] at this
   exact this
  have HSel : Hid (∀ j (hi : b + j < l.length), selA (l.take (b + (j + 1))) own = if eqF l[b + j].nm own then selA (l.take (b + j)) own ++ [l[b + j]] else selA (l.take (b + j)) own) := fun j hi => selA_snoc l own hi
  have HLen : Hid (∀ j, (selA (l.take (b + j)) own).length * 56 ≤ 140737488353280) := fun j => by
   have h1 := selA_len (l.take (b + j)) own
   have h2 : (l.take (b + j)).length ≤ l.length := List.length_take_le' _ _
   have h3 := HNL.out
   have h4 := Nat.mul_le_mul_right 56 (Nat.le_trans h1 h2)
   rw [h3] at h4
   exact Nat.le_trans h4 hl4
  have HEnd : Hid (selA (l.take (b + m)) own = selA l own) := by
   show _ = _
   rw [List.take_of_length_le (by have := HNL.out; omega)]
  clear hb1 hbel1 HC HC2 HI HX hnm hdrop hu how HSome HNone hnm2 hl4 hmn
  go_upto_region 7 with fail
  clear y4 d0 hmz hmz2 hcz
  go_loopw [9, 29] (fun lv iv wr => ∃ (j : Nat) (lw : Value) (u : World), lw = lv ∧ u = wr ∧ j ≤ m ∧ iv = .int .i64 (j : Int) ∧ Hid (u.ownsRow N 68 4 lv (selA (l.take (b + j)) own).length (dsC (selA (l.take (b + j)) own))) ∧ Hid (Below N W u)) (fun _ iv _ => m - (intOf iv).toNat)
  case atStart => exact ⟨0, _, _, rfl, rfl, Nat.zero_le _, rfl, H0.out _, HB1.out⟩
  case round =>
   obtain ⟨j, lv, u, hlv, rfl, hj, rfl, HR, HU⟩ := hrel
   subst hlv
   have hNu : N ≤ u.heap.size := by rw [← HNN.out]; exact HU.out.size
   by_cases hlt : j < m
   ·have hlz : (j : Int) < (m : Int) := by omega
    have wi : IntKind.i64.wrap ((j : Int) + 1) = ((j + 1 : Nat) : Int) := by rw [IntKind.wrap_i64]; omega
    obtain ⟨a, HI, HX⟩ := HC3.out j hlt
    obtain ⟨d0, d1, d2, d3, d4⟩ := HX.out _ HU.out
    have hns := HI.out.2.1
    have hds := HI.out.2.2.1
    have HSj : Hid (selA (l.take (b + (j + 1))) own = if eqF a.nm own then selA (l.take (b + j)) own ++ [a] else selA (l.take (b + j)) own) := by
     obtain ⟨⟨hi', e⟩, _⟩ := HI.out
     have := HSel.out j hi'
     rw [e] at this
     exact this
    have HAp := Hid.mk (fun (w : World) (h : w.ownsRow N 68 4 lv (selA (l.take (b + j)) own).length (dsC (selA (l.take (b + j)) own))) (hM : N ≤ w.heap.size) => ds_app h hM (by have := HLen.out j; omega) a)
    obtain ⟨nm0, tg, al, kd, dg⟩ := a
    (try simp only at d0 d1 d2 d3 d4)
    (try simp only at hns)
    (try simp only at hds)
    (try simp only at HSj)
    (try simp only at HAp)
    have HEq := Hid.mk (nequal_in nm0 own hns hans)
    have HCl := Hid.mk (fun w => cloneL_in dg w hds)
    obtain ⟨V1, hV1⟩ : ∃ V1, u.alloc (.cells #[.string nm0, .int .i64 tg, .int .i64 al, .int .i64 kd, .string dg] 71) = V1 := ⟨_, rfl⟩
    have X0 : Bx u u.heap.size [.string nm0, .int .i64 tg, .int .i64 al, .int .i64 kd, .string dg] 71 V1 := hV1 ▸ Bx.new u _ _
    have HV1 := Hid.mk hV1
    obtain ⟨Y, hY⟩ : ∃ Y, u.heap.size = Y := ⟨_, rfl⟩
    have HY := Hid.mk hY
    rw [hY] at X0
    have hNY : N ≤ Y := by omega
    have x0 := X0.cell 0 _ rfl
    have HK : Hid (∀ w, Below V1.heap.size V1 w → Below N W w ∧ N ≤ w.heap.size ∧ w.heap[Y]? = some (.cells #[.string nm0, .int .i64 tg, .int .i64 al, .int .i64 kd, .string dg] 71 (0, 0)) ∧ w.ownsRow N 68 4 lv (selA (l.take (b + j)) own).length (dsC (selA (l.take (b + j)) own))) := fun w hb => by
     have h1 : N ≤ V1.heap.size := Nat.le_trans hNu X0.bel.size
     exact ⟨HU.out.trans ((X0.bel.mono hNu).trans (hb.mono h1)), Nat.le_trans h1 hb.size, (X0.blk hb).hb, own_blk (own_blk HR.out X0.bel) hb⟩
    clear hV1 hY X0 hns hds
    go_upto_region 9 with fail
    rw [HV1.out, HY.out]
    clear d0 d1 d2 d3 d4
    cases he : eqF nm0 own with
    | false =>
     rw [he] at HEq HSj
     go_wp2_with fail
     refine (HEq.out _).mono ?_
     rintro e w2 ⟨rfl, hb2⟩
     obtain ⟨k1, k2, k3, k4⟩ := HK.out _ hb2
     have HE : Hid (w2.ownsRow N 68 4 lv (selA (l.take (b + (j + 1))) own).length (dsC (selA (l.take (b + (j + 1))) own))) := by rw [HSj.out]; exact k4
     have HB2 := Hid.mk k1
     clear hb2 k1 k2 k3 k4 he x0
     go_wp2
     go_roundw
     case rel => exact ⟨j + 1, _, _, rfl, rfl, by omega, by first | rfl | go_num, HE, HB2⟩
     case measure => simp [intOf]; omega
    | true =>
     rw [he] at HEq HSj
     go_wp2_with fail
     refine (HEq.out _).mono ?_
     rintro e w2 ⟨rfl, hb2⟩
     have k3 := (HK.out _ hb2).2.2.1
     have x4 : w2.cell? ⟨Y, 4, none⟩ = some (.string dg) := by rw [So.cell_blk k3]; rfl
     have HB2 := Hid.mk hb2
     clear hb2 k3 x0 he
     go_wp2_with fail
     refine (HCl.out _).mono ?_
     rintro e w3 ⟨rfl, hb3⟩
     have HB3 : Hid (Below V1.heap.size V1 w3) := HB2.out.trans (hb3.mono HB2.out.size)
     obtain ⟨k1, k2, k3, k4⟩ := HK.out _ HB3.out
     have f4 := frozenU k3 4
     have y4 : w3.cell? ⟨Y, 4, none⟩ = some (.string dg) := by rw [So.cell_blk k3]; rfl
     obtain ⟨Wx, hWx⟩ : ∃ Wx, w3.setCell ⟨Y, 4, none⟩ (.string dg) = Wx := ⟨_, rfl⟩
     have hsx : w3.heap.size = Wx.heap.size := by rw [← hWx]; simp
     have hk3 : Wx.heap[Y]? = some (.cells #[.string nm0, .int .i64 tg, .int .i64 al, .int .i64 kd, .string dg] 71 (0, 0)) := by rw [← hWx]; exact hset k3 4 _
     have hbx : Below N W Wx := by rw [← hWx]; exact k1.setCell (p := ⟨Y, 4, none⟩) hNY _
     have hrx : Wx.ownsRow N 68 4 lv (selA (l.take (b + j)) own).length (dsC (selA (l.take (b + j)) own)) := by
      rw [← hWx]
      exact own_same k4 fun b' c' f' _ hc => Below.heap_setCell _ _ _ _ (fun e => by obtain rfl : b' = Y := e; rw [k3] at hc; cases hc)
     have z1 : Wx.cell? ⟨Y, 1, none⟩ = some (.int .i64 tg) := by rw [So.cell_blk hk3]; rfl
     have z2 : Wx.cell? ⟨Y, 2, none⟩ = some (.int .i64 al) := by rw [So.cell_blk hk3]; rfl
     have z3 : Wx.cell? ⟨Y, 3, none⟩ = some (.int .i64 kd) := by rw [So.cell_blk hk3]; rfl
     have z4 : Wx.cell? ⟨Y, 4, none⟩ = some (.string dg) := by rw [So.cell_blk hk3]; rfl
     have hNx : N ≤ Wx.heap.size := by rw [← hsx]; exact k2
     obtain ⟨v', w4, hrun, hown, hb4⟩ := HAp.out Wx hrx hNx
     have HE : Hid (w4.ownsRow N 68 4 v' (selA (l.take (b + (j + 1))) own).length (dsC (selA (l.take (b + (j + 1))) own))) := by rw [HSj.out]; exact hown
     have HB4 : Hid (Below N W w4) := hbx.trans hb4
     have HWx := Hid.mk hWx
     clear hb3 k1 k2 k3 k4 hWx hsx hk3 hbx hrx hown hb4
     go_upto_region 11 with fail
     rw [HWx.out]
     clear x4 y4 f4
     go_wp2
     go_roundw
     case rel => exact ⟨j + 1, _, _, rfl, rfl, by omega, by first | rfl | go_num, HE, HB4⟩
     case measure => simp [intOf]; omega
   ·have hlz : ¬ (j : Int) < (m : Int) := by omega
    have HE : Hid (u.ownsRow N 68 4 lv (selA l own).length (dsC (selA l own))) := by
     have := HR.out
     rw [show j = m by omega, HEnd.out] at this
     exact this
    go_wp2_with fail
    refine (HClO.out _).mono ?_
    rintro e w2 ⟨rfl, hb2⟩
    have HE2 := Hid.mk (own_blk HE.out hb2)
    have HB2 : Hid (Below N W w2) := HU.out.trans (hb2.mono hNu)
    clear hb2
    go_wp2
    go_ret3
    exact HSm.out _ _ HE2.out HB2.out
end
end Go.Proofs.YtdlcldjlfhmlgaaGreatDoor
