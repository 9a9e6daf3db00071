/- Texts of this proof, joined: LdK, LdL, LdF, LdM, LdN, LdP. -/
import Derived.Test.YtdlcldjlfhmlgaaGreatDoorJ17
set_option linter.unusedVariables false
set_option linter.unusedSimpArgs false
/- Layer 14: find. -/
namespace Go.Proofs.YtdlcldjlfhmlgaaGreatDoor
open Go.RowKit
open So (El elC SRow)
end Go.Proofs.YtdlcldjlfhmlgaaGreatDoor
/- Layer 14: what a zone answers. -/
namespace Go.Proofs.YtdlcldjlfhmlgaaGreatDoor
open Go.RowKit
open So (El elC SRow)
end Go.Proofs.YtdlcldjlfhmlgaaGreatDoor
/- Layer 14: New. -/
namespace Go.Proofs.YtdlcldjlfhmlgaaGreatDoor
open Go.RowKit
open Go.MapKept Go.WideMaps
def LcsAt (w : World) (q : Option Addr) (l : List Lc) : Prop := ∀ j (hj : j < l.length), ∃ b off qr cr, q = some ⟨b, off, none⟩ ∧ b < w.heap.size ∧ w.cell? ⟨b, off + j * 3, none⟩ = some (.string l[j].nm) ∧ w.cell? ⟨b, off + j * 3 + 1, none⟩ = some (.int .i64 l[j].kd) ∧ w.cell? ⟨b, off + j * 3 + 2, none⟩ = some (.slice qr l[j].rs.length cr) ∧ RcsAt w qr l[j].rs
theorem LcsAt.blk {w w' : World} {q : Option Addr} {l : List Lc} (h : LcsAt w q l) (hb : Below w.heap.size w w') : LcsAt w' q l := fun j hj => by
 obtain ⟨b, off, qr, cr, e, hlt, c0, c1, c2, hr⟩ := h j hj
 have key : ∀ k, w'.cell? ⟨b, k, none⟩ = w.cell? ⟨b, k, none⟩ := fun k => hb.cell (p := ⟨b, k, none⟩) hlt
 exact ⟨b, off, qr, cr, e, Nat.lt_of_lt_of_le hlt hb.size, (key _).trans c0, (key _).trans c1, (key _).trans c2, hr.blk hb⟩
def LIn (l : List Lc) : Prop := ∀ z ∈ l, z.nm.size ≤ maxLen ∧ RIn z.rs ∧ z.rs.length ≤ maxLen ∧ I64 z.kd
def okL (l : List Lc) : Prop := (∀ z ∈ l, rightR z = true) ∧ l.Pairwise fun a b => zk a ≠ zk b
structure NwS (N : Nat) (W : World) (X M : Nat) (l : List Lc) (w : World) : Prop where
 ex : ∃ L : List (Nat × Lc), L.map Prod.snd = l ∧ Locs N w X M L
 ok : okL l
 bel : Below N W w
theorem NwS.blk {N : Nat} {W w w' : World} {X M : Nat} {l : List Lc} (h : NwS N W X M l w) (hN : N ≤ w.heap.size) (hb : Below w.heap.size w w') : NwS N W X M l w' := by
 obtain ⟨L, e, hl⟩ := h.ex
 exact ⟨⟨L, e, hl.blk hb⟩, h.ok, h.bel.trans (hb.mono hN)⟩
def NewP (N : Nat) (W : World) (l : List Lc) (e : Ending) (w' : World) : Prop := (okL l ∧ (∃ X M, e = .returned (.tuple #[ptA X 0, .int .i64 0]) ∧ ∃ L : List (Nat × Lc), L.map Prod.snd = l ∧ Locs N w' X M L) ∨ ¬ okL l ∧ e = .returned (.tuple #[.pointer none, .int .i64 12])) ∧ Below N W w'
set_option maxRecDepth 100000 in
set_option maxHeartbeats 2000000 in
theorem new14_in (W : World) (q : Option Addr) (cap : Nat) (l : List Lc) (hat : LcsAt W q l) (hin : LIn l) (hl : l.length ≤ 9223372036854775806) :
  Calls Tryz.prog 9 #[.slice q l.length cap] W fun e w' => NewP W.heap.size W l e w' := by
 obtain ⟨N, hN⟩ : ∃ N, W.heap.size = N := ⟨_, rfl⟩
 have HNN := Hid.mk hN
 have HBL : Hid (∀ w i, i < l.length → Below N W w → ∃ b off, q = some ⟨b, off, none⟩ ∧ ∃ (z : Lc) (qr : Option Addr) (cr : Nat), Hid (l[i]? = some z ∧ z ∈ l ∧ RcsAt w qr z.rs) ∧ w.cell? ⟨b, off + i * 3, none⟩ = some (.string z.nm) ∧ w.cell? ⟨b, off + i * 3 + 1, none⟩ = some (.int .i64 z.kd) ∧ w.cell? ⟨b, off + i * 3 + 2, none⟩ = some (.slice qr z.rs.length cr)) := by
  intro w i hi hb
  rw [← hN] at hb
  obtain ⟨b, off, qr, cr, e, _, c0, c1, c2, hr⟩ := hat.blk hb i hi
  exact ⟨b, off, e, l[i], qr, cr, ⟨List.getElem?_eq_getElem _, List.getElem_mem hi, hr⟩, c0, c1, c2⟩
 have m1 := (MapF.made 9 plR W).congr (g := zF []) (fun s => rfl)
 have b1 : Below W.heap.size W (W.alloc (.map #[] 0)) := (Below.refl _ _).alloc (Nat.le_refl _) _
 have b2 : Below (W.alloc (.map #[] 0)).heap.size (W.alloc (.map #[] 0)) ((W.alloc (.map #[] 0)).alloc (.cells #[.map (some W.heap.size)] 82)) := (Below.refl _ _).alloc (Nat.le_refl _) _
 have hxb := heap_alloc_new (W.alloc (.map #[] 0)) (.cells #[.map (some W.heap.size)] 82)
 have M1 := m1.blk b2
 have hB := b1.trans (b2.mono (by simp))
 rw [World.size_alloc] at hxb
 rw [hN] at M1 hxb hB ⊢
 have HM0 : Hid (NwS N W (N + 1) N (l.take 0) ((W.alloc (.map #[] 0)).alloc (.cells #[.map (some N)] 82))) := by
  refine ⟨⟨[], by simp, ⟨by omega, Nat.le_refl _, hxb, ⟨0, Nat.le_refl _, M1⟩, by simp⟩⟩, ⟨by simp, by simp⟩, hB⟩
 have hmm := @run_makeMap Tryz.prog
 obtain ⟨n, hn⟩ : ∃ n, l.length = n := ⟨_, rfl⟩
 have HNL := Hid.mk hn
 have HIN := Hid.mk hin
 rw [hn] at HBL hl ⊢
 obtain ⟨X, hX⟩ : ∃ X, N + 1 = X := ⟨_, rfl⟩
 have HXe := Hid.mk hX
 clear hat hin m1 b1 b2 hxb M1 hB hn
 go_enter Tryz.func9, Tryz.ntmps9
 go_wp2
 rw [hX] at HM0
 obtain ⟨V, hV⟩ : ∃ V, (W.alloc (.map #[] 0)).alloc (.cells #[.map (some N)] 82) = V := ⟨_, rfl⟩
 rw [hV] at HM0 ⊢
 clear hV hX hmm hN
 go_loopw [12] (fun iv wr => ∃ i : Nat, i ≤ n ∧ iv = .int .i64 (i : Int) ∧ Hid (NwS N W X N (l.take i) wr)) (fun iv _ => n - (intOf iv).toNat)
 case atStart => exact ⟨0, Nat.zero_le _, rfl, HM0.out⟩
 case round =>
  obtain ⟨i, hi, rfl, HM⟩ := hrel
  by_cases hlt : i < n
  ·have hlz : (i : Int) < (n : Int) := by omega
   obtain ⟨b, off, rfl, z, qr, cr, hzi, c0, c1, c2⟩ := HBL.out wr i hlt HM.out.bel
   obtain ⟨o1, o2, o3, o4⟩ := HIN.out z hzi.out.2.1
   have hNr : N ≤ wr.heap.size := by rw [← HNN.out]; exact HM.out.bel.size
   have wi : IntKind.i64.wrap ((i : Int) + 1) = ((i + 1 : Nat) : Int) := by rw [IntKind.wrap_i64]; omega
   obtain ⟨V1, hV1⟩ : ∃ V1, wr.alloc (.cells #[.string z.nm, .int .i64 z.kd, .slice qr z.rs.length cr] 26) = V1 := ⟨_, rfl⟩
   have X0 : Bx wr wr.heap.size [.string z.nm, .int .i64 z.kd, .slice qr z.rs.length cr] 26 V1 := hV1 ▸ Bx.new wr _ _
   have HV1 := Hid.mk hV1
   have MV := Hid.mk (HM.out.blk hNr X0.bel)
   have hNV : N ≤ V1.heap.size := Nat.le_trans hNr X0.bel.size
   have x0 := X0.cells3
   obtain ⟨B, hBe⟩ : ∃ B, wr.heap.size = B := ⟨_, rfl⟩
   have HB := Hid.mk hBe
   rw [hBe] at x0
   have HRi := Hid.mk (lright_in z o1 o2 qr cr V1 (hzi.out.2.2.blk X0.bel) o3)
   have HBC := Hid.mk (fun w (hb : Below V1.heap.size V1 w) => (X0.blk hb).cells3)
   have HRa : Hid (∀ w, Below V1.heap.size V1 w → RcsAt w qr z.rs) := fun w hb => (hzi.out.2.2.blk X0.bel).blk hb
   have HTk : Hid (l.take (i + 1) = l.take i ++ [z]) := by
    obtain ⟨g1, g2⟩ := List.getElem?_eq_some_iff.1 hzi.out.1
    show _ = _
    rw [List.take_succ_eq_append_getElem g1, g2]
   have HTm : Hid (∀ x, x ∈ l.take (i + 1) → x ∈ l) := fun x hx => List.mem_of_mem_take hx
   clear hV1 hBe X0
   cases hri : rightR z with
   | false =>
    rw [hri] at HRi
    have HNo : Hid (¬ okL l) := fun h => by have := h.1 z hzi.out.2.1; rw [hri] at this; cases this
    clear hri
    go_upto_region 5 with fail
    rw [HV1.out, HB.out]
    go_wp2_with fail
    refine HRi.out.mono ?_
    rintro e w2 ⟨rfl, hb2⟩
    have hbb := (MV.out.blk hNV hb2).bel
    clear hb2
    go_wp2
    go_ret2
    exact ⟨.inr ⟨HNo.out, rfl⟩, hbb⟩
   | true =>
    rw [hri] at HRi
    have HZo : Hid (∀ w, Below V1.heap.size V1 w → Calls Tryz.prog 27 #[.agg #[.string z.nm, .int .i64 z.kd, .slice qr z.rs.length cr]] w fun e w' => ∃ Z, e = .returned (ptA Z 0) ∧ ZoneAt w.heap.size w' Z z ∧ Below w.heap.size w w') := fun w hb => zoneOf_in z hri o2 qr cr w (HRa.out w hb)
    have HRt := Hid.mk hri
    have HNm := Hid.mk (zone_ty hri).1
    clear hri
    go_upto_region 5 with fail
    rw [HV1.out, HB.out]
    go_wp2_with fail
    refine HRi.out.mono ?_
    rintro e w2 ⟨rfl, hb2⟩
    have x2 := HBC.out _ hb2
    rw [HB.out] at x2
    have HZ2 := Hid.mk (HZo.out _ hb2)
    have M2 := Hid.mk (MV.out.blk hNV hb2)
    have hN2 : N ≤ w2.heap.size := Nat.le_trans hNV hb2.size
    clear hb2 x0
    go_wp2_with fail
    refine HZ2.out.mono ?_
    rintro e w3 ⟨Z, rfl, hz3, hb3⟩
    have M3 := M2.out.blk hN2 hb3
    have hN3 : N ≤ w3.heap.size := Nat.le_trans hN2 hb3.size
    have hz3' : ZoneAt N w3 Z z := by
     obtain ⟨v, els, qz, cz, e1, e2⟩ := hz3.blk
     refine ⟨Nat.le_trans hN2 hz3.nZ, v, els, qz, cz, e1, e2.v, e2.le, fun h0 => ?_, e2.rel.mono fun e s hs => ⟨hs.ls, hs.ty, hs.cl, hs.tl, hs.sv, ?_⟩⟩
     ·obtain ⟨g, e, hg, hr⟩ := e2.row h0
      exact ⟨g, e, Nat.le_trans hN2 hg, hr⟩
     ·obtain ⟨hl, h0 | ⟨g, cap, cur, hv, hg0, r⟩⟩ := hs.dv
      ·exact ⟨hl, .inl h0⟩
      ·exact ⟨hl, .inr ⟨g, cap, cur, hv, Nat.le_trans hN2 hg0, r⟩⟩
    obtain ⟨L, hLe, hL⟩ := M3.ex
    have hLl : L.length ≤ 9223372036854775806 := by
     have := congrArg List.length hLe
     rw [List.length_map, List.length_take] at this
     omega
    have HAd := Hid.mk (zadd_in N w3 X N L hL hLl Z z hz3' HNm.out hN3)
    have HM3 := Hid.mk M3
    have HLe := Hid.mk hLe
    clear hz3 hz3' hb3 M3 hL hLe x2
    go_wp2_with fail
    refine HAd.out.mono ?_
    rintro e w4 ⟨⟨⟨p, hp, hpk⟩, rfl⟩ | ⟨hno, rfl, hL4⟩, hb4⟩
    ·have HNo : Hid (¬ okL l) := fun h => by
      have h2 := h.2
      rw [← List.take_append_drop (i + 1) l, HTk.out] at h2
      have h3 := (List.pairwise_append.1 (List.pairwise_append.1 h2).1).2.2 p.2 (by rw [← HLe.out]; exact List.mem_map_of_mem hp) z (by simp)
      exact h3 hpk
     have hbb := HM3.out.bel.trans hb4
     clear hpk
     go_wp2
     go_ret2
     exact ⟨.inr ⟨HNo.out, rfl⟩, hbb⟩
    ·have HE : Hid (NwS N W X N (l.take (i + 1)) w4) := by
      refine ⟨⟨L ++ [(Z, z)], by rw [List.map_append, HLe.out, HTk.out]; rfl, hL4⟩, ?_, HM3.out.bel.trans hb4⟩
      rw [HTk.out]
      refine ⟨fun x hx => ?_, List.pairwise_append.2 ⟨HM3.out.ok.2, by simp, fun a ha b hb => ?_⟩⟩
      ·rcases List.mem_append.1 hx with hx | hx
       ·exact HM3.out.ok.1 x hx
       ·obtain rfl := List.mem_singleton.1 hx; exact HRt.out
      ·obtain rfl := List.mem_singleton.1 hb
       rw [← HLe.out] at ha
       obtain ⟨p, hp, rfl⟩ := List.mem_map.1 ha
       exact hno p hp
     clear hno hL4 hb4
     go_wp2
     go_roundw
     case rel => exact ⟨i + 1, by omega, by first | rfl | go_num, HE⟩
     case measure => simp [intOf]; omega
  ·have hlz : ¬ (i : Int) < (n : Int) := by omega
   have HE : Hid (NwS N W X N l wr) := by
    have := HM.out
    rwa [List.take_of_length_le (by rw [HNL.out]; omega)] at this
   clear HM
   go_wp2
   go_ret2
   exact ⟨.inl ⟨HE.out.ok, X, N, rfl, HE.out.ex⟩, HE.out.bel⟩
end Go.Proofs.YtdlcldjlfhmlgaaGreatDoor
/- Layer 14: Answer. -/
namespace Go.Proofs.YtdlcldjlfhmlgaaGreatDoor
open Go.RowKit
end Go.Proofs.YtdlcldjlfhmlgaaGreatDoor
/- Layer 14: the chapter's examples, as lists. -/
namespace Go.Proofs.YtdlcldjlfhmlgaaGreatDoor
open Go.RowKit
theorem ok_dec {ls : N3} (h1 : ∀ l ∈ ls, 1 ≤ l.length ∧ l.length ≤ 63) (h2 : (flat ls).length ≤ 254) : OkN ls := ⟨h1, h2⟩
def exD : ByteArray := ⟨#[10, 0, 0, 1]⟩
def exR (n : N3) : Rc := ⟨nm n, 1, 1, 5, exD⟩
def n1 : N3 := [[97], [98], [115]]
def ns : N3 := [[115]]
def nr : N3 := [[114]]
def no : N3 := [[110, 111], [115]]
def z1 : Lc := ⟨nm ns, 3, [exR n1]⟩
def z2 : Lc := ⟨nm nr, 5, [exR nr]⟩
def z3 : Lc := ⟨nm no, 2, []⟩
end Go.Proofs.YtdlcldjlfhmlgaaGreatDoor
/- Layer 14: the examples' zones in memory. -/
namespace Go.Proofs.YtdlcldjlfhmlgaaGreatDoor
open Go.RowKit
end Go.Proofs.YtdlcldjlfhmlgaaGreatDoor
