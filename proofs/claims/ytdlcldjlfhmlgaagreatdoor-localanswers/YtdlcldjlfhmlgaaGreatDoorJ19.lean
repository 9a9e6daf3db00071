/- Texts of this proof, joined: LdF, LdM, LdN, LdP, LdR, LdU. -/
import Derived.Test.YtdlcldjlfhmlgaaGreatDoorJ17
import Derived.Test.YtdlcldjlfhmlgaaGreatDoorJ18
import Derived.Test.YtdlcldjlfhmlgaaGreatDoorJ13
set_option linter.unusedVariables false
set_option linter.unusedSimpArgs false
/- Layer 14: New. -/
namespace Go.Proofs.YtdlcldjlfhmlgaaGreatDoor
open Go.RowKit
open Go.MapKept Go.WideMaps
def LcsAt (w : World) (q : Option Addr) (l : List Lc) : Prop := ∀ j (hj : j < l.length), ∃ b off qr cr, q = some ⟨b, off, none⟩ ∧ b < w.heap.size ∧ w.cell? ⟨b, off + j * 3, none⟩ = some (.string l[j].nm) ∧ w.cell? ⟨b, off + j * 3 + 1, none⟩ = some (.int .i64 l[j].kd) ∧ w.cell? ⟨b, off + j * 3 + 2, none⟩ = some (.slice qr l[j].rs.length cr) ∧ RcsAt w qr l[j].rs
theorem LcsAt.blk {w w' : World} {q : Option Addr} {l : List Lc} (h : LcsAt w q l) (hb : Below w.heap.size w w') : LcsAt w' q l := fun j hj => by
 obtain ⟨b, off, qr, cr, e, hlt, c0, c1, c2, hr⟩ := h j hj
 have key : ∀ k, w'.cell? ⟨b, k, none⟩ = w.cell? ⟨b, k, none⟩ := fun k => hb.cell (p := ⟨b, k, none⟩) hlt
 exact ⟨b, off, qr, cr, e, Nat.lt_of_lt_of_le hlt hb.size, (key _).trans c0, (key _).trans c1, (key _).trans c2, hr.blk hb⟩
def LIn (l : List Lc) : Prop := ∀ z ∈ l, z.nm.size ≤ maxLen ∧ RIn z.rs ∧ z.rs.length ≤ maxLen ∧ I64 z.kd
def okL (l : List Lc) : Prop := (∀ z ∈ l, rightR z = true) ∧ l.Pairwise fun a b => zk a ≠ zk b
structure NwS (N : Nat) (W : World) (X M : Nat) (l : List Lc) (w : World) : Prop where
 ex : ∃ L : List (Nat × Lc), L.map Prod.snd = l ∧ Locs N w X M L
 ok : okL l
 bel : Below N W w
theorem NwS.blk {N : Nat} {W w w' : World} {X M : Nat} {l : List Lc} (h : NwS N W X M l w) (hN : N ≤ w.heap.size) (hb : Below w.heap.size w w') : NwS N W X M l w' := by
 obtain ⟨L, e, hl⟩ := h.ex
 exact ⟨⟨L, e, hl.blk hb⟩, h.ok, h.bel.trans (hb.mono hN)⟩
def NewP (N : Nat) (W : World) (l : List Lc) (e : Ending) (w' : World) : Prop := (okL l ∧ (∃ X M, e = .returned (.tuple #[ptA X 0, .int .i64 0]) ∧ ∃ L : List (Nat × Lc), L.map Prod.snd = l ∧ Locs N w' X M L) ∨ ¬ okL l ∧ e = .returned (.tuple #[.pointer none, .int .i64 12])) ∧ Below N W w'
set_option maxRecDepth 100000 in
set_option maxHeartbeats 2000000 in
theorem new14_in (W : World) (q : Option Addr) (cap : Nat) (l : List Lc) (hat : LcsAt W q l) (hin : LIn l) (hl : l.length ≤ 9223372036854775806) :
  Calls Tryz.prog 9 #[.slice q l.length cap] W fun e w' => NewP W.heap.size W l e w' := by
 obtain ⟨N, hN⟩ : ∃ N, W.heap.size = N := ⟨_, rfl⟩
 have HNN := Hid.mk hN
 have HBL : Hid (∀ w i, i < l.length → Below N W w → ∃ b off, q = some ⟨b, off, none⟩ ∧ ∃ (z : Lc) (qr : Option Addr) (cr : Nat), Hid (l[i]? = some z ∧ z ∈ l ∧ RcsAt w qr z.rs) ∧ w.cell? ⟨b, off + i * 3, none⟩ = some (.string z.nm) ∧ w.cell? ⟨b, off + i * 3 + 1, none⟩ = some (.int .i64 z.kd) ∧ w.cell? ⟨b, off + i * 3 + 2, none⟩ = some (.slice qr z.rs.length cr)) := by
  intro w i hi hb
  rw [← hN] at hb
  obtain ⟨b, off, qr, cr, e, _, c0, c1, c2, hr⟩ := hat.blk hb i hi
  exact ⟨b, off, e, l[i], qr, cr, ⟨List.getElem?_eq_getElem _, List.getElem_mem hi, hr⟩, c0, c1, c2⟩
 have m1 := (MapF.made 9 plR W).congr (g := zF []) (fun s => rfl)
 have b1 : Below W.heap.size W (W.alloc (.map #[] 0)) := (Below.refl _ _).alloc (Nat.le_refl _) _
 have b2 : Below (W.alloc (.map #[] 0)).heap.size (W.alloc (.map #[] 0)) ((W.alloc (.map #[] 0)).alloc (.cells #[.map (some W.heap.size)] 82)) := (Below.refl _ _).alloc (Nat.le_refl _) _
 have hxb := heap_alloc_new (W.alloc (.map #[] 0)) (.cells #[.map (some W.heap.size)] 82)
 have M1 := m1.blk b2
 have hB := b1.trans (b2.mono (by simp))
 rw [World.size_alloc] at hxb
 rw [hN] at M1 hxb hB ⊢
 have HM0 : Hid (NwS N W (N + 1) N (l.take 0) ((W.alloc (.map #[] 0)).alloc (.cells #[.map (some N)] 82))) := by
  refine ⟨⟨[], by simp, ⟨by omega, Nat.le_refl _, hxb, ⟨0, Nat.le_refl _, M1⟩, by simp⟩⟩, ⟨by simp, by simp⟩, hB⟩
 have hmm := @run_makeMap Tryz.prog
 obtain ⟨n, hn⟩ : ∃ n, l.length = n := ⟨_, rfl⟩
 have HNL := Hid.mk hn
 have HIN := Hid.mk hin
 rw [hn] at HBL hl ⊢
 obtain ⟨X, hX⟩ : ∃ X, N + 1 = X := ⟨_, rfl⟩
 have HXe := Hid.mk hX
 clear hat hin m1 b1 b2 hxb M1 hB hn
 go_enter Tryz.func9, Tryz.ntmps9
 go_wp2
 rw [hX] at HM0
 obtain ⟨V, hV⟩ : ∃ V, (W.alloc (.map #[] 0)).alloc (.cells #[.map (some N)] 82) = V := ⟨_, rfl⟩
 rw [hV] at HM0 ⊢
 clear hV hX hmm hN
 go_loopw [12] (fun iv wr => ∃ i : Nat, i ≤ n ∧ iv = .int .i64 (i : Int) ∧ Hid (NwS N W X N (l.take i) wr)) (fun iv _ => n - (intOf iv).toNat)
 case atStart => exact ⟨0, Nat.zero_le _, rfl, HM0.out⟩
 case round =>
  obtain ⟨i, hi, rfl, HM⟩ := hrel
  by_cases hlt : i < n
  ·have hlz : (i : Int) < (n : Int) := by omega
   obtain ⟨b, off, rfl, z, qr, cr, hzi, c0, c1, c2⟩ := HBL.out wr i hlt HM.out.bel
   obtain ⟨o1, o2, o3, o4⟩ := HIN.out z hzi.out.2.1
   have hNr : N ≤ wr.heap.size := by rw [← HNN.out]; exact HM.out.bel.size
   have wi : IntKind.i64.wrap ((i : Int) + 1) = ((i + 1 : Nat) : Int) := by rw [IntKind.wrap_i64]; omega
   obtain ⟨V1, hV1⟩ : ∃ V1, wr.alloc (.cells #[.string z.nm, .int .i64 z.kd, .slice qr z.rs.length cr] 26) = V1 := ⟨_, rfl⟩
   have X0 : Bx wr wr.heap.size [.string z.nm, .int .i64 z.kd, .slice qr z.rs.length cr] 26 V1 := hV1 ▸ Bx.new wr _ _
   have HV1 := Hid.mk hV1
   have MV := Hid.mk (HM.out.blk hNr X0.bel)
   have hNV : N ≤ V1.heap.size := Nat.le_trans hNr X0.bel.size
   have x0 := X0.cells3
   obtain ⟨B, hBe⟩ : ∃ B, wr.heap.size = B := ⟨_, rfl⟩
   have HB := Hid.mk hBe
   rw [hBe] at x0
   have HRi := Hid.mk (lright_in z o1 o2 qr cr V1 (hzi.out.2.2.blk X0.bel) o3)
   have HBC := Hid.mk (fun w (hb : Below V1.heap.size V1 w) => (X0.blk hb).cells3)
   have HRa : Hid (∀ w, Below V1.heap.size V1 w → RcsAt w qr z.rs) := fun w hb => (hzi.out.2.2.blk X0.bel).blk hb
   have HTk : Hid (l.take (i + 1) = l.take i ++ [z]) := by
    obtain ⟨g1, g2⟩ := List.getElem?_eq_some_iff.1 hzi.out.1
    show _ = _
    rw [List.take_succ_eq_append_getElem g1, g2]
   have HTm : Hid (∀ x, x ∈ l.take (i + 1) → x ∈ l) := fun x hx => List.mem_of_mem_take hx
   clear hV1 hBe X0
   cases hri : rightR z with
   | false =>
    rw [hri] at HRi
    have HNo : Hid (¬ okL l) := fun h => by have := h.1 z hzi.out.2.1; rw [hri] at this; cases this
    clear hri
    go_upto_region 5 with fail
    rw [HV1.out, HB.out]
    go_wp2_with fail
    refine HRi.out.mono ?_
    rintro e w2 ⟨rfl, hb2⟩
    have hbb := (MV.out.blk hNV hb2).bel
    clear hb2
    go_wp2
    go_ret2
    exact ⟨.inr ⟨HNo.out, rfl⟩, hbb⟩
   | true =>
    rw [hri] at HRi
    have HZo : Hid (∀ w, Below V1.heap.size V1 w → Calls Tryz.prog 27 #[.agg #[.string z.nm, .int .i64 z.kd, .slice qr z.rs.length cr]] w fun e w' => ∃ Z, e = .returned (ptA Z 0) ∧ ZoneAt w.heap.size w' Z z ∧ Below w.heap.size w w') := fun w hb => zoneOf_in z hri o2 qr cr w (HRa.out w hb)
    have HRt := Hid.mk hri
    have HNm := Hid.mk (zone_ty hri).1
    clear hri
    go_upto_region 5 with fail
    rw [HV1.out, HB.out]
    go_wp2_with fail
    refine HRi.out.mono ?_
    rintro e w2 ⟨rfl, hb2⟩
    have x2 := HBC.out _ hb2
    rw [HB.out] at x2
    have HZ2 := Hid.mk (HZo.out _ hb2)
    have M2 := Hid.mk (MV.out.blk hNV hb2)
    have hN2 : N ≤ w2.heap.size := Nat.le_trans hNV hb2.size
    clear hb2 x0
    go_wp2_with fail
    refine HZ2.out.mono ?_
    rintro e w3 ⟨Z, rfl, hz3, hb3⟩
    have M3 := M2.out.blk hN2 hb3
    have hN3 : N ≤ w3.heap.size := Nat.le_trans hN2 hb3.size
    have hz3' : ZoneAt N w3 Z z := by
     obtain ⟨v, els, qz, cz, e1, e2⟩ := hz3.blk
     refine ⟨Nat.le_trans hN2 hz3.nZ, v, els, qz, cz, e1, e2.v, e2.le, fun h0 => ?_, e2.rel.mono fun e s hs => ⟨hs.ls, hs.ty, hs.cl, hs.tl, hs.sv, ?_⟩⟩
     ·obtain ⟨g, e, hg, hr⟩ := e2.row h0
      exact ⟨g, e, Nat.le_trans hN2 hg, hr⟩
     ·obtain ⟨hl, h0 | ⟨g, cap, cur, hv, hg0, r⟩⟩ := hs.dv
      ·exact ⟨hl, .inl h0⟩
      ·exact ⟨hl, .inr ⟨g, cap, cur, hv, Nat.le_trans hN2 hg0, r⟩⟩
    obtain ⟨L, hLe, hL⟩ := M3.ex
    have hLl : L.length ≤ 9223372036854775806 := by
     have := congrArg List.length hLe
     rw [List.length_map, List.length_take] at this
     omega
    have HAd := Hid.mk (zadd_in N w3 X N L hL hLl Z z hz3' HNm.out hN3)
    have HM3 := Hid.mk M3
    have HLe := Hid.mk hLe
    clear hz3 hz3' hb3 M3 hL hLe x2
    go_wp2_with fail
    refine HAd.out.mono ?_
    rintro e w4 ⟨⟨⟨p, hp, hpk⟩, rfl⟩ | ⟨hno, rfl, hL4⟩, hb4⟩
    ·have HNo : Hid (¬ okL l) := fun h => by
      have h2 := h.2
      rw [← List.take_append_drop (i + 1) l, HTk.out] at h2
      have h3 := (List.pairwise_append.1 (List.pairwise_append.1 h2).1).2.2 p.2 (by rw [← HLe.out]; exact List.mem_map_of_mem hp) z (by simp)
      exact h3 hpk
     have hbb := HM3.out.bel.trans hb4
     clear hpk
     go_wp2
     go_ret2
     exact ⟨.inr ⟨HNo.out, rfl⟩, hbb⟩
    ·have HE : Hid (NwS N W X N (l.take (i + 1)) w4) := by
      refine ⟨⟨L ++ [(Z, z)], by rw [List.map_append, HLe.out, HTk.out]; rfl, hL4⟩, ?_, HM3.out.bel.trans hb4⟩
      rw [HTk.out]
      refine ⟨fun x hx => ?_, List.pairwise_append.2 ⟨HM3.out.ok.2, by simp, fun a ha b hb => ?_⟩⟩
      ·rcases List.mem_append.1 hx with hx | hx
       ·exact HM3.out.ok.1 x hx
       ·obtain rfl := List.mem_singleton.1 hx; exact HRt.out
      ·obtain rfl := List.mem_singleton.1 hb
       rw [← HLe.out] at ha
       obtain ⟨p, hp, rfl⟩ := List.mem_map.1 ha
       exact hno p hp
     clear hno hL4 hb4
     go_wp2
     go_roundw
     case rel => exact ⟨i + 1, by omega, by first | rfl | go_num, HE⟩
     case measure => simp [intOf]; omega
  ·have hlz : ¬ (i : Int) < (n : Int) := by omega
   have HE : Hid (NwS N W X N l wr) := by
    have := HM.out
    rwa [List.take_of_length_le (by rw [HNL.out]; omega)] at this
   clear HM
   go_wp2
   go_ret2
   exact ⟨.inl ⟨HE.out.ok, X, N, rfl, HE.out.ex⟩, HE.out.bel⟩
end Go.Proofs.YtdlcldjlfhmlgaaGreatDoor
/- Layer 14: Answer. -/
namespace Go.Proofs.YtdlcldjlfhmlgaaGreatDoor
open Go.RowKit
noncomputable def ansP (L : List (Nat × Lc)) (s : ByteArray) (kind : Int) : Int × List St := match nearP L s with | none => (0, []) | some p => ansZ p.2 (lb s) kind
theorem nearL_snd : ∀ (L : List (Nat × Lc)) (n : N3), (nearL L n).map Prod.snd = nearR (L.map Prod.snd) n := by
 intro L n
 have hf : ∀ k, (L.find? (kz k)).map Prod.snd = (L.map Prod.snd).find? (keyZ k) := by
  intro k
  induction L with
  | nil => rfl
  | cons p L ih =>
   rw [List.map_cons, List.find?_cons, List.find?_cons]
   have : kz k p = keyZ k p.2 := rfl
   rw [this]
   cases keyZ k p.2 with
   | true => rfl
   | false => exact ih
 induction n with
 | nil => rw [nearL, nearR]; exact hf []
 | cons l n ih =>
  rw [nearL, nearR, ← hf (l :: n)]
  cases L.find? (kz (l :: n)) with
  | none => exact ih
  | some p => rfl
theorem ansP_eq (L : List (Nat × Lc)) (s : ByteArray) (kind : Int) : ansP L s kind = ansR (L.map Prod.snd) s kind := by
 unfold ansP ansR nearP near
 cases isN s with
 | false => rfl
 | true =>
  simp only [if_true]
  rw [← nearL_snd]
  cases nearL L (lowN (lb s)) <;> rfl
end Go.Proofs.YtdlcldjlfhmlgaaGreatDoor
/- Layer 14: the chapter's examples, as lists. -/
namespace Go.Proofs.YtdlcldjlfhmlgaaGreatDoor
open Go.RowKit
theorem ok_dec {ls : N3} (h1 : ∀ l ∈ ls, 1 ≤ l.length ∧ l.length ≤ 63) (h2 : (flat ls).length ≤ 254) : OkN ls := ⟨h1, h2⟩
def exD : ByteArray := ⟨#[10, 0, 0, 1]⟩
theorem dRt_a : dRt 1 exD = true := by
 unfold dRt
 have : splitR 1 exD = some [exD] := (split_iff 1 exD [exD]).2 ⟨by decide, by decide, by rfl, by
  have : formOf 1 = [.grp 4 1 10 46] := rfl
  rw [this]
  exact ⟨rfl, trivial⟩⟩
 rw [this]
 rfl
def exR (n : N3) : Rc := ⟨nm n, 1, 1, 5, exD⟩
theorem sets_a {n : N3} (h : OkN n) : setsR [exR n] = [⟨n, 1, 1, 5, [exD]⟩] := by
 have h1 : rOk (exR n) = true := by
  unfold rOk exR
  simp only
  rw [isN_yes ⟨n, h, rfl⟩, dRt_a]
  rfl
 have h2 : mks (exR n).ty = true := rfl
 unfold setsR
 simp only [List.foldl_cons, List.foldl_nil]
 unfold stepR
 rw [h1, h2]
 simp only [Bool.and_self, if_true, addR]
 unfold newS exR
 simp only
 rw [lb_nm h]
 rfl
theorem zsets_a {n : N3} (h : OkN n) : zsets [exR n] = [⟨n, 1, 1, 5, [exD]⟩] := by unfold zsets; rw [sets_a h, So.isort_one]
theorem rcR_a {n : N3} (h : OkN n) : rcR (exR n) = true := by
 unfold rcR
 rw [sets_a h]
 rfl
def n1 : N3 := [[97], [98], [115]]
def ns : N3 := [[115]]
def nr : N3 := [[114]]
def no : N3 := [[110, 111], [115]]
theorem ok_1 : OkN n1 := ok_dec (by decide) (by decide)
theorem ok_s : OkN ns := ok_dec (by decide) (by decide)
theorem ok_r : OkN nr := ok_dec (by decide) (by decide)
theorem ok_o : OkN no := ok_dec (by decide) (by decide)
def z1 : Lc := ⟨nm ns, 3, [exR n1]⟩
def z2 : Lc := ⟨nm nr, 5, [exR nr]⟩
def z3 : Lc := ⟨nm no, 2, []⟩
def exL : List Lc := [z1, z2, z3]
theorem right_1 : rightR z1 = true := by
 unfold rightR z1
 simp only [List.all_cons, List.all_nil, Bool.and_true]
 rw [isN_yes ⟨ns, ok_s, rfl⟩, rcR_a ok_1]
 have : plcR (exR n1).nm ⟨nm ns, 3, [exR n1]⟩ = true := by
  unfold plcR exR
  simp only
  rw [if_pos (.inl trivial), undF_nm ok_1 ok_s]
  decide
 rw [this]
 decide
theorem right_2 : rightR z2 = true := by
 unfold rightR z2
 simp only [List.all_cons, List.all_nil, Bool.and_true]
 rw [isN_yes ⟨nr, ok_r, rfl⟩, rcR_a ok_r]
 have : plcR (exR nr).nm ⟨nm nr, 5, [exR nr]⟩ = true := by
  unfold plcR exR
  simp only
  rw [if_neg (by decide), if_pos trivial, eqF_nm ok_r ok_r]
  decide
 rw [this]
 decide
theorem right_3 : rightR z3 = true := by
 unfold rightR z3
 simp only [List.all_nil, Bool.and_true]
 rw [isN_yes ⟨no, ok_o, rfl⟩]
 decide
theorem zk_nm {a : N3} (h : OkN a) (k : Int) (rs : List Rc) : zk ⟨nm a, k, rs⟩ = (nm (lowN a)).data.toList := by unfold zk; simp only; rw [lb_nm h]
theorem okL_ex : okL exL := by
 refine ⟨fun z hz => ?_, ?_⟩
 ·simp only [exL, List.mem_cons, List.not_mem_nil, or_false] at hz
  rcases hz with rfl | rfl | rfl
  ·exact right_1
  ·exact right_2
  ·exact right_3
 ·unfold exL
  simp only [List.pairwise_cons, List.mem_cons, List.not_mem_nil, or_false, forall_eq_or_imp, forall_eq]
  unfold z1 z2 z3
  simp only [zk_nm ok_s, zk_nm ok_r, zk_nm ok_o]
  refine ⟨⟨by decide, by decide⟩, by decide, ?_⟩
  simp
theorem not_empty : ¬ okL [⟨⟨#[]⟩, 0, []⟩] := by
 intro h
 have := h.1 _ (List.mem_singleton.2 rfl)
 unfold rightR at this
 simp at this
theorem keyZ_nm {a : N3} (h : OkN a) (k : N3) (kd : Int) (rs : List Rc) : keyZ k ⟨nm a, kd, rs⟩ = decide (lowN a = k) := by
 unfold keyZ
 simp only
 rw [lb_nm h]
theorem near_ex {n : N3} (hn : OkN n) (kind : Int) : ansR exL (nm n) kind = match nearR exL (lowN n) with | none => (0, []) | some z => ansZ z n kind := by
 unfold ansR near
 rw [isN_yes ⟨n, hn, rfl⟩, if_pos rfl, lb_nm hn]
 cases nearR exL (lowN n) <;> rfl
theorem find_ex (k : N3) : exL.find? (keyZ k) = if lowN ns = k then some z1 else if lowN nr = k then some z2 else if lowN no = k then some z3 else none := by
 unfold exL
 rw [List.find?_cons, List.find?_cons, List.find?_cons, List.find?_nil]
 unfold z1 z2 z3
 rw [keyZ_nm ok_s, keyZ_nm ok_r, keyZ_nm ok_o]
 by_cases h1 : lowN ns = k
 ·simp [h1]
 ·by_cases h2 : lowN nr = k
  ·simp [h1, h2]
  ·by_cases h3 : lowN no = k <;> simp [h1, h2, h3]
theorem ans_z1 (n : N3) (kind : Int) : ansZ z1 n kind = stcR [⟨n1, 1, 1, 5, [exD]⟩] n ns kind := by
 unfold ansZ z1
 simp only
 rw [if_neg (by decide), if_neg (by decide), if_pos trivial, zsets_a ok_1, lb_nm ok_s]
theorem ans_z2 (n : N3) (kind : Int) : ansZ z2 n kind = chosR [⟨nr, 1, 1, 5, [exD]⟩] n kind := by
 unfold ansZ z2
 simp only
 rw [if_neg (by decide), if_neg (by decide), if_neg (by decide), if_neg (by decide), zsets_a ok_r]
theorem ans_z3 (n : N3) (kind : Int) : ansZ z3 n kind = (2, []) := by
 unfold ansZ z3
 simp only
 rw [if_neg (by decide), if_pos trivial]
theorem ex_b : ansR exL (nm n1) 1 = (3, [⟨n1, 1, 1, 5, [exD]⟩]) := by
 rw [near_ex ok_1]
 have : nearR exL (lowN n1) = some z1 := by
  have e : lowN n1 = [[97], [98], [115]] := by decide
  rw [e]
  simp only [nearR, find_ex]
  rfl
 rw [this]
 simp only
 rw [ans_z1]
 rfl
theorem ex_c : ansR exL (nm [[98], [115]]) 1 = (4, []) := by
 rw [near_ex (ok_dec (by decide) (by decide))]
 have : nearR exL (lowN [[98], [115]]) = some z1 := by
  have e : lowN [[98], [115]] = [[98], [115]] := by decide
  rw [e]
  simp only [nearR, find_ex]
  rfl
 rw [this]
 simp only
 rw [ans_z1]
 rfl
theorem ex_d : ansR exL (nm [[99], [115]]) 1 = (5, []) := by
 rw [near_ex (ok_dec (by decide) (by decide))]
 have : nearR exL (lowN [[99], [115]]) = some z1 := by
  have e : lowN [[99], [115]] = [[99], [115]] := by decide
  rw [e]
  simp only [nearR, find_ex]
  rfl
 rw [this]
 simp only
 rw [ans_z1]
 rfl
theorem ex_g : ansR exL (nm [[113], [114]]) 1 = (3, [⟨[[113], [114]], 1, 1, 5, [exD]⟩]) := by
 rw [near_ex (ok_dec (by decide) (by decide))]
 have : nearR exL (lowN [[113], [114]]) = some z2 := by
  have e : lowN [[113], [114]] = [[113], [114]] := by decide
  rw [e]
  simp only [nearR, find_ex]
  rfl
 rw [this]
 simp only
 rw [ans_z2]
 rfl
theorem ex_h : ansR exL (nm [[120], [110, 111], [115]]) 1 = (2, []) := by
 rw [near_ex (ok_dec (by decide) (by decide))]
 have : nearR exL (lowN [[120], [110, 111], [115]]) = some z3 := by
  have e : lowN [[120], [110, 111], [115]] = [[120], [110, 111], [115]] := by decide
  rw [e]
  simp only [nearR, find_ex]
  rfl
 rw [this]
 simp only
 rw [ans_z3]
theorem ex_i : ansR exL (nm []) 1 = (0, []) := by
 rw [near_ex (ok_dec (by decide) (by decide))]
 have : nearR exL (lowN []) = none := by
  have e : lowN [] = [] := by decide
  rw [e]
  simp only [nearR, find_ex]
  rfl
 rw [this]
end Go.Proofs.YtdlcldjlfhmlgaaGreatDoor
/- Layer 14: the examples' zones in memory. -/
namespace Go.Proofs.YtdlcldjlfhmlgaaGreatDoor
open Go.RowKit
theorem e_1 : (⟨#[1, 97, 1, 98]⟩ : ByteArray) ++ ⟨#[1, 115, 0]⟩ = nm n1 := by rfl
theorem e_s : (⟨#[1, 115, 0]⟩ : ByteArray) = nm ns := by rfl
theorem e_r : (⟨#[1, 114, 0]⟩ : ByteArray) = nm nr := by rfl
theorem e_o : (⟨#[2, 110, 111]⟩ : ByteArray) ++ ⟨#[1, 115, 0]⟩ = nm no := by rfl
theorem e_c : (⟨#[1, 98]⟩ : ByteArray) ++ ⟨#[1, 115, 0]⟩ = nm [[98], [115]] := by rfl
theorem e_d : (⟨#[1, 99]⟩ : ByteArray) ++ ⟨#[1, 115, 0]⟩ = nm [[99], [115]] := by rfl
theorem e_g : (⟨#[1, 113, 1, 114, 0]⟩ : ByteArray) = nm [[113], [114]] := by rfl
theorem e_h : (⟨#[1, 120, 2, 110, 111]⟩ : ByteArray) ++ ⟨#[1, 115, 0]⟩ = nm [[120], [110, 111], [115]] := by rfl
theorem e_i : (⟨#[0]⟩ : ByteArray) = nm [] := by rfl
theorem rec_at {w : World} {b : Nat} {n : N3} (h : w.heap[b]? = some (.cells #[.string (nm n), .int .i64 1, .int .i64 1, .int .i64 5, .string exD] 33 (0, 0))) : RcsAt w (some ⟨b, 0, none⟩) [exR n] := by
 intro j hj
 have : j = 0 := by simpa using hj
 subst this
 refine ⟨b, 0, rfl, (Array.getElem?_eq_some_iff.1 h).1, ?_, ?_, ?_, ?_, ?_⟩
 all_goals rw [So.cell_blk h]; rfl
theorem ex_at {w : World} {b1 b2 b3 : Nat} (h1 : w.heap[b1]? = some (.cells #[.string (nm n1), .int .i64 1, .int .i64 1, .int .i64 5, .string exD] 33 (0, 0))) (h2 : w.heap[b2]? = some (.cells #[.string (nm nr), .int .i64 1, .int .i64 1, .int .i64 5, .string exD] 33 (0, 0)))
  (h3 : w.heap[b3]? = some (.cells #[.string (nm ns), .int .i64 3, .slice (some ⟨b1, 0, none⟩) 1 1, .string (nm nr), .int .i64 5, .slice (some ⟨b2, 0, none⟩) 1 1, .string (nm no), .int .i64 2, .slice none 0 0] 26 (0, 0))) : LcsAt w (some ⟨b3, 0, none⟩) exL := by
 have hlt := (Array.getElem?_eq_some_iff.1 h3).1
 intro j hj
 have : j = 0 ∨ j = 1 ∨ j = 2 := by simp [exL] at hj; omega
 rcases this with rfl | rfl | rfl
 ·exact ⟨b3, 0, some ⟨b1, 0, none⟩, 1, rfl, hlt, by rw [So.cell_blk h3]; rfl, by rw [So.cell_blk h3]; rfl, by rw [So.cell_blk h3]; rfl, rec_at h1⟩
 ·exact ⟨b3, 0, some ⟨b2, 0, none⟩, 1, rfl, hlt, by rw [So.cell_blk h3]; rfl, by rw [So.cell_blk h3]; rfl, by rw [So.cell_blk h3]; rfl, rec_at h2⟩
 ·exact ⟨b3, 0, none, 0, rfl, hlt, by rw [So.cell_blk h3]; rfl, by rw [So.cell_blk h3]; rfl, by rw [So.cell_blk h3]; rfl, fun j hj => by simp [exL, z3] at hj⟩
theorem rin_a {n : N3} (h : OkN n) : RIn [exR n] := by
 intro r hr
 obtain rfl := List.mem_singleton.1 hr
 refine ⟨?_, (by decide : exD.size ≤ maxLen), (⟨by decide, by decide⟩ : I64 1), (⟨by decide, by decide⟩ : I64 1)⟩
 show (nm n).size ≤ maxLen
 rw [nm_size]
 have := h.len
 unfold maxLen
 omega
theorem nm_le {n : N3} (h : OkN n) : (nm n).size ≤ maxLen := by rw [nm_size]; have := h.len; unfold maxLen; omega
theorem ex_in : LIn exL := by
 intro z hz
 simp only [exL, List.mem_cons, List.not_mem_nil, or_false] at hz
 rcases hz with rfl | rfl | rfl
 ·exact ⟨nm_le ok_s, rin_a ok_1, by decide, by decide, by decide⟩
 ·exact ⟨nm_le ok_r, rin_a ok_r, by decide, by decide, by decide⟩
 ·exact ⟨nm_le ok_o, fun r hr => by simp [z3] at hr, by decide, by decide, by decide⟩
def emL : List Lc := [⟨⟨#[]⟩, 0, []⟩]
theorem em_at {w : World} {b : Nat} (h : w.heap[b]? = some (.cells #[.string ⟨#[]⟩, .int .i64 0, .slice none 0 0] 26 (0, 0))) : LcsAt w (some ⟨b, 0, none⟩) emL := by
 intro j hj
 have : j = 0 := by simp [emL] at hj; omega
 subst this
 exact ⟨b, 0, none, 0, rfl, (Array.getElem?_eq_some_iff.1 h).1, by rw [So.cell_blk h]; rfl, by rw [So.cell_blk h]; rfl, by rw [So.cell_blk h]; rfl, fun j hj => by simp [emL] at hj⟩
theorem em_in : LIn emL := by
 intro z hz
 obtain rfl := List.mem_singleton.1 hz
 exact ⟨by decide, fun r hr => by simp at hr, by decide, by decide, by decide⟩
theorem name_of {N : Nat} {w : World} {v : Value} {s : St} (h : SetsAt N w v [s]) : ∃ g cap, v = .slice (some ⟨g, 0, none⟩) 1 cap ∧ w.cell? ⟨g, 0, none⟩ = some (.string (nm s.ls)) := by
 obtain ⟨els, hr, hf⟩ := h
 have hl : els.length = 1 := hf.len
 obtain ⟨g, cap, hv, _, hs⟩ := srow_form hr (by omega)
 refine ⟨g, cap, by rw [hv, hl], ?_⟩
 have := hs.cell 0 (by omega) 0 (by decide)
 rw [Nat.zero_mul] at this
 rw [this]
 have e := (hf.at 0 (by omega) (by simp)).ls
 simp only [List.getElem_cons_zero] at e
 rw [← e]
 rfl
end Go.Proofs.YtdlcldjlfhmlgaaGreatDoor
/- Layer 14: a zone by itself. -/
namespace Go.Proofs.YtdlcldjlfhmlgaaGreatDoor
open Go.RowKit
end Go.Proofs.YtdlcldjlfhmlgaaGreatDoor
/- Layer 14: what letters change. -/
namespace Go.Proofs.YtdlcldjlfhmlgaaGreatDoor
open Go.RowKit
theorem near_mem {zs : List Lc} : ∀ {n : N3} {z : Lc}, nearR zs n = some z → z ∈ zs ∧ lowN (lb z.nm) <:+ n
 | [], z, h => by
  rw [nearR] at h
  have hk := List.find?_some h
  unfold keyZ at hk
  rw [of_decide_eq_true hk]
  exact ⟨List.mem_of_find?_eq_some h, List.suffix_refl _⟩
 | l :: n, z, h => by
  rw [nearR] at h
  split at h
  ·rename_i q hq
   cases h
   have hk := List.find?_some hq
   unfold keyZ at hk
   rw [of_decide_eq_true hk]
   exact ⟨List.mem_of_find?_eq_some hq, List.suffix_refl _⟩
  ·obtain ⟨h1, h2⟩ := near_mem h
   exact ⟨h1, h2.trans (List.suffix_cons _ _)⟩
theorem near_same {zs : List Lc} (hok : okL zs) {z y : Lc} (hz : z ∈ zs) (hy : y ∈ zs) (h : eqF y.nm z.nm = true) : y = z := by
 obtain ⟨h1, h2⟩ := lb_ok (zone_ty (hok.1 z hz)).1
 obtain ⟨g1, g2⟩ := lb_ok (zone_ty (hok.1 y hy)).1
 have e : eqB (lb y.nm) (lb z.nm) = true := by
  rw [← eqF_nm g1 h1, ← g2, ← h2]
  exact h
 have hk : zk y = zk z := by
  unfold zk
  unfold eqB at e
  rw [of_decide_eq_true e]
 obtain ⟨i, hi, rfl⟩ := List.getElem_of_mem hy
 obtain ⟨j, hj, rfl⟩ := List.getElem_of_mem hz
 have hp := List.pairwise_iff_getElem.1 hok.2
 rcases Nat.lt_trichotomy i j with hlt | he | hlt
 ·exact absurd hk (hp i j hi hj hlt)
 ·subst he; rfl
 ·exact absurd hk.symm (hp j i hj hi hlt)
end Go.Proofs.YtdlcldjlfhmlgaaGreatDoor
