/- Texts of this proof, joined: LhB. -/
import Derived.Deep.RegionHeld3
import Derived.Test.YtdlcldjlfhmlgaaGreatDoorJ31
import Derived.Test.YtdlcldjlfhmlgaaGreatDoorJ37
import Derived.Test.YtdlcldjlfhmlgaaGreatDoorJ36
import Derived.Test.YtdlcldjlfhmlgaaGreatDoorJ35
import Derived.Test.YtdlcldjlfhmlgaaGreatDoorJ38
set_option linter.unusedVariables false
set_option linter.unusedSimpArgs false
/- Layer 14: LocalAnswers' walk. -/
namespace Go.Proofs.YtdlcldjlfhmlgaaGreatDoor
open Go.RowKit
open So (El elC SRow)
theorem D.ask_any {N : Nat} {w : World} {X M : Nat} {L : List (Nat × Lc)} {l : List Lc} (h : Locs N w X M L) (hL : L.map Prod.snd = l) (hl : ∀ z ∈ l, ZOk z) (s : ByteArray) (hs : s.size ≤ maxLen) (kind : Int) : Calls Tryz.prog 14 #[ptA X 0, .string s, .int .i64 kind] w fun e w' => D.AnP w (ansR l s kind) e w' := by
 have hz : ∀ p ∈ L, ZOk p.2 := fun p hp => hl _ (by rw [← hL]; exact List.mem_map_of_mem hp)
 have := D.answer_in N w X M L h hz s hs kind
 rw [ansP_eq, hL] at this
 exact this
def blkO (q : Option Addr) : Nat := match q with | some a => a.block | none => 0
theorem lq_cell {N : Nat} {W : World} (hN : W.heap.size = N) {q : Option Addr} {l : List Lc} (h : LqAt W q l) (hin : LqIn l) (i : Nat) (hi : i < l.length) : ∃ (b off : Nat) (qr : Option Addr) (cr : Nat) (z : Lc), q = some ⟨b, off, none⟩ ∧ Hid (l[i]? = some z ∧ ShC z.rs.length cr qr ∧ z.rs.length * 56 ≤ 140737488351232 ∧ b < N) ∧ Hid (∀ w, Below N W w → RcsAt w qr z.rs ∧ w.cell? ⟨b, off + i * 3, none⟩ = some (.string z.nm) ∧ w.cell? ⟨b, off + i * 3 + 1, none⟩ = some (.int .i64 z.kd) ∧ w.cell? ⟨b, off + i * 3 + 2, none⟩ = some (.slice qr z.rs.length cr)) := by
 subst hN
 obtain ⟨b, off, qr, cr, e, hlt, c0, c1, c2, hr, hs⟩ := h i hi
 refine ⟨b, off, qr, cr, l[i], e, ⟨List.getElem?_eq_getElem hi, hs, hin.2 _ (List.getElem_mem hi), hlt⟩, fun w hb => ?_⟩
 have key : ∀ k, w.cell? ⟨b, k, none⟩ = W.cell? ⟨b, k, none⟩ := fun k => hb.cell (p := ⟨b, k, none⟩) hlt
 exact ⟨rcs_blk hr hb, (key _).trans c0, (key _).trans c1, (key _).trans c2⟩
theorem ws_le {N N0 : Nat} {w : World} {v : Value} {els : List El} {ss : List St} (h : WS N N0 w v els (pz ss)) : ss.length ≤ 9223372036854775807 := by
 have e := h.rel.len
 rw [pz_len] at e
 rw [← e]
 obtain ⟨_, ⟨_, h0⟩ | ⟨g, cap, cur, hv, hg0, hg, hn, hm, _⟩⟩ := h.row
 ·omega
 ·unfold maxLen at hm; omega
theorem cell_lt {w : World} {g k : Nat} {v : Value} (h : w.cell? ⟨g, k, none⟩ = some v) : g < w.heap.size := by
 unfold World.cell? at h
 cases hb : w.heap[(⟨g, k, none⟩ : Addr).block]? with
 | none => rw [hb] at h; cases h
 | some o => exact (Array.getElem?_eq_some_iff.1 hb).1
section
attribute [local go_sem ↓] app_aRc app_aLc
set_option maxRecDepth 100000 in
set_option maxHeartbeats 16000000 in
theorem answers_walk (W : World) (q : Option Addr) (cap : Nat) (l : List Lc) (hat0 : LqAt W q l) (hin0 : LqIn l) (hsh0 : ShC l.length cap q) (s : ByteArray) (hs : s.size ≤ maxLen) (kind : Int) :
  Calls Tryz.prog 3 #[.slice q l.length cap, .string s, .int .i64 kind] W fun e w' => e = .returned (.bool true) ∧ Below W.heap.size W w' := by
 have HE := Hid.mk (D.examples14_in W)
 obtain ⟨N, hN⟩ : ∃ N, W.heap.size = N := ⟨_, rfl⟩
 have HSZ : Hid (∀ w, Below N W w → N ≤ w.heap.size) := fun w h => by rw [← hN]; exact h.size
 obtain ⟨m, hm⟩ : ∃ m, l.length = m := ⟨_, rfl⟩
 rw [hm] at hsh0 ⊢
 obtain ⟨n, hk⟩ : ∃ n : Nat, min m 12 = n := ⟨_, rfl⟩
 have hmn : min (m : Int) 12 = (n : Int) := by omega
 have hkc : (n : Int) ≤ (cap : Int) := by have := hsh0.1; omega
 have hn12 : n ≤ 12 := by omega
 obtain ⟨l', hl'⟩ : ∃ l', l.take 12 = l' := ⟨_, rfl⟩
 have hln : l'.length = n := by rw [← hl', List.length_take, hm]; omega
 have hat : LqAt W q l' := hl' ▸ hat0.take 12
 have hin : LqIn l' := hl' ▸ hin0.take 12
 have HLn := Hid.mk hln
 have HN12 := Hid.mk hn12
 have HAt : Hid (∀ w, Below N W w → LcsAt w q l') := fun w hb => hat.locs.blk (by rw [hN]; exact hb)
 have HIn : Hid (LIn l') := hin.1
 have HOkN : Hid (LOk l') := fun z hz => ⟨(hin.1 z hz).1, fun r hr => ⟨((hin.1 z hz).2.1 r hr).1, ((hin.1 z hz).2.1 r hr).2.1⟩, (hin.1 z hz).2.2.1⟩
 have HCell : Hid (∀ i, i < n → ∃ (b off : Nat) (qr : Option Addr) (cr : Nat) (z : Lc), q = some ⟨b, off, none⟩ ∧ Hid (l'[i]? = some z ∧ ShC z.rs.length cr qr ∧ z.rs.length * 56 ≤ 140737488351232 ∧ b < N) ∧ Hid (∀ w, Below N W w → RcsAt w qr z.rs ∧ w.cell? ⟨b, off + i * 3, none⟩ = some (.string z.nm) ∧ w.cell? ⟨b, off + i * 3 + 1, none⟩ = some (.int .i64 z.kd) ∧ w.cell? ⟨b, off + i * 3 + 2, none⟩ = some (.slice qr z.rs.length cr))) := fun i hi => lq_cell hN hat hin i (by rw [hln]; exact hi)
 have HNw : Hid (∀ w q1 c1, LcsAt w q1 l' → Calls Tryz.prog 9 #[.slice q1 n c1] w fun e w' => NewP w.heap.size w l' e w') := fun w q1 c1 h => by
  have := new14_in w q1 c1 l' h hin.1 (by omega)
  rw [hln] at this
  exact this
 have HRt : Hid (∀ w, Below N W w → Calls Tryz.prog 10 #[.slice q n cap] w fun e w' => ((okL l' ∧ e = .returned (.bool true)) ∨ (¬ okL l' ∧ e = .returned (.bool false))) ∧ Below w.heap.size w w') := fun w hb => by
  have := rlocals_in w q cap l' (HAt.out w hb) HOkN.out (by omega)
  rw [hln] at this
  refine this.mono ?_
  rintro e w' ⟨rfl, hb'⟩
  refine ⟨?_, hb'⟩
  by_cases h : okL l'
  ·exact .inl ⟨h, by rw [@decide_eq_true _ (Classical.propDecidable _) h]⟩
  ·exact .inr ⟨h, by rw [@decide_eq_false _ (Classical.propDecidable _) h]⟩
 have HZn : Hid (∀ w, Below N W w → Calls Tryz.prog 12 #[.slice q n cap, .string s] w fun e w' => (∃ B o, e = .returned (.int .i64 B) ∧ PlN B o ∧ BestAt l' s n o) ∧ Below w.heap.size w w') := fun w hb => by
  have := rzone_in w q cap l' (HAt.out w hb) (fun z hz => (hin.1 z hz).1) (by omega) s hs
  rw [hln] at this
  exact this
 have HAn : Hid (∀ w, Below N W w → okL l' → Calls Tryz.prog 13 #[.slice q n cap, .string s, .int .i64 kind] w fun e w' => AnW w (ansR l' s kind) e w') := fun w hb hok => by
  have := rans_in w q cap l' (HAt.out w hb) HOkN.out (by omega) hok s hs kind
  rw [hln] at this
  exact this
 have HS := Hid.mk hs
 have HQ : Hid (∀ z ∈ l', z.rs.length * 56 ≤ 140737488351232) := hin.2
 rw [hN] at HE ⊢
 clear hat0 hin0 hat hin hm hl' hln hsh0 hk hN
 go_enter Tryz.func3, Tryz.ntmps3
 go_wp2_with fail
 refine HE.out.mono ?_
 rintro e w1 ⟨rfl, hb1⟩
 have HB1 := Hid.mk hb1
 obtain ⟨B, hB⟩ : ∃ B, w1.heap.size = B := ⟨_, rfl⟩
 have hNB : Hid (N ≤ B) := by rw [← hB]; exact HSZ.out _ HB1.out
 have HB := Hid.mk hB
 clear hb1 HE hB
 go_wp2_with fail
 go_loopw [9, 8] (fun iv ov wr => ∃ (i : Nat) (q1 : Option Addr) (c1 : Nat) (u : World), u = wr ∧ i ≤ n ∧ iv = .int .i64 (i : Int) ∧ ov = .slice q1 i c1 ∧ Hid (∃ os : List Ow, os.map Ow.z = l'.take i ∧ OL B u (.slice q1 i c1) os ∧ Below B w1 u)) (fun iv _ _ => n - (intOf iv).toNat)
 case atStart => exact ⟨0, none, 0, _, rfl, Nat.zero_le _, rfl, rfl, [], by simp, OL.nil _ _, Below.refl _ _⟩
 case round =>
  obtain ⟨i, q1, c1, u, rfl, hi, rfl, rfl, HI⟩ := hrel
  by_cases hlt : i < n
  ·have hlz : (i : Int) < (n : Int) := by omega
   have wi : IntKind.i64.wrap ((i : Int) + 1) = ((i + 1 : Nat) : Int) := by rw [IntKind.wrap_i64]; omega
   obtain ⟨os, hos, hol, hbu⟩ := HI.out
   have hoi : os.length = i := by
    have := congrArg List.length hos
    rw [List.length_map, List.length_take, HLn.out] at this
    omega
   have hBu : B ≤ u.heap.size := by rw [← HB.out]; exact hbu.size
   have hNu : Below N W u := HB1.out.trans (hbu.mono hNB.out)
   obtain ⟨b, off, qr, cr, z, rfl, HZ, HZc⟩ := HCell.out i hlt
   obtain ⟨hr, z0, z1, z2⟩ := HZc.out u hNu
   obtain ⟨hzi, hzs, hzb, hbN⟩ := HZ.out
   have hbu2 : b < u.heap.size := by have := hNB.out; omega
   obtain ⟨q2, c2, w3, ra, g0, g1, w4, e4, y0, y1, y2, w6, q6, c6, rb, HH⟩ := copy_one hol hBu (by omega) hr hzs hzb
   have zz2 : (u.alloc (.cells #[.string z.nm, .int .i64 z.kd, .slice qr z.rs.length cr] 26)).cell? ⟨b, off + i * 3 + 2, none⟩ = some (.slice qr z.rs.length cr) := (((Below.refl u.heap.size u).alloc (Nat.le_refl _) _).cell (p := ⟨b, off + i * 3 + 2, none⟩) hbu2).trans z2
   have HE6 : Hid (∃ os : List Ow, os.map Ow.z = l'.take (i + 1) ∧ OL B w6 (.slice q6 (i + 1) c6) os ∧ Below B w1 w6) := by
    obtain ⟨hi', hzi'⟩ := List.getElem?_eq_some_iff.1 hzi
    refine ⟨os ++ [⟨z, .slice q2 z.rs.length c2⟩], ?_, by rw [← hoi]; exact HH.out.1, hbu.trans HH.out.2⟩
    rw [List.map_append, hos, List.take_succ_eq_append_getElem hi', hzi']
    rfl
   rw [hoi] at rb
   obtain ⟨V, hV⟩ : ∃ V, u.alloc (.cells #[.string z.nm, .int .i64 z.kd, .slice qr z.rs.length cr] 26) = V := ⟨_, rfl⟩
   have HV := Hid.mk hV
   have HE4 := Hid.mk e4
   rw [hV] at ra zz2
   obtain ⟨Z, hZ⟩ : ∃ Z, u.heap.size = Z := ⟨_, rfl⟩
   rw [hZ] at g0 g1 y0 y1 y2 HE4
   have HZ' := Hid.mk hZ
   generalize z.rs.length = zn at *
   clear hos hol hbu hoi hBu hNu hr hzi hzs hzb hbN hbu2 HH HZ HZc HI hV e4 hZ
   go_upto_region 8 with fail
   rw [HV.out, HZ'.out]
   clear z0 z1 z2
   go_upto_region 9 with fail
   rw [HE4.out]
   clear zz2 g0 g1 ra
   go_wp2
   go_roundw
   case rel => exact ⟨i + 1, q6, c6, _, rfl, by omega, by first | rfl | go_num, rfl, HE6⟩
   case measure => simp [intOf]; omega
  ·have hlz : ¬ (i : Int) < (n : Int) := by omega
   obtain rfl : i = n := by omega
   have HI2 : Hid (∃ os : List Ow, os.map Ow.z = l' ∧ OL B u (.slice q1 i c1) os ∧ Below B w1 u) := by
    obtain ⟨os, h1, h2, h3⟩ := HI.out
    exact ⟨os, by rw [h1, List.take_of_length_le (by rw [HLn.out]; exact Nat.le_refl _)], h2, h3⟩
   obtain ⟨os, hos, hol, hbu⟩ := HI2.out
   have HOs := Hid.mk hos
   have HOl := Hid.mk hol
   have HBu : Hid (Below N W u) := HB1.out.trans (hbu.mono hNB.out)
   have HBB : Hid (B ≤ u.heap.size) := by show B ≤ _; rw [← HB.out]; exact hbu.size
   have HNw1 := Hid.mk (HNw.out u q1 c1 (by rw [← hos]; exact hol.locs))
   clear hos hol hbu HI HI2 HNw hi
   go_wp2_with fail
   refine HNw1.out.mono ?_
   rintro e w2 ⟨h2, hb2⟩
   have HB2 := Hid.mk (HBu.out.trans (hb2.mono (HSZ.out _ HBu.out)))
   have Hb2 := Hid.mk hb2
   clear hb2 HNw1
   rcases h2 with ⟨hok, X, M, rfl, L, hL, hl2⟩ | ⟨hnok, rfl⟩
   case inr =>
    go_wp2_with fail
    refine (HRt.out _ HB2.out).mono ?_
    rintro e w3 ⟨⟨h3, rfl⟩ | ⟨h3, rfl⟩, hb3⟩
    ·exact absurd h3 hnok
    have HF : Hid (Below N W w3) := HB2.out.trans (hb3.mono (HSZ.out _ HB2.out))
    clear hb3 h3 hnok
    go_wp2
    go_ret
    exact ⟨rfl, HF.out⟩
   have HOk := Hid.mk hok
   have HZo : Hid (∀ z ∈ l', ZOk z) := fun z hz => ⟨(HIn.out z hz).2.1, hok.1 z hz⟩
   have HL := Hid.mk hL
   have HL2 := Hid.mk hl2
   clear hok hL hl2
   go_wp2_with fail
   refine (HRt.out _ HB2.out).mono ?_
   rintro e w3 ⟨⟨h3, rfl⟩ | ⟨h3, rfl⟩, hb3⟩
   case inr => exact absurd HOk.out h3
   have HL3 : Hid (Locs u.heap.size w3 X M L) := HL2.out.blk hb3
   have HB3 : Hid (Below N W w3) := HB2.out.trans (hb3.mono (HSZ.out _ HB2.out))
   have Hu3 : Hid (Below u.heap.size u w3) := Hb2.out.trans (hb3.mono Hb2.out.size)
   obtain ⟨E, hE⟩ : ∃ E, u.heap.size = E := ⟨_, rfl⟩
   have HCL : Hid (∀ j, j < i → ∃ (zn g : Nat) (qd : Option Addr) (cd : Nat), q1 = some ⟨g, 0, none⟩ ∧ Hid (B ≤ g ∧ g < E ∧ (∃ c, w3.heap[g]? = some (.cells c 26 (0, 0)) ∧ j * 3 + 2 < c.size) ∧ w3.cell? ⟨g, j * 3 + 2, none⟩ = some (.slice qd zn cd)) ∧ Hid (zn ≤ 9223372036854775806) ∧ Hid (0 < zn → ∃ b, qd = some ⟨b, 0, none⟩ ∧ B ≤ b ∧ b < E ∧ b ≠ g ∧ ∃ c, w3.heap[b]? = some (.cells c 33 (0, 0)) ∧ zn * 5 ≤ c.size)) := fun j hj => by
    have hjo : j < os.length := by
     have := congrArg List.length HOs.out
     rw [List.length_map, HLn.out] at this
     omega
    obtain ⟨g, qd, cd, h1, h2, h3, h4, h5, h6⟩ := HOl.out.clear Hu3.out hjo
    rw [hE] at h3 h6
    refine ⟨_, g, qd, cd, h1, ⟨h2, h3, h4, h5⟩, ?_, h6⟩
    have hz := HQ.out os[j].z (by rw [← HOs.out]; exact List.mem_map_of_mem (List.getElem_mem hjo))
    show _ ≤ _
    omega
   rw [hE] at HL3 HBB
   clear hb3 h3 hE HOl HOs Hu3 Hb2 HL2 HB2
   go_wp2_with fail
   go_loopw [14] (fun iv wr => ∃ (j : Nat) (wq3 : World), wq3 = wr ∧ j ≤ i ∧ iv = .int .i64 (j : Int) ∧ Hid (Clr B E (blkO q1) j w3 wq3)) (fun iv _ => i - (intOf iv).toNat)
   case atStart => exact ⟨0, _, rfl, Nat.zero_le _, rfl, Clr.refl _ _ _ _ _⟩
   case round =>
    obtain ⟨j, wq3, rfl, hj, rfl, HC⟩ := hrel
    by_cases hjl : j < i
    ·have hjz : (j : Int) < (i : Int) := by omega
     have hjz0 : (0 : Int) ≤ (j : Int) := by omega
     have wj : IntKind.i64.wrap ((j : Int) + 1) = ((j + 1 : Nat) : Int) := by rw [IntKind.wrap_i64]; omega
     obtain ⟨zn, g, qd, cd, rfl, HG, HZn', HRd⟩ := HCL.out j hjl
     have HCg : Hid (Clr B E g j w3 wq3) := HC.out
     clear HC
     go_wp2_with fail
     go_loopw [15] (fun kv wr => ∃ (k : Nat) (wq4 : World), wq4 = wr ∧ k ≤ zn ∧ kv = .int .i64 (k : Int) ∧ Hid (Clr B E g j w3 wq4)) (fun kv _ => zn - (intOf kv).toNat)
     case atStart => exact ⟨0, _, rfl, Nat.zero_le _, rfl, HCg⟩
     case round =>
      obtain ⟨k, wq4, rfl, hk, rfl, HC4⟩ := hrel
      have y2 : wq4.cell? ⟨g, j * 3 + 2, none⟩ = some (.slice qd zn cd) := (HC4.out.row _ (by omega)).trans HG.out.2.2.2
      by_cases hkl : k < zn
      ·have hkz : (k : Int) < (zn : Int) := by omega
       have hkz0 : (0 : Int) ≤ (k : Int) := by omega
       have wk : IntKind.i64.wrap ((k : Int) + 1) = ((k + 1 : Nat) : Int) := by have := HZn'.out; rw [IntKind.wrap_i64]; omega
       obtain ⟨b, rfl, hb1, hb2, hb3, cc, hcc, hsz⟩ := HRd.out (by omega)
       have hk5 : k * 5 + 5 ≤ zn * 5 := by have : (k + 1) * 5 ≤ zn * 5 := Nat.mul_le_mul_right _ hkl; omega
       obtain ⟨⟨v0, p0⟩, f0⟩ := HC4.out.any hcc (k := k * 5) (by omega)
       obtain ⟨⟨v1, p1⟩, f1⟩ := HC4.out.any hcc (k := k * 5 + 1) (by omega)
       obtain ⟨⟨v2, p2⟩, f2⟩ := HC4.out.any hcc (k := k * 5 + 2) (by omega)
       obtain ⟨⟨v3, p3⟩, f3⟩ := HC4.out.any hcc (k := k * 5 + 3) (by omega)
       obtain ⟨⟨v4, p4⟩, f4⟩ := HC4.out.any hcc (k := k * 5 + 4) (by omega)
       have HE5 : Hid (∀ x0 x1 x2 x3 x4, Clr B E g j w3 (((((wq4.setCell ⟨b, k * 5, none⟩ x0).setCell ⟨b, k * 5 + 1, none⟩ x1).setCell ⟨b, k * 5 + 2, none⟩ x2).setCell ⟨b, k * 5 + 3, none⟩ x3).setCell ⟨b, k * 5 + 4, none⟩ x4)) := fun x0 x1 x2 x3 x4 => ((((HC4.out.set hb1 hb2 (Nat.le_refl _) (.inl hb3) x0).set hb1 hb2 (Nat.le_refl _) (.inl hb3) x1).set hb1 hb2 (Nat.le_refl _) (.inl hb3) x2).set hb1 hb2 (Nat.le_refl _) (.inl hb3) x3).set hb1 hb2 (Nat.le_refl _) (.inl hb3) x4
       clear hb1 hb2 hb3 hcc hsz hk5
       go_wp2
       go_roundw
       case rel => exact ⟨k + 1, _, rfl, by omega, by first | rfl | go_num, HE5.out _ _ _ _ _⟩
       case measure => simp [intOf]; omega
      ·have hkz : ¬ (k : Int) < (zn : Int) := by omega
       obtain ⟨hg1, hg2, ⟨cc, hcc, hsz⟩, _⟩ := HG.out
       obtain ⟨⟨v0, p0⟩, f0⟩ := HC4.out.any hcc (k := j * 3) (by omega)
       obtain ⟨⟨v1, p1⟩, f1⟩ := HC4.out.any hcc (k := j * 3 + 1) (by omega)
       have p2 := y2
       obtain ⟨_, f2⟩ := HC4.out.any hcc (k := j * 3 + 2) (by omega)
       have HE3 : Hid (∀ x0 x1 x2, Clr B E g (j + 1) w3 (((wq4.setCell ⟨g, j * 3, none⟩ x0).setCell ⟨g, j * 3 + 1, none⟩ x1).setCell ⟨g, j * 3 + 2, none⟩ x2)) := fun x0 x1 x2 => ((HC4.out.set hg1 hg2 (Nat.le_succ j) (.inr (by omega)) x0).set hg1 hg2 (Nat.le_refl _) (.inr (by omega)) x1).set hg1 hg2 (Nat.le_refl _) (.inr (by omega)) x2
       clear hg1 hg2 hcc hsz hk
       go_wp2
       go_roundw
       case rel => exact ⟨j + 1, _, rfl, by omega, by first | rfl | go_num, HE3.out _ _ _⟩
       case measure => simp [intOf]; omega
    ·have hjz : ¬ (j : Int) < (i : Int) := by omega
     have HL4 : Hid (Locs E wq3 X M L) := HL3.out.high fun b hb => HC.out.oth b hb
     have HB4 : Hid (Below N W wq3) := HB3.out.trans (HC.out.bel.mono hNB.out)
     clear HC HCL HL3 HB3 hj
     go_wp2_with fail
     refine (zone14_in _ _ X M L HL4.out s HS.out).mono ?_
     rintro e w4 ⟨rfl, hb4⟩
     have HB5 : Hid (Below N W w4) := HB4.out.trans (hb4.mono (HSZ.out _ HB4.out))
     have HL5 : Hid (Locs E w4 X M L) := HL4.out.blk hb4
     have hns := nearP_snd L s
     rw [HL.out] at hns
     clear hb4 HB4 HL4
     cases hp : nearP L s with
     | none =>
      rw [hp] at hns
      simp only
      go_wp2_with fail
      refine (HZn.out _ HB5.out).mono ?_
      rintro e w5 ⟨⟨KB, oo, rfl, hpl, hbest⟩, hb5⟩
      have hnr := best_near HOk.out (by rw [HLn.out]; exact hbest)
      rw [← hns] at hnr
      rcases hpl with ⟨rfl, rfl⟩ | ⟨b, rfl, rfl⟩
      case inr =>
       obtain ⟨hb, _⟩ := hbest.yes b rfl
       rw [Option.bind_some, List.getElem?_eq_getElem hb] at hnr
       cases hnr
      have HB6 : Hid (Below N W w5) := HB5.out.trans (hb5.mono (HSZ.out _ HB5.out))
      have HL6 : Hid (Locs E w5 X M L) := HL5.out.blk hb5
      clear hns hp hbest hnr hb5 HB5 HL5
      go_wp2_with fail
      refine (HAn.out _ HB6.out HOk.out).mono ?_
      rintro e w6 ⟨⟨va, Na, Nb, els, rfl, hws⟩, hb6⟩
      have HB7 : Hid (Below N W w6) := HB6.out.trans (hb6.mono (HSZ.out _ HB6.out))
      have HL7 : Hid (Locs E w6 X M L) := HL6.out.blk hb6
      have HGd : Hid (∀ t ∈ (ansR l' s kind).2, 1 ≤ t.ds.length ∧ t.ds.length ≤ 1000 ∧ OkN t.ls) := ansR_good HOk.out HIn.out s kind
      have HAsk : Hid (∀ w, Locs E w X M L → Calls Tryz.prog 14 #[ptA X 0, .string s, .int .i64 kind] w fun e w' => D.AnP w (ansR l' s kind) e w') := fun w hw => D.ask_any hw HL.out HZo.out s HS.out kind
      obtain ⟨⟨a1, ss⟩, hA⟩ : ∃ A, ansR l' s kind = A := ⟨_, rfl⟩
      rw [hA] at HGd HAsk hws
      simp only at HGd hws
      rw [hA]
      obtain ⟨qa, ca, hva⟩ := hws.form
      rw [pz_len] at hva
      subst hva
      have HWs := Hid.mk hws
      have hssl : ss.length ≤ 9223372036854775807 := by
       have := (ws_le hws)
       omega
      obtain ⟨ks, hks⟩ : ∃ ks, ss.length = ks := ⟨_, rfl⟩
      have HKs := Hid.mk hks
      simp only
      rw [hks] at HWs hssl ⊢
      clear hA hws hks hb6 HB6 HL6
      go_wp2_with fail
      go_loopw [21] (fun tv wr => ∃ (t : Nat) (wq6 : World), wq6 = wr ∧ t ≤ 2 ∧ tv = .int .i64 (t : Int) ∧ Hid (Below w6.heap.size w6 wq6)) (fun tv _ => 2 - (intOf tv).toNat)
      case atStart => exact ⟨0, _, rfl, Nat.zero_le _, rfl, Below.refl _ _⟩
      case round =>
       obtain ⟨t, wq6, rfl, ht, rfl, HT⟩ := hrel
       by_cases htl : t < 2
       ·have htz : (t : Int) < 2 := by omega
        have wt : IntKind.i64.wrap ((t : Int) + 1) = ((t + 1 : Nat) : Int) := by rw [IntKind.wrap_i64]; omega
        go_wp2_with fail
        refine (HAsk.out _ (HL7.out.blk HT.out)).mono ?_
        rintro e w7 ⟨v7, rfl, hs7, hb7⟩
        obtain ⟨els7, hI7⟩ := AnsI.first hs7
        obtain ⟨q7, c7, hv7⟩ := srow_any hI7.row
        rw [hI7.len, HKs.out] at hv7
        subst hv7
        have HI7 : Hid (AnsI wq6.heap.size (.slice q7 ks c7) els7 ss 0 w7) := hI7
        have H67 : Hid (Below wq6.heap.size wq6 w7) := hb7
        have HM6 : Hid (w6.heap.size ≤ wq6.heap.size) := HT.out.size
        clear hs7 hI7 hb7
        simp only
        go_wp2_with fail
        go_loopw [24] (fun jv wr => ∃ (j : Nat) (wq7 : World), wq7 = wr ∧ j ≤ ks ∧ jv = .int .i64 (j : Int) ∧ Hid (AnsI wq6.heap.size (.slice q7 ks c7) els7 ss j wq7 ∧ Below wq6.heap.size wq6 wq7)) (fun jv _ => ks - (intOf jv).toNat)
        case atStart => exact ⟨0, _, rfl, Nat.zero_le _, rfl, HI7.out, H67.out⟩
        case round =>
         obtain ⟨j, wq7, rfl, hj, rfl, HJ⟩ := hrel
         by_cases hjl : j < ks
         ·have hjz : (j : Int) < (ks : Int) := by omega
          have hjz0 : (0 : Int) ≤ (j : Int) := by omega
          have wj : IntKind.i64.wrap ((j : Int) + 1) = ((j + 1 : Nat) : Int) := by rw [IntKind.wrap_i64]; omega
          have hjs : j < ss.length := by rw [HKs.out]; exact hjl
          obtain ⟨hg1, hg2, hg3⟩ := HGd.out ss[j] (List.getElem_mem hjs)
          obtain ⟨g, b, cd, rfl, -, x0, x1, x2, x3, x4, x5, HX⟩ := HJ.out.1.at' hjs hg1
          have hb67 : Below w6.heap.size w6 wq7 := HT.out.trans (HJ.out.2.mono HM6.out)
          obtain ⟨g', qd, cd', qs, cs, hq', -, y0, y1, y2, y3, y4, y5, HY⟩ := (HWs.out.blk hb67).at' hjs
          obtain ⟨St, hSt⟩ : ∃ St, ss[j] = St := ⟨_, rfl⟩
          rw [hSt] at hg1 hg2 hg3 x0 x1 x2 x3 x4 HX y0 y1 y2 y3 y4 HY
          obtain ⟨dl, hdl⟩ : ∃ dl, St.ds.length = dl := ⟨_, rfl⟩
          have HAl : Hid (∀ w, Below wq7.heap.size wq7 w → Calls Tryz.prog 15 #[.agg #[.string (nm St.ls), .int .i64 St.ty, .int .i64 St.cl, .int .i64 St.tl, .slice (some ⟨b, 0, none⟩) dl cd, .slice none 0 0], .agg #[.string (nm St.ls), .int .i64 St.ty, .int .i64 St.cl, .int .i64 St.tl, .slice qd dl cd', .slice qs 0 cs]] w fun e w' => e = .returned (.bool true) ∧ Below w.heap.size w w') := fun w hb => ralike_in _ _ _ _ St.ds _ _ _ _ _ _ _ _ hg2 w (HX.out.2.1.blk hb) (HY.out.blk hb) dl hdl
          rw [hdl] at x4 y4
          have hdz : (0 : Int) < (dl : Int) := by omega
          obtain ⟨nb, hnb⟩ : ∃ nb, nm St.ls = nb := ⟨_, rfl⟩
          rw [hnb] at x0 y0 HAl
          have HX4 := Hid.mk x4
          have HXn : Hid (∀ w, Below wq7.heap.size wq7 w → w.cell? ⟨g, j * 6 + 4, none⟩ = some (.slice (some ⟨b, 0, none⟩) dl cd) ∧ (∃ x, w.cell? ⟨b, 0, none⟩ = some x) ∧ w.frozen? ⟨b, 0, none⟩ = false ∧ ∀ x, Hid (AnsI wq6.heap.size (.slice (some ⟨g, 0, none⟩) ks c7) els7 ss (j + 1) (w.setCell ⟨b, 0, none⟩ x) ∧ Below wq6.heap.size wq6 (w.setCell ⟨b, 0, none⟩ x))) := fun w hb => by
           obtain ⟨h1, h2, h3, h4⟩ := HX.out.2.2 w hb
           have hgl : g < wq7.heap.size := cell_lt HX4.out
           refine ⟨(hb.cell (p := ⟨g, j * 6 + 4, none⟩) hgl).trans HX4.out, h2, h3, fun x => ⟨h4 x, ?_⟩⟩
           exact (HJ.out.2.trans (hb.mono HJ.out.2.size)).setCell (p := ⟨b, 0, none⟩) HX.out.1 x
          clear hg1 hg2 hg3 hSt hdl hnb hjs hb67 HX HY HX4 HJ
          subst hq'
          have HS8 : Hid ((fun w' : World => w'.cell? ⟨g, j * 6, none⟩ = some (.string nb) ∧ w'.cell? ⟨g, j * 6 + 1, none⟩ = some (.int .i64 St.ty) ∧ w'.cell? ⟨g, j * 6 + 2, none⟩ = some (.int .i64 St.cl) ∧ w'.cell? ⟨g, j * 6 + 3, none⟩ = some (.int .i64 St.tl) ∧ w'.cell? ⟨g, j * 6 + 4, none⟩ = some (.slice (some ⟨b, 0, none⟩) dl cd) ∧ w'.cell? ⟨g, j * 6 + 5, none⟩ = some (.slice none 0 0) ∧ w'.cell? ⟨g', j * 6, none⟩ = some (.string nb) ∧ w'.cell? ⟨g', j * 6 + 1, none⟩ = some (.int .i64 St.ty) ∧ w'.cell? ⟨g', j * 6 + 2, none⟩ = some (.int .i64 St.cl) ∧ w'.cell? ⟨g', j * 6 + 3, none⟩ = some (.int .i64 St.tl) ∧ w'.cell? ⟨g', j * 6 + 4, none⟩ = some (.slice qd dl cd') ∧ w'.cell? ⟨g', j * 6 + 5, none⟩ = some (.slice qs 0 cs)) wq7.drew) := ⟨x0, x1, x2, x3, x4, x5, y0, y1, y2, y3, y4, y5⟩
          have HS9 : Hid (∀ w', Below wq7.heap.size wq7 w' → (fun w' : World => w'.cell? ⟨g, j * 6, none⟩ = some (.string nb) ∧ w'.cell? ⟨g, j * 6 + 1, none⟩ = some (.int .i64 St.ty) ∧ w'.cell? ⟨g, j * 6 + 2, none⟩ = some (.int .i64 St.cl) ∧ w'.cell? ⟨g, j * 6 + 3, none⟩ = some (.int .i64 St.tl) ∧ w'.cell? ⟨g, j * 6 + 4, none⟩ = some (.slice (some ⟨b, 0, none⟩) dl cd) ∧ w'.cell? ⟨g, j * 6 + 5, none⟩ = some (.slice none 0 0) ∧ w'.cell? ⟨g', j * 6, none⟩ = some (.string nb) ∧ w'.cell? ⟨g', j * 6 + 1, none⟩ = some (.int .i64 St.ty) ∧ w'.cell? ⟨g', j * 6 + 2, none⟩ = some (.int .i64 St.cl) ∧ w'.cell? ⟨g', j * 6 + 3, none⟩ = some (.int .i64 St.tl) ∧ w'.cell? ⟨g', j * 6 + 4, none⟩ = some (.slice qd dl cd') ∧ w'.cell? ⟨g', j * 6 + 5, none⟩ = some (.slice qs 0 cs)) w') := fun w' hb => by
           have k1 : ∀ k v, wq7.cell? ⟨g, k, none⟩ = some v → w'.cell? ⟨g, k, none⟩ = some v := fun k v hv => (hb.cell (p := ⟨g, k, none⟩) (cell_lt hv)).trans hv
           have k2 : ∀ k v, wq7.cell? ⟨g', k, none⟩ = some v → w'.cell? ⟨g', k, none⟩ = some v := fun k v hv => (hb.cell (p := ⟨g', k, none⟩) (cell_lt hv)).trans hv
           exact ⟨k1 _ _ HS8.out.1, k1 _ _ HS8.out.2.1, k1 _ _ HS8.out.2.2.1, k1 _ _ HS8.out.2.2.2.1, k1 _ _ HS8.out.2.2.2.2.1, k1 _ _ HS8.out.2.2.2.2.2.1, k2 _ _ HS8.out.2.2.2.2.2.2.1, k2 _ _ HS8.out.2.2.2.2.2.2.2.1, k2 _ _ HS8.out.2.2.2.2.2.2.2.2.1, k2 _ _ HS8.out.2.2.2.2.2.2.2.2.2.1, k2 _ _ HS8.out.2.2.2.2.2.2.2.2.2.2.1, k2 _ _ HS8.out.2.2.2.2.2.2.2.2.2.2.2⟩
          clear x0 x1 x2 x3 x4 x5 y0 y1 y2 y3 y4 y5
          go_upto_region 38 with fail
          refine wp_region_held_drew (S := (fun w' : World => w'.cell? ⟨g, j * 6, none⟩ = some (.string nb) ∧ w'.cell? ⟨g, j * 6 + 1, none⟩ = some (.int .i64 St.ty) ∧ w'.cell? ⟨g, j * 6 + 2, none⟩ = some (.int .i64 St.cl) ∧ w'.cell? ⟨g, j * 6 + 3, none⟩ = some (.int .i64 St.tl) ∧ w'.cell? ⟨g, j * 6 + 4, none⟩ = some (.slice (some ⟨b, 0, none⟩) dl cd) ∧ w'.cell? ⟨g, j * 6 + 5, none⟩ = some (.slice none 0 0) ∧ w'.cell? ⟨g', j * 6, none⟩ = some (.string nb) ∧ w'.cell? ⟨g', j * 6 + 1, none⟩ = some (.int .i64 St.ty) ∧ w'.cell? ⟨g', j * 6 + 2, none⟩ = some (.int .i64 St.cl) ∧ w'.cell? ⟨g', j * 6 + 3, none⟩ = some (.int .i64 St.tl) ∧ w'.cell? ⟨g', j * 6 + 4, none⟩ = some (.slice qd dl cd') ∧ w'.cell? ⟨g', j * 6 + 5, none⟩ = some (.slice qs 0 cs))) (by kernel_rfl) HS8.out (fun hHeld => ?_)
          refine wU (i := 0) (v := ?vr_0) rfl ?yr_0 (by assumption) ?_
          case yr_0 => (intro w hSw; (try dsimp only at hSw); go_simp; try with_reducible rfl)
          refine wU (i := 1) (v := ?vr_1) rfl ?yr_1 (by assumption) ?_
          case yr_1 => (intro w hSw; (try dsimp only at hSw); go_simp; try with_reducible rfl)
          refine wU (i := 2) (v := ?vr_2) rfl ?yr_2 (by assumption) ?_
          case yr_2 => (intro w hSw; (try dsimp only at hSw); go_simp; try with_reducible rfl)
          refine wU (i := 3) (v := ?vr_3) rfl ?yr_3 (by assumption) ?_
          case yr_3 => (intro w hSw; (try dsimp only at hSw); go_simp; try with_reducible rfl)
          refine wU (i := 4) (v := ?vr_4) rfl ?yr_4 (by assumption) ?_
          case yr_4 => (intro w hSw; (try dsimp only at hSw); go_simp; try with_reducible rfl)
          refine wU (i := 5) (v := ?vr_5) rfl ?yr_5 (by assumption) ?_
          case yr_5 => (intro w hSw; (try dsimp only at hSw); go_simp; try with_reducible rfl)
          refine wU (i := 6) (v := ?vr_6) rfl ?yr_6 (by assumption) ?_
          case yr_6 => (intro w hSw; (try dsimp only at hSw); go_simp; try with_reducible rfl)
          refine wU (i := 7) (v := ?vr_7) rfl ?yr_7 (by assumption) ?_
          case yr_7 => (intro w hSw; (try dsimp only at hSw); go_simp; try with_reducible rfl)
          try simp only [Act.put, List.getElem_toArray, List.getElem_cons_succ, List.getElem_cons_zero, List.setIfInBounds_toArray, List.set_cons_zero, List.set_cons_succ]
          refine wpAnyH_ready (rs := [8]) (by kernel_rfl) (by simp) ?_
          refine AllReadyH.cons rfl (fun K hK => ?_) AllReadyH.nil
          go_simp
          go_at_call 15
          refine (HAl.out _ (Below.refl _ _).drew).mono ?_
          rintro e w8 ⟨rfl, hb8⟩
          have hb8' : Below wq7.heap.size wq7 w8 := (Below.refl _ _).drew.trans hb8
          refine hK.out _ _ (HS9.out _ hb8') (fun hHeld => ?_)
          clear hK K
          try simp only [Act.put, List.getElem_toArray, List.getElem_cons_succ, List.getElem_cons_zero, List.setIfInBounds_toArray, List.set_cons_zero, List.set_cons_succ]
          refine wU (i := 9) (v := ?vrz_9) rfl ?yrz_9 (by assumption) ?_
          case yrz_9 => (intro w hSw; (try dsimp only at hSw); go_simp; try with_reducible rfl)
          try simp only [Act.put, List.getElem_toArray, List.getElem_cons_succ, List.getElem_cons_zero, List.setIfInBounds_toArray, List.set_cons_zero, List.set_cons_succ]
          refine wpAnyH_done (by kernel_rfl) ?_ _
          obtain ⟨x4, ⟨xv, p0⟩, f0, HE8⟩ := HXn.out _ hb8'
          have HE9 := Hid.mk HE8
          clear hHeld hb8 hb8' HE8 HXn HAl HS8 HS9
          go_wp2
          go_roundw
          case rel => exact ⟨j + 1, _, rfl, by omega, by first | rfl | go_num, HE9.out _⟩
          case measure => simp [intOf]; omega
         ·have hjz : ¬ (j : Int) < (ks : Int) := by omega
          have HF : Hid (Below w6.heap.size w6 wq7) := HT.out.trans (HJ.out.2.mono HM6.out)
          clear HJ
          go_wp2
          go_roundw
          case rel => exact ⟨t + 1, _, rfl, by omega, by first | rfl | go_num, HF⟩
          case measure => simp [intOf]; omega
       ·have htz : ¬ (t : Int) < 2 := by omega
        have HF : Hid (Below N W wq6) := HB7.out.trans (HT.out.mono (HSZ.out _ HB7.out))
        go_wp2
        go_ret
        exact ⟨rfl, HF.out⟩
     | some p =>
      rw [hp] at hns
      obtain ⟨pp, pz'⟩ := p
      simp only
      go_wp2_with fail
      refine (HZn.out _ HB5.out).mono ?_
      rintro e w5 ⟨⟨KB, oo, rfl, hpl, hbest⟩, hb5⟩
      have hnr := best_near HOk.out (by rw [HLn.out]; exact hbest)
      rw [← hns] at hnr
      rcases hpl with ⟨rfl, rfl⟩ | ⟨b, rfl, rfl⟩
      case inl => cases hnr
      have HB6 : Hid (Below N W w5) := HB5.out.trans (hb5.mono (HSZ.out _ HB5.out))
      have HL6 : Hid (Locs E w5 X M L) := HL5.out.blk hb5
      obtain ⟨hbl, _⟩ := hbest.yes b rfl
      rw [HLn.out] at hbl
      obtain ⟨bb, off, qr, cr, z, rfl, HZ, HZc⟩ := HCell.out b hbl
      obtain ⟨_, z0, z1, z2⟩ := HZc.out _ HB6.out
      have hzz : pz' = z := by
       rw [Option.bind_some, HZ.out.1] at hnr
       simpa using hnr
      subst hzz
      have hbz : (b : Int) < (i : Int) := by omega
      have hbz0 : (0 : Int) ≤ (b : Int) := by omega
      clear hns hp hbest hnr hb5 HB5 HL5 HZ HZc z1 z2
      go_wp2_with fail
      refine (HAn.out _ HB6.out HOk.out).mono ?_
      rintro e w6 ⟨⟨va, Na, Nb, els, rfl, hws⟩, hb6⟩
      clear z0
      have HB7 : Hid (Below N W w6) := HB6.out.trans (hb6.mono (HSZ.out _ HB6.out))
      have HL7 : Hid (Locs E w6 X M L) := HL6.out.blk hb6
      have HGd : Hid (∀ t ∈ (ansR l' s kind).2, 1 ≤ t.ds.length ∧ t.ds.length ≤ 1000 ∧ OkN t.ls) := ansR_good HOk.out HIn.out s kind
      have HAsk : Hid (∀ w, Locs E w X M L → Calls Tryz.prog 14 #[ptA X 0, .string s, .int .i64 kind] w fun e w' => D.AnP w (ansR l' s kind) e w') := fun w hw => D.ask_any hw HL.out HZo.out s HS.out kind
      obtain ⟨⟨a1, ss⟩, hA⟩ : ∃ A, ansR l' s kind = A := ⟨_, rfl⟩
      rw [hA] at HGd HAsk hws
      simp only at HGd hws
      rw [hA]
      obtain ⟨qa, ca, hva⟩ := hws.form
      rw [pz_len] at hva
      subst hva
      have HWs := Hid.mk hws
      have hssl : ss.length ≤ 9223372036854775807 := by
       have := (ws_le hws)
       omega
      obtain ⟨ks, hks⟩ : ∃ ks, ss.length = ks := ⟨_, rfl⟩
      have HKs := Hid.mk hks
      simp only
      rw [hks] at HWs hssl ⊢
      clear hA hws hks hb6 HB6 HL6
      go_wp2_with fail
      go_loopw [21] (fun tv wr => ∃ (t : Nat) (wq6 : World), wq6 = wr ∧ t ≤ 2 ∧ tv = .int .i64 (t : Int) ∧ Hid (Below w6.heap.size w6 wq6)) (fun tv _ => 2 - (intOf tv).toNat)
      case atStart => exact ⟨0, _, rfl, Nat.zero_le _, rfl, Below.refl _ _⟩
      case round =>
       obtain ⟨t, wq6, rfl, ht, rfl, HT⟩ := hrel
       by_cases htl : t < 2
       ·have htz : (t : Int) < 2 := by omega
        have wt : IntKind.i64.wrap ((t : Int) + 1) = ((t + 1 : Nat) : Int) := by rw [IntKind.wrap_i64]; omega
        go_wp2_with fail
        refine (HAsk.out _ (HL7.out.blk HT.out)).mono ?_
        rintro e w7 ⟨v7, rfl, hs7, hb7⟩
        obtain ⟨els7, hI7⟩ := AnsI.first hs7
        obtain ⟨q7, c7, hv7⟩ := srow_any hI7.row
        rw [hI7.len, HKs.out] at hv7
        subst hv7
        have HI7 : Hid (AnsI wq6.heap.size (.slice q7 ks c7) els7 ss 0 w7) := hI7
        have H67 : Hid (Below wq6.heap.size wq6 w7) := hb7
        have HM6 : Hid (w6.heap.size ≤ wq6.heap.size) := HT.out.size
        clear hs7 hI7 hb7
        simp only
        go_wp2_with fail
        go_loopw [24] (fun jv wr => ∃ (j : Nat) (wq7 : World), wq7 = wr ∧ j ≤ ks ∧ jv = .int .i64 (j : Int) ∧ Hid (AnsI wq6.heap.size (.slice q7 ks c7) els7 ss j wq7 ∧ Below wq6.heap.size wq6 wq7)) (fun jv _ => ks - (intOf jv).toNat)
        case atStart => exact ⟨0, _, rfl, Nat.zero_le _, rfl, HI7.out, H67.out⟩
        case round =>
         obtain ⟨j, wq7, rfl, hj, rfl, HJ⟩ := hrel
         by_cases hjl : j < ks
         ·have hjz : (j : Int) < (ks : Int) := by omega
          have hjz0 : (0 : Int) ≤ (j : Int) := by omega
          have wj : IntKind.i64.wrap ((j : Int) + 1) = ((j + 1 : Nat) : Int) := by rw [IntKind.wrap_i64]; omega
          have hjs : j < ss.length := by rw [HKs.out]; exact hjl
          obtain ⟨hg1, hg2, hg3⟩ := HGd.out ss[j] (List.getElem_mem hjs)
          obtain ⟨g, b, cd, rfl, -, x0, x1, x2, x3, x4, x5, HX⟩ := HJ.out.1.at' hjs hg1
          have hb67 : Below w6.heap.size w6 wq7 := HT.out.trans (HJ.out.2.mono HM6.out)
          obtain ⟨g', qd, cd', qs, cs, hq', -, y0, y1, y2, y3, y4, y5, HY⟩ := (HWs.out.blk hb67).at' hjs
          obtain ⟨St, hSt⟩ : ∃ St, ss[j] = St := ⟨_, rfl⟩
          rw [hSt] at hg1 hg2 hg3 x0 x1 x2 x3 x4 HX y0 y1 y2 y3 y4 HY
          obtain ⟨dl, hdl⟩ : ∃ dl, St.ds.length = dl := ⟨_, rfl⟩
          have HAl : Hid (∀ w, Below wq7.heap.size wq7 w → Calls Tryz.prog 15 #[.agg #[.string (nm St.ls), .int .i64 St.ty, .int .i64 St.cl, .int .i64 St.tl, .slice (some ⟨b, 0, none⟩) dl cd, .slice none 0 0], .agg #[.string (nm St.ls), .int .i64 St.ty, .int .i64 St.cl, .int .i64 St.tl, .slice qd dl cd', .slice qs 0 cs]] w fun e w' => e = .returned (.bool true) ∧ Below w.heap.size w w') := fun w hb => ralike_in _ _ _ _ St.ds _ _ _ _ _ _ _ _ hg2 w (HX.out.2.1.blk hb) (HY.out.blk hb) dl hdl
          rw [hdl] at x4 y4
          have hdz : (0 : Int) < (dl : Int) := by omega
          obtain ⟨nb, hnb⟩ : ∃ nb, nm St.ls = nb := ⟨_, rfl⟩
          rw [hnb] at x0 y0 HAl
          have HX4 := Hid.mk x4
          have HXn : Hid (∀ w, Below wq7.heap.size wq7 w → w.cell? ⟨g, j * 6 + 4, none⟩ = some (.slice (some ⟨b, 0, none⟩) dl cd) ∧ (∃ x, w.cell? ⟨b, 0, none⟩ = some x) ∧ w.frozen? ⟨b, 0, none⟩ = false ∧ ∀ x, Hid (AnsI wq6.heap.size (.slice (some ⟨g, 0, none⟩) ks c7) els7 ss (j + 1) (w.setCell ⟨b, 0, none⟩ x) ∧ Below wq6.heap.size wq6 (w.setCell ⟨b, 0, none⟩ x))) := fun w hb => by
           obtain ⟨h1, h2, h3, h4⟩ := HX.out.2.2 w hb
           have hgl : g < wq7.heap.size := cell_lt HX4.out
           refine ⟨(hb.cell (p := ⟨g, j * 6 + 4, none⟩) hgl).trans HX4.out, h2, h3, fun x => ⟨h4 x, ?_⟩⟩
           exact (HJ.out.2.trans (hb.mono HJ.out.2.size)).setCell (p := ⟨b, 0, none⟩) HX.out.1 x
          clear hg1 hg2 hg3 hSt hdl hnb hjs hb67 HX HY HX4 HJ
          subst hq'
          have HS8 : Hid ((fun w' : World => w'.cell? ⟨g, j * 6, none⟩ = some (.string nb) ∧ w'.cell? ⟨g, j * 6 + 1, none⟩ = some (.int .i64 St.ty) ∧ w'.cell? ⟨g, j * 6 + 2, none⟩ = some (.int .i64 St.cl) ∧ w'.cell? ⟨g, j * 6 + 3, none⟩ = some (.int .i64 St.tl) ∧ w'.cell? ⟨g, j * 6 + 4, none⟩ = some (.slice (some ⟨b, 0, none⟩) dl cd) ∧ w'.cell? ⟨g, j * 6 + 5, none⟩ = some (.slice none 0 0) ∧ w'.cell? ⟨g', j * 6, none⟩ = some (.string nb) ∧ w'.cell? ⟨g', j * 6 + 1, none⟩ = some (.int .i64 St.ty) ∧ w'.cell? ⟨g', j * 6 + 2, none⟩ = some (.int .i64 St.cl) ∧ w'.cell? ⟨g', j * 6 + 3, none⟩ = some (.int .i64 St.tl) ∧ w'.cell? ⟨g', j * 6 + 4, none⟩ = some (.slice qd dl cd') ∧ w'.cell? ⟨g', j * 6 + 5, none⟩ = some (.slice qs 0 cs)) wq7.drew) := ⟨x0, x1, x2, x3, x4, x5, y0, y1, y2, y3, y4, y5⟩
          have HS9 : Hid (∀ w', Below wq7.heap.size wq7 w' → (fun w' : World => w'.cell? ⟨g, j * 6, none⟩ = some (.string nb) ∧ w'.cell? ⟨g, j * 6 + 1, none⟩ = some (.int .i64 St.ty) ∧ w'.cell? ⟨g, j * 6 + 2, none⟩ = some (.int .i64 St.cl) ∧ w'.cell? ⟨g, j * 6 + 3, none⟩ = some (.int .i64 St.tl) ∧ w'.cell? ⟨g, j * 6 + 4, none⟩ = some (.slice (some ⟨b, 0, none⟩) dl cd) ∧ w'.cell? ⟨g, j * 6 + 5, none⟩ = some (.slice none 0 0) ∧ w'.cell? ⟨g', j * 6, none⟩ = some (.string nb) ∧ w'.cell? ⟨g', j * 6 + 1, none⟩ = some (.int .i64 St.ty) ∧ w'.cell? ⟨g', j * 6 + 2, none⟩ = some (.int .i64 St.cl) ∧ w'.cell? ⟨g', j * 6 + 3, none⟩ = some (.int .i64 St.tl) ∧ w'.cell? ⟨g', j * 6 + 4, none⟩ = some (.slice qd dl cd') ∧ w'.cell? ⟨g', j * 6 + 5, none⟩ = some (.slice qs 0 cs)) w') := fun w' hb => by
           have k1 : ∀ k v, wq7.cell? ⟨g, k, none⟩ = some v → w'.cell? ⟨g, k, none⟩ = some v := fun k v hv => (hb.cell (p := ⟨g, k, none⟩) (cell_lt hv)).trans hv
           have k2 : ∀ k v, wq7.cell? ⟨g', k, none⟩ = some v → w'.cell? ⟨g', k, none⟩ = some v := fun k v hv => (hb.cell (p := ⟨g', k, none⟩) (cell_lt hv)).trans hv
           exact ⟨k1 _ _ HS8.out.1, k1 _ _ HS8.out.2.1, k1 _ _ HS8.out.2.2.1, k1 _ _ HS8.out.2.2.2.1, k1 _ _ HS8.out.2.2.2.2.1, k1 _ _ HS8.out.2.2.2.2.2.1, k2 _ _ HS8.out.2.2.2.2.2.2.1, k2 _ _ HS8.out.2.2.2.2.2.2.2.1, k2 _ _ HS8.out.2.2.2.2.2.2.2.2.1, k2 _ _ HS8.out.2.2.2.2.2.2.2.2.2.1, k2 _ _ HS8.out.2.2.2.2.2.2.2.2.2.2.1, k2 _ _ HS8.out.2.2.2.2.2.2.2.2.2.2.2⟩
          clear x0 x1 x2 x3 x4 x5 y0 y1 y2 y3 y4 y5
          go_upto_region 38 with fail
          refine wp_region_held_drew (S := (fun w' : World => w'.cell? ⟨g, j * 6, none⟩ = some (.string nb) ∧ w'.cell? ⟨g, j * 6 + 1, none⟩ = some (.int .i64 St.ty) ∧ w'.cell? ⟨g, j * 6 + 2, none⟩ = some (.int .i64 St.cl) ∧ w'.cell? ⟨g, j * 6 + 3, none⟩ = some (.int .i64 St.tl) ∧ w'.cell? ⟨g, j * 6 + 4, none⟩ = some (.slice (some ⟨b, 0, none⟩) dl cd) ∧ w'.cell? ⟨g, j * 6 + 5, none⟩ = some (.slice none 0 0) ∧ w'.cell? ⟨g', j * 6, none⟩ = some (.string nb) ∧ w'.cell? ⟨g', j * 6 + 1, none⟩ = some (.int .i64 St.ty) ∧ w'.cell? ⟨g', j * 6 + 2, none⟩ = some (.int .i64 St.cl) ∧ w'.cell? ⟨g', j * 6 + 3, none⟩ = some (.int .i64 St.tl) ∧ w'.cell? ⟨g', j * 6 + 4, none⟩ = some (.slice qd dl cd') ∧ w'.cell? ⟨g', j * 6 + 5, none⟩ = some (.slice qs 0 cs))) (by kernel_rfl) HS8.out (fun hHeld => ?_)
          refine wU (i := 0) (v := ?vs_0) rfl ?ys_0 (by assumption) ?_
          case ys_0 => (intro w hSw; (try dsimp only at hSw); go_simp; try with_reducible rfl)
          refine wU (i := 1) (v := ?vs_1) rfl ?ys_1 (by assumption) ?_
          case ys_1 => (intro w hSw; (try dsimp only at hSw); go_simp; try with_reducible rfl)
          refine wU (i := 2) (v := ?vs_2) rfl ?ys_2 (by assumption) ?_
          case ys_2 => (intro w hSw; (try dsimp only at hSw); go_simp; try with_reducible rfl)
          refine wU (i := 3) (v := ?vs_3) rfl ?ys_3 (by assumption) ?_
          case ys_3 => (intro w hSw; (try dsimp only at hSw); go_simp; try with_reducible rfl)
          refine wU (i := 4) (v := ?vs_4) rfl ?ys_4 (by assumption) ?_
          case ys_4 => (intro w hSw; (try dsimp only at hSw); go_simp; try with_reducible rfl)
          refine wU (i := 5) (v := ?vs_5) rfl ?ys_5 (by assumption) ?_
          case ys_5 => (intro w hSw; (try dsimp only at hSw); go_simp; try with_reducible rfl)
          refine wU (i := 6) (v := ?vs_6) rfl ?ys_6 (by assumption) ?_
          case ys_6 => (intro w hSw; (try dsimp only at hSw); go_simp; try with_reducible rfl)
          refine wU (i := 7) (v := ?vs_7) rfl ?ys_7 (by assumption) ?_
          case ys_7 => (intro w hSw; (try dsimp only at hSw); go_simp; try with_reducible rfl)
          try simp only [Act.put, List.getElem_toArray, List.getElem_cons_succ, List.getElem_cons_zero, List.setIfInBounds_toArray, List.set_cons_zero, List.set_cons_succ]
          refine wpAnyH_ready (rs := [8]) (by kernel_rfl) (by simp) ?_
          refine AllReadyH.cons rfl (fun K hK => ?_) AllReadyH.nil
          go_simp
          go_at_call 15
          refine (HAl.out _ (Below.refl _ _).drew).mono ?_
          rintro e w8 ⟨rfl, hb8⟩
          have hb8' : Below wq7.heap.size wq7 w8 := (Below.refl _ _).drew.trans hb8
          refine hK.out _ _ (HS9.out _ hb8') (fun hHeld => ?_)
          clear hK K
          try simp only [Act.put, List.getElem_toArray, List.getElem_cons_succ, List.getElem_cons_zero, List.setIfInBounds_toArray, List.set_cons_zero, List.set_cons_succ]
          refine wU (i := 9) (v := ?vsz_9) rfl ?ysz_9 (by assumption) ?_
          case ysz_9 => (intro w hSw; (try dsimp only at hSw); go_simp; try with_reducible rfl)
          try simp only [Act.put, List.getElem_toArray, List.getElem_cons_succ, List.getElem_cons_zero, List.setIfInBounds_toArray, List.set_cons_zero, List.set_cons_succ]
          refine wpAnyH_done (by kernel_rfl) ?_ _
          obtain ⟨x4, ⟨xv, p0⟩, f0, HE8⟩ := HXn.out _ hb8'
          have HE9 := Hid.mk HE8
          clear hHeld hb8 hb8' HE8 HXn HAl HS8 HS9
          go_wp2
          go_roundw
          case rel => exact ⟨j + 1, _, rfl, by omega, by first | rfl | go_num, HE9.out _⟩
          case measure => simp [intOf]; omega
         ·have hjz : ¬ (j : Int) < (ks : Int) := by omega
          have HF : Hid (Below w6.heap.size w6 wq7) := HT.out.trans (HJ.out.2.mono HM6.out)
          clear HJ
          go_wp2
          go_roundw
          case rel => exact ⟨t + 1, _, rfl, by omega, by first | rfl | go_num, HF⟩
          case measure => simp [intOf]; omega
       ·have htz : ¬ (t : Int) < 2 := by omega
        have HF : Hid (Below N W wq6) := HB7.out.trans (HT.out.mono (HSZ.out _ HB7.out))
        go_wp2
        go_ret
        exact ⟨rfl, HF.out⟩
end
end Go.Proofs.YtdlcldjlfhmlgaaGreatDoor
