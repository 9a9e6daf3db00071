/- Layer 12: TimerPlays. -/
import Derived.Deep.RegionHeld3
import Derived.BigRegion
import Derived.Test.YtdgkknjmhdmlfaaTiDeed
namespace Go.Proofs.Ytdgkknjmhdmlfaa
set_option linter.unusedVariables false
set_option linter.unusedSimpArgs false
open Go.RowKit

/-- the same but for draws. -/
structure Sm (w u : World) : Prop where
  heap : u.heap = w.heap
  os : u.os = w.os
  tape : u.tape = w.tape
  output : u.output = w.output
theorem Sm.refl (w : World) : Sm w w := ⟨rfl, rfl, rfl, rfl⟩
theorem Sm.drew {w u : World} (h : Sm w u) : Sm w u.drew := ⟨h.heap, h.os, h.tape, h.output⟩
theorem Sm.below {w u : World} (h : Sm w u) (n : Nat) : Below n w u := ⟨h.os, h.tape, h.output, by rw [h.heap]; exact Nat.le_refl _, fun b _ => by rw [h.heap]⟩
theorem Sm.cell {w u : World} (h : Sm w u) {b i : Nat} {v : Value} (hc : w.cell? ⟨b, i, none⟩ = some v) : u.cell? ⟨b, i, none⟩ = some v := by
  rw [← hc]
  exact World.cell?_of_block (by rw [h.heap])
def PPost (W : World) (e : Ending) (w' : World) : Prop := e = .returned (.bool true) ∧ Below W.heap.size W w'

set_option maxRecDepth 100000 in
set_option maxHeartbeats 16000000 in
theorem plays_walk (a : Option Addr) (cap : Nat) (ls : List Dd) (hll : ls.length ≤ maxLen) (hok : ∀ d ∈ ls, d.Ok) (W : World) (hg : GivenD W a ls) :
    Calls Try.prog 3 #[.slice a ls.length cap] W (PPost W) := by
  obtain ⟨n, hn⟩ : ∃ n, ls.length = n := ⟨_, rfl⟩
  rw [hn]
  have HN := Hid.mk hn
  have HOK := Hid.mk hok
  have HG := Hid.mk hg
  have hnm : n ≤ 9223372036854775807 := by rw [← hn]; exact hll
  clear hn hok hll hg
  go_enter Try.func3, Try.ntmps3
  go_wp2_with fail
  refine (examples_in W).mono ?_
  rintro e u0 ⟨rfl, z0⟩
  have HZ0 := Hid.mk z0
  clear z0
  go_wp2_with fail
  refine (new_in u0 W.heap.size HZ0.out.size).mono ?_
  rintro e u1 ⟨rfl, t1, b1⟩
  obtain ⟨T, hT⟩ : ∃ T, u0.heap.size + 1 = T := ⟨_, rfl⟩
  rw [hT] at t1 ⊢
  obtain ⟨X, hX⟩ : ∃ X, u1.heap.size = X := ⟨_, rfl⟩
  obtain ⟨V0, hV0⟩ : ∃ V, u1.alloc (.cells #[.slice none 0 0] 29) = V := ⟨_, rfl⟩
  have H1 : Hid (Du W V0 T X 0 [] []) := by
    have bV : Below u1.heap.size u1 V0 := by rw [← hV0]; exact (Below.refl _ _).alloc (Nat.le_refl _) _
    have bW : Below W.heap.size W u1 := HZ0.out.trans (b1.mono HZ0.out.size)
    refine ⟨t1.blk bV, ⟨.slice none 0 0, by rw [← hX, ← hV0]; exact heap_alloc_last _ _, none, 0, rfl, Nat.le_refl _, by omega, fun _ => rfl, fun j hj => by simp at hj⟩, List.Pairwise.nil, List.Perm.refl _, bW.trans (bV.mono bW.size), by rw [← hX]; exact bW.size, Nat.le_refl _⟩
  have HE := Hid.mk (And.intro hX hV0)
  clear hT t1 b1 hX hV0
  go_upto_region 6 with fail
  rw [HE.out.2, HE.out.1]
  go_wp2
  go_loopw [6] (fun iv wr => ∃ k : Nat, k ≤ n ∧ k ≤ 200 ∧ iv = .int .i64 (k : Int) ∧ ∃ xs L, Du W wr T X k xs L) (fun iv _ => n - (intOf iv).toNat)
  case atStart => exact ⟨0, Nat.zero_le _, Nat.zero_le _, rfl, [], [], H1.out⟩
  case round =>
    clear H1
    obtain ⟨k, hk, hk200, rfl, xs, L, hD⟩ := hrel
    by_cases hlt : k < n ∧ k < 200
    · obtain ⟨g1, g2⟩ := hlt
      have z1 : (k : Int) < (n : Int) := by omega
      have z2 : (k : Int) < 200 := by omega
      have hkl : k < ls.length := by rw [HN.out]; exact g1
      obtain ⟨b, off, rfl, hbW, c0, c1, c2⟩ := HG.out k hkl
      have hdk := HOK.out _ (List.getElem_mem hkl)
      have d0 := (hD.bel.cell (p := ⟨b, off + k * 3, none⟩) hbW).trans c0
      have d1 := (hD.bel.cell (p := ⟨b, off + k * 3 + 1, none⟩) hbW).trans c1
      have d2 := (hD.bel.cell (p := ⟨b, off + k * 3 + 2, none⟩) hbW).trans c2
      obtain ⟨kd, hkd⟩ : ∃ x, ls[k].kd = x := ⟨_, rfl⟩
      obtain ⟨id, hid⟩ : ∃ x, ls[k].ky = x := ⟨_, rfl⟩
      obtain ⟨at', hat⟩ : ∃ x, ls[k].vl = x := ⟨_, rfl⟩
      obtain ⟨wk, wi, wa⟩ := hdk
      rw [hkd] at d0 wk
      rw [hid] at d1 wi
      rw [hat] at d2 wa
      have HPk := Hid.mk (pick_in · kd 4 wk (by decide) (by decide))
      have p0 := pickR_ge kd 4
      have p1 := pickR_lt kd 4 (by decide)
      obtain ⟨pk, hpk⟩ : ∃ x, pickR kd 4 = x := ⟨_, rfl⟩
      rw [hpk] at HPk p0 p1
      obtain ⟨dB, hdB⟩ : ∃ x, wr.heap.size = x := ⟨_, rfl⟩
      obtain ⟨V, hV⟩ : ∃ V, wr.alloc (.cells #[.int .i64 kd, .int .i64 id, .int .i64 at'] 31) = V := ⟨_, rfl⟩
      have hbV : Below wr.heap.size wr V := by rw [← hV]; exact (Below.refl _ _).alloc (Nat.le_refl _) _
      have hVd : V.heap[dB]? = some (.cells #[.int .i64 kd, .int .i64 id, .int .i64 at'] 31 (0, 0)) := by rw [← hdB, ← hV]; exact heap_alloc_last _ _
      have HD := Hid.mk (hD.below hbV)
      have HV := Hid.mk (And.intro hdB hV)
      have HWi := Hid.mk (And.intro wi wa)
      have v0 : V.cell? ⟨dB, 0, none⟩ = some (.int .i64 kd) := cell_of_heap hVd rfl
      have v1 : V.cell? ⟨dB, 1, none⟩ = some (.int .i64 id) := cell_of_heap hVd rfl
      have v2 : V.cell? ⟨dB, 2, none⟩ = some (.int .i64 at') := cell_of_heap hVd rfl
      have HVd := Hid.mk hVd
      clear hD c0 c1 c2 hkd hid hat hpk hdB hV hbV hVd wk wi wa v0 v1 v2
      go_upto_region 10 with fail
      rw [HV.out.2, HV.out.1]
      have v0 : V.cell? ⟨dB, 0, none⟩ = some (.int .i64 kd) := cell_of_heap HVd.out rfl
      have v1 : V.cell? ⟨dB, 1, none⟩ = some (.int .i64 id) := cell_of_heap HVd.out rfl
      have v2 : V.cell? ⟨dB, 2, none⟩ = some (.int .i64 at') := cell_of_heap HVd.out rfl
      clear d0 d1 d2
      go_wp2_with fail
      refine (HPk.out _).mono ?_
      rintro r V' ⟨rfl, hVV⟩
      have hVV2 := hVV.symm
      clear hVV
      subst hVV2
      have hpc : pk = 0 ∨ pk = 1 ∨ pk = 2 ∨ pk = 3 := by omega
      clear p0 p1 HPk
      rcases hpc with rfl | rfl | rfl | rfl
      · by_cases hat0 : at' < 0
        · go_wp2_with fail
          refine (set_no V T id at' hat0).mono ?_
          rintro r w1 ⟨rfl, hw1⟩
          have hw2 := hw1.symm
          clear hw1
          subst hw2
          go_wp2_with fail
          refine (xset_no V X id at' hat0).mono ?_
          rintro r w1 ⟨rfl, hw1⟩
          have hw2 := hw1.symm
          clear hw1
          subst hw2
          have HU : Hid (Du W V T X (k + 1) xs L) := HD.out.more (by omega)
          have HLn := Hid.mk (tlen_in (HU.out.tk.blk (Below.refl _ _).drew))
          obtain ⟨qz, cz, hXz, _⟩ := HU.out.ref.len
          rw [HU.out.perm.length_eq] at hXz
          obtain ⟨lz, hlz⟩ : ∃ l, xs.length = l := ⟨_, rfl⟩
          rw [hlz] at HLn hXz
          have cZ : V.cell? ⟨X, 0, none⟩ = some (.slice qz lz cz) := cell_of_heap hXz rfl
          have hlzz : ((lz : Int) != (lz : Int)) = false := by simp
          clear hXz hlz
          go_wp2
          go_region_held3 (fun u => u.cell? ⟨X, 0, none⟩ = some (.slice qz lz cz)) (first | assumption | go_keep)
            (first | (go_at_call 19; refine HLn.out.mono ?_; rintro e w' ⟨rfl, rfl⟩))
          all_goals
            go_wp2
            go_roundw
            case rel => exact ⟨k + 1, g1, g2, by go_num, _, _, HU.out.below (Below.refl _ _).drew⟩
            case measure => simp [intOf]; omega
        · have hlx : xs.length < 1000 := by have := HD.out.len; omega
          go_wp2_with fail
          refine (set_in HD.out.tk id at' (by omega) HWi.out.1 HWi.out.2 hlx).mono ?_
          rintro r w1 ⟨rfl, ⟨ys, t1, q1⟩, f1⟩
          have ad := f1.typ _ _ _ _ HVd.out (by decide) (by decide)
          have a1 : w1.cell? ⟨dB, 1, none⟩ = some (.int .i64 id) := cell_of_heap ad rfl
          have a2 : w1.cell? ⟨dB, 2, none⟩ = some (.int .i64 at') := cell_of_heap ad rfl
          have hR1 := HD.out.ref.fr f1
          have HX := Hid.mk (xset_in hR1 (by have := HD.out.ll; omega) HD.out.nd HD.out.ord id at' (by omega))
          have H1 := Hid.mk (And.intro t1 (And.intro q1 (And.intro f1 hR1)))
          clear t1 q1 f1 hR1 ad v0 v1 v2
          go_wp2_with fail
          refine HX.out.mono ?_
          rintro r w2 ⟨rfl, ⟨L2, r2, o2, q2⟩, k2⟩
          have HU : Hid (Du W w2 T X (k + 1) ys L2) := by
            have hpm : L2.Perm ys := q2.trans (((perm_wo HD.out.perm id).cons _).trans H1.out.2.1.symm)
            refine ⟨H1.out.1.ko H1.out.2.2.2 k2, r2, o2, hpm, (HD.out.bel.trans H1.out.2.2.1.bel).trans (k2.below HD.out.nX H1.out.1.base), HD.out.nX, ?_⟩
            rw [H1.out.2.1.length_eq, List.length_cons]
            have := List.length_filter_le (fun e : En => decide (e.1 ≠ id)) xs
            have := HD.out.len
            unfold wo
            omega
          clear r2 o2 q2 k2 a1 a2
          have HLn := Hid.mk (tlen_in (HU.out.tk.blk (Below.refl _ _).drew))
          obtain ⟨qz, cz, hXz, _⟩ := HU.out.ref.len
          rw [HU.out.perm.length_eq] at hXz
          obtain ⟨lz, hlz⟩ : ∃ l, ys.length = l := ⟨_, rfl⟩
          rw [hlz] at HLn hXz
          have cZ : w2.cell? ⟨X, 0, none⟩ = some (.slice qz lz cz) := cell_of_heap hXz rfl
          have hlzz : ((lz : Int) != (lz : Int)) = false := by simp
          clear hXz hlz
          go_wp2
          go_region_held3 (fun u => u.cell? ⟨X, 0, none⟩ = some (.slice qz lz cz)) (first | assumption | go_keep)
            (first | (go_at_call 19; refine HLn.out.mono ?_; rintro e w' ⟨rfl, rfl⟩))
          all_goals
            go_wp2
            go_roundw
            case rel => exact ⟨k + 1, g1, g2, by go_num, _, _, HU.out.below (Below.refl _ _).drew⟩
            case measure => simp [intOf]; omega
      · have HC1 := Hid.mk (cancel_in HD.out.tk id HWi.out.1)
        rw [same_there HD.out.perm id] at HC1
        obtain ⟨db, hdb⟩ : ∃ d, decide (∃ e ∈ L, e.1 = id) = d := ⟨_, rfl⟩
        rw [hdb] at HC1
        have HDb := Hid.mk hdb
        clear hdb
        go_wp2_with fail
        refine HC1.out.mono ?_
        rintro r w1 ⟨rfl, ⟨ys, t1, q1⟩, f1⟩
        have ad := f1.typ _ _ _ _ HVd.out (by decide) (by decide)
        have a1 : w1.cell? ⟨dB, 1, none⟩ = some (.int .i64 id) := cell_of_heap ad rfl
        have a2 : w1.cell? ⟨dB, 2, none⟩ = some (.int .i64 at') := cell_of_heap ad rfl
        have hR1 := HD.out.ref.fr f1
        have HX := Hid.mk (xcancel_in hR1 (by have := HD.out.ll; omega) HD.out.nd id)
        rw [HDb.out] at HX
        have H1 := Hid.mk (And.intro t1 (And.intro q1 (And.intro f1 hR1)))
        clear t1 q1 f1 hR1 ad v0 v1 v2
        go_wp2_with fail
        refine HX.out.mono ?_
        rintro r w2 ⟨rfl, r2, k2⟩
        have HU : Hid (Du W w2 T X (k + 1) ys (wo L id)) := by
          refine ⟨H1.out.1.ko H1.out.2.2.2 k2, r2, HD.out.ord.sublist List.filter_sublist, (perm_wo HD.out.perm id).trans H1.out.2.1.symm, (HD.out.bel.trans H1.out.2.2.1.bel).trans (k2.below HD.out.nX H1.out.1.base), HD.out.nX, ?_⟩
          rw [H1.out.2.1.length_eq]
          have := List.length_filter_le (fun e : En => decide (e.1 ≠ id)) xs
          have := HD.out.len
          unfold wo
          omega
        have hbb : (db == db) = true := by simp
        clear r2 k2 a1 a2
        have HLn := Hid.mk (tlen_in (HU.out.tk.blk (Below.refl _ _).drew))
        obtain ⟨qz, cz, hXz, _⟩ := HU.out.ref.len
        rw [HU.out.perm.length_eq] at hXz
        obtain ⟨lz, hlz⟩ : ∃ l, ys.length = l := ⟨_, rfl⟩
        rw [hlz] at HLn hXz
        have cZ : w2.cell? ⟨X, 0, none⟩ = some (.slice qz lz cz) := cell_of_heap hXz rfl
        have hlzz : ((lz : Int) != (lz : Int)) = false := by simp
        clear hXz hlz
        go_wp2
        go_region_held3 (fun u => u.cell? ⟨X, 0, none⟩ = some (.slice qz lz cz)) (first | assumption | go_keep)
          (first | (go_at_call 19; refine HLn.out.mono ?_; rintro e w' ⟨rfl, rfl⟩))
        all_goals
          go_wp2
          go_roundw
          case rel => exact ⟨k + 1, g1, g2, by go_num, _, _, HU.out.below (Below.refl _ _).drew⟩
          case measure => simp [intOf]; omega
      · have HN1 := Hid.mk (next_in HD.out.tk)
        have hsn : nx xs = nx L := by
          obtain ⟨M, v, hm, hh⟩ := HD.out.tk
          exact same_next hh HD.out.ord HD.out.perm
        rw [hsn] at HN1
        clear hsn
        go_wp2_with fail
        refine HN1.out.mono ?_
        rintro r w1 ⟨rfl, b1⟩
        have HU : Hid (Du W w1 T X (k + 1) xs L) := (HD.out.below b1).more (by omega)
        obtain ⟨qx, cx, hXx, _, hcx, _, hcl⟩ := HU.out.ref.len
        have cX : w1.cell? ⟨X, 0, none⟩ = some (.slice qx L.length cx) := cell_of_heap hXx rfl
        have hXs : X < w1.heap.size := blk_lt hXx
        have hXn : ¬ X = w1.heap.size := by omega
        have HBw := Hid.mk b1
        have HU1 := HU
        clear HU
        cases L with
        | nil =>
          obtain ⟨U, hU⟩ : ∃ U, w1.alloc (.cells #[.int .i64 0, .int .i64 0] 40) = U := ⟨_, rfl⟩
          have HU : Hid (Du W U T X (k + 1) xs []) := by rw [← hU]; exact HU1.out.below ((Below.refl _ _).alloc (Nat.le_refl _) _)
          have HUq := Hid.mk hU
          simp only [List.length_nil] at cX
          simp only [nx]
          clear hU hXx hcl b1 hcx v0 v1 v2
          go_upto_region 33 with fail
          rw [HUq.out]
          have HLn := Hid.mk (tlen_in (HU.out.tk.blk (Below.refl _ _).drew))
          obtain ⟨qz, cz, hXz, _⟩ := HU.out.ref.len
          rw [HU.out.perm.length_eq] at hXz
          obtain ⟨lz, hlz⟩ : ∃ l, xs.length = l := ⟨_, rfl⟩
          rw [hlz] at HLn hXz
          have cZ : U.cell? ⟨X, 0, none⟩ = some (.slice qz lz cz) := cell_of_heap hXz rfl
          have hlzz : ((lz : Int) != (lz : Int)) = false := by simp
          clear hXz hlz
          go_wp2
          go_region_held3 (fun u => u.cell? ⟨X, 0, none⟩ = some (.slice qz lz cz)) (first | assumption | go_keep)
            (first | (go_at_call 19; refine HLn.out.mono ?_; rintro e w' ⟨rfl, rfl⟩))
          all_goals
            go_wp2
            go_roundw
            case rel => exact ⟨k + 1, g1, g2, by go_num, _, _, HU.out.below (Below.refl _ _).drew⟩
            case measure => simp [intOf]; omega
        | cons y L =>
          obtain ⟨yi, ya⟩ := y
          obtain ⟨g, off, hq, cI, cA⟩ := hcl 0 (by simp)
          simp only [List.getElem_cons_zero, Nat.zero_mul, Nat.add_zero] at cI cA
          have hgs := lt_of_cell cI
          simp only at hgs
          have hgn : ¬ g = w1.heap.size := by omega
          obtain ⟨U, hU⟩ : ∃ U, w1.alloc (.cells #[.int .i64 yi, .int .i64 ya] 40) = U := ⟨_, rfl⟩
          have HU : Hid (Du W U T X (k + 1) xs ((yi, ya) :: L)) := by rw [← hU]; exact HU1.out.below ((Below.refl _ _).alloc (Nat.le_refl _) _)
          have HUq := Hid.mk hU
          simp only [List.length_cons] at cX hcx
          obtain ⟨l1, hl1⟩ : ∃ l, L.length = l := ⟨_, rfl⟩
          rw [hl1] at cX hcx
          have hz : (0 : Int) < ((l1 + 1 : Nat) : Int) := by omega
          have hl1s : l1 + 1 ≤ 1000 := by
            have := HU1.out.ll
            rw [List.length_cons, hl1] at this
            omega
          simp only [nx]
          subst hq
          clear hU hXx hcl b1 hl1 v0 v1 v2
          go_upto_region 33 with fail
          rw [HUq.out]
          have HLn := Hid.mk (tlen_in (HU.out.tk.blk (Below.refl _ _).drew))
          obtain ⟨qz, cz, hXz, _⟩ := HU.out.ref.len
          rw [HU.out.perm.length_eq] at hXz
          obtain ⟨lz, hlz⟩ : ∃ l, xs.length = l := ⟨_, rfl⟩
          rw [hlz] at HLn hXz
          have cZ : U.cell? ⟨X, 0, none⟩ = some (.slice qz lz cz) := cell_of_heap hXz rfl
          have hlzz : ((lz : Int) != (lz : Int)) = false := by simp
          clear hXz hlz
          go_wp2
          go_region_held3 (fun u => u.cell? ⟨X, 0, none⟩ = some (.slice qz lz cz)) (first | assumption | go_keep)
            (first | (go_at_call 19; refine HLn.out.mono ?_; rintro e w' ⟨rfl, rfl⟩))
          all_goals
            go_wp2
            go_roundw
            case rel => exact ⟨k + 1, g1, g2, by go_num, _, _, HU.out.below (Below.refl _ _).drew⟩
            case measure => simp [intOf]; omega
      · go_wp2_with fail
        refine (due_in HD.out.tk at' HWi.out.2).mono ?_
        rintro r w1 ⟨va, ds, rest, rfl, r1, t1, i1, l1, f1⟩
        have ad := f1.typ _ _ _ _ HVd.out (by decide) (by decide)
        have a1 : w1.cell? ⟨dB, 1, none⟩ = some (.int .i64 id) := cell_of_heap ad rfl
        have a2 : w1.cell? ⟨dB, 2, none⟩ = some (.int .i64 at') := cell_of_heap ad rfl
        have hR1 := HD.out.ref.fr f1
        have HX := Hid.mk (xdue_in hR1 (by have := HD.out.ll; omega) at')
        obtain ⟨qa, ca, hva⟩ := row_slice r1
        subst hva
        have H1 := Hid.mk (And.intro r1 (And.intro t1 (And.intro i1 (And.intro l1 (And.intro f1 hR1)))))
        clear r1 t1 i1 l1 f1 hR1 ad v0 v1 v2
        go_wp2_with fail
        refine HX.out.mono ?_
        rintro r w2 ⟨vb, ds2, rest2, rfl, r2, hR2, hs2, hd2, hh2, k2⟩
        obtain ⟨r1, t1, i1, l1, f1, hR1⟩ := H1.out
        obtain ⟨hdd, hpr, hor⟩ := same_due i1 l1 HD.out.ord HD.out.perm hs2 hd2 hh2
        subst hdd
        have HU2 : Hid (Du W w2 T X (k + 1) rest rest2) := by
          refine ⟨t1.ko hR1 k2, hR2, hor, hpr, (HD.out.bel.trans f1.bel).trans (k2.below HD.out.nX t1.base), HD.out.nX, ?_⟩
          have e1 := i1.perm.length_eq
          rw [List.length_append] at e1
          have := HD.out.len
          omega
        have hra := row_ko r1 hR1 k2
        obtain ⟨q1, c1, hv1, hc1, hcl1⟩ := row_int (l := ds.map Prod.fst) (by rw [List.length_map]; exact hra)
        obtain ⟨q2, c2, hv2, hc2, hcl2⟩ := row_int (l := ds.map Prod.fst) (by rw [List.length_map]; exact r2)
        have hdl : ds.length ≤ 1000 := by
          have e1 := i1.perm.length_eq
          rw [List.length_append] at e1
          have := HD.out.len
          omega
        rw [List.length_map] at hv1 hv2 hc1 hc2
        have hlm : (ds.map Prod.fst).length = ds.length := List.length_map _
        obtain ⟨dl, hdl2⟩ : ∃ d, ds.length = d := ⟨_, rfl⟩
        rw [hdl2] at hv1 hv2 hc1 hc2 hdl hlm
        cases hv1
        subst hv2
        have HC1 : Hid (∀ j, j < dl → ∃ g g' x, qa = some ⟨g, 0, none⟩ ∧ q2 = some ⟨g', 0, none⟩ ∧ w2.cell? ⟨g, j, none⟩ = some (.int .i64 x) ∧ w2.cell? ⟨g', j, none⟩ = some (.int .i64 x)) := fun j hj => by
          obtain ⟨g, h1, h2⟩ := hcl1 j (by rw [hlm]; exact hj)
          obtain ⟨g', h3, h4⟩ := hcl2 j (by rw [hlm]; exact hj)
          exact ⟨g, g', _, h1, h3, h2, h4⟩
        have HDl := Hid.mk hdl2
        rw [hdl2]
        clear r1 t1 i1 l1 f1 hR1 r2 hR2 hs2 hd2 hh2 k2 hpr hor hra hcl1 hcl2 hlm hdl2 H1 a1 a2
        have hll : ((dl : Int) == (dl : Int)) = true := by simp
        go_wp2
        go_loopw [8, 19] (fun gv iv wr => ∃ i : Nat, i ≤ dl ∧ iv = .int .i64 (i : Int) ∧ gv = .bool true ∧ Sm w2 wr) (fun _ iv _ => dl - (intOf iv).toNat)
        case atStart => exact ⟨0, Nat.zero_le _, rfl, by first | rfl | simp, Sm.refl _⟩
        case round =>
          obtain ⟨i, hi, rfl, rfl, hw⟩ := hrel
          by_cases hlt2 : i < dl
          · have x1 : (i : Int) < (dl : Int) := by omega
            obtain ⟨g, g', x, rfl, rfl, e1, e2⟩ := HC1.out i hlt2
            have e1' := hw.cell e1
            have e2' := hw.cell e2
            have hxx : (x == x) = true := by simp
            clear e1 e2
            go_wp2
            go_region
            all_goals
              go_wp2
              go_roundw
              case rel => exact ⟨i + 1, hlt2, by go_num, by first | rfl | simp, hw.drew⟩
              case measure => simp [intOf]; omega
          · have x1 : ¬ (i : Int) < (dl : Int) := by omega
            have HU : Hid (Du W wr T X (k + 1) rest rest2) := HU2.out.below (hw.below _)
            have HLn := Hid.mk (tlen_in (HU.out.tk.blk (Below.refl _ _).drew))
            obtain ⟨qz, cz, hXz, _⟩ := HU.out.ref.len
            rw [HU.out.perm.length_eq] at hXz
            obtain ⟨lz, hlz⟩ : ∃ l, rest.length = l := ⟨_, rfl⟩
            rw [hlz] at HLn hXz
            have cZ : wr.cell? ⟨X, 0, none⟩ = some (.slice qz lz cz) := cell_of_heap hXz rfl
            have hlzz : ((lz : Int) != (lz : Int)) = false := by simp
            clear hXz hlz
            go_wp2
            go_region_held3 (fun u => u.cell? ⟨X, 0, none⟩ = some (.slice qz lz cz)) (first | assumption | go_keep)
              (first | (go_at_call 19; refine HLn.out.mono ?_; rintro e w' ⟨rfl, rfl⟩))
            all_goals
              go_wp2
              go_roundw
              case rel => exact ⟨k + 1, g1, g2, by go_num, _, _, HU.out.below (Below.refl _ _).drew⟩
              case measure => simp [intOf]; omega
    · have HB := Hid.mk hD.bel
      by_cases h1 : k < n
      · have z1 : (k : Int) < (n : Int) := by omega
        have z2 : ¬ (k : Int) < 200 := by omega
        clear hD hlt
        go_wp2
        go_ret
        exact ⟨rfl, HB.out⟩
      · have z1 : ¬ (k : Int) < (n : Int) := by omega
        clear hD hlt
        go_wp2
        go_ret
        exact ⟨rfl, HB.out⟩
end Go.Proofs.Ytdgkknjmhdmlfaa
