/- Layer 11: TablePlays. -/
import Derived.Test.YtcebljcofkohiaaTbDeed
import Derived.Deep.Cut
namespace Go.Proofs.Ytcebljcofkohiaa
set_option linter.unusedVariables false
open Go.RowKit

set_option maxRecDepth 100000 in
set_option maxHeartbeats 4000000 in
theorem plays_no (c : Int) (a : Option Addr) (n cap : Nat) (W : World) (h : c < 1 ∨ 100000 < c) :
    Calls Try.prog 3 #[.int .i64 c, .slice a n cap] W fun e w' => e = .returned (.bool true) ∧ Below W.heap.size W w' := by
  by_cases h1 : c < 1
  · go_enter Try.func3, Try.ntmps3
    go_wp2_with fail
    refine (examples_in W).mono ?_
    rintro e w0 ⟨rfl, b0⟩
    go_wp2_with fail
    refine (new_no w0 c h).mono ?_
    rintro e w1 ⟨rfl, rfl⟩
    go_wp2
    go_ret
    exact ⟨rfl, b0⟩
  · have h2 : 100000 < c := by omega
    go_enter Try.func3, Try.ntmps3
    go_wp2_with fail
    refine (examples_in W).mono ?_
    rintro e w0 ⟨rfl, b0⟩
    go_wp2_with fail
    refine (new_no w0 c h).mono ?_
    rintro e w1 ⟨rfl, rfl⟩
    go_wp2
    go_ret
    exact ⟨rfl, b0⟩

set_option maxRecDepth 100000 in
set_option maxHeartbeats 8000000 in
theorem plays_yes (m : Nat) (hm1 : 1 ≤ m) (hm2 : m ≤ 100000) (a : Option Addr) (cap : Nat) (ls : List Dd) (hll : ls.length ≤ maxLen) (hok : ∀ d ∈ ls, d.Ok) (W : World) (hg : GivenD W a ls) :
    Calls Try.prog 3 #[.int .i64 (m : Int), .slice a ls.length cap] W fun e w' => e = .returned (.bool true) ∧ Below W.heap.size W w' := by
  obtain ⟨n, hn⟩ : ∃ n, ls.length = n := ⟨_, rfl⟩
  rw [hn]
  have HN := Hid.mk hn
  have HOK := Hid.mk hok
  have hnm : n ≤ 9223372036854775807 := by rw [← hn]; exact hll
  clear hn hok hll
  go_enter Try.func3, Try.ntmps3
  go_wp2_with fail
  refine (examples_in W).mono ?_
  rintro e w0 ⟨rfl, b0⟩
  go_wp2_with fail
  refine (new_kv w0 (m : Int) (by omega) (by omega)).mono ?_
  rintro e w1 ⟨rfl, t1, b1⟩
  obtain ⟨T, hT⟩ : ∃ T, w0.heap.size + 3 = T := ⟨_, rfl⟩
  rw [hT] at t1 ⊢
  clear hT
  have h1 : ¬ (m : Int) < 1 := by omega
  have h2 : ¬ (100000 : Int) < (m : Int) := by omega
  have bx : Below w1.heap.size w1 (w1.alloc (.cells #[.int .i64 (m : Int), .slice none 0 0] 31)) := (Below.refl _ _).alloc (Nat.le_refl _) _
  have hD0 : Duo w0 (w1.alloc (.cells #[.int .i64 (m : Int), .slice none 0 0] 31)) T w1.heap.size m 0 [] :=
    ⟨t1.blk bx, ⟨⟨_, heap_alloc_last _ _, World.ownsRow_nil ..⟩, Nat.zero_le _⟩, Nat.zero_le _, b1.size⟩
  obtain ⟨X, hX⟩ : ∃ X, w1.heap.size = X := ⟨_, rfl⟩
  have HD0 := Hid.mk hD0
  have HX := Hid.mk hX
  have HG := Hid.mk hg
  clear t1 hD0 bx hX hg
  go_wp2
  rw [HX.out] at HD0 ⊢
  go_loopw [9] (fun i wr => ∃ k : Nat, k ≤ n ∧ k ≤ 200 ∧ i = .int .i64 (k : Int) ∧ ∃ j l, j ≤ k ∧ Duo w0 wr T X m j l) (fun i _ => n - (intOf i).toNat)
  case atStart => exact ⟨0, Nat.zero_le _, Nat.zero_le _, rfl, 0, [], Nat.le_refl _, HD0.out⟩
  case round =>
    obtain ⟨k, hk, hk200, rfl, j, l, hj, hD⟩ := hrel
    by_cases hlt : k < n ∧ k < 200
    · obtain ⟨g1, g2⟩ := hlt
      have hkl : k < ls.length := by rw [HN.out]; exact g1
      have hBW := b0.trans (hD.tab.bel.mono b0.size)
      obtain ⟨b, off, rfl, hbW, c0, c1, c2⟩ := HG.out k hkl
      have hdk := HOK.out _ (List.getElem_mem hkl)
      have d0 := (hBW.cell (p := ⟨b, off + k * 3, none⟩) hbW).trans c0
      have d1 := (hBW.cell (p := ⟨b, off + k * 3 + 1, none⟩) hbW).trans c1
      have d2 := (hBW.cell (p := ⟨b, off + k * 3 + 2, none⟩) hbW).trans c2
      obtain ⟨kd, hkd⟩ : ∃ x, ls[k].kd = x := ⟨_, rfl⟩
      obtain ⟨ky, hky⟩ : ∃ x, ls[k].ky = x := ⟨_, rfl⟩
      obtain ⟨vl, hvl⟩ : ∃ x, ls[k].vl = x := ⟨_, rfl⟩
      have hkb : -9223372036854775808 ≤ kd ∧ kd ≤ 9223372036854775807 := by have := Go.bounds_i64 hdk.1; rw [hkd] at this; omega
      have hks : ky.size ≤ maxLen := by rw [← hky]; exact hdk.2
      rw [hkd] at d0
      rw [hky] at d1
      rw [hvl] at d2
      have g2' : (k : Int) < 200 := by omega
      have HPk := Hid.mk (pick_in · kd 5 hkb (by decide) (by decide))
      have p0 := pickR_ge kd 5
      have p1 := pickR_lt kd 5 (by decide)
      obtain ⟨pk, hpk⟩ : ∃ x, pickR kd 5 = x := ⟨_, rfl⟩
      rw [hpk] at HPk p0 p1
      -- the deed's own box
      obtain ⟨V, hV⟩ : ∃ V, wr.alloc (.cells #[.int .i64 kd, .string ky, .int .i64 vl] 33) = V := ⟨_, rfl⟩
      have hbV : Below wr.heap.size wr V := by rw [← hV]; exact (Below.refl _ _).alloc (Nat.le_refl _) _
      have hDV := hD.blk hbV
      have hVd : V.heap[wr.heap.size]? = some (.cells #[.int .i64 kd, .string ky, .int .i64 vl] 33 (0, 0)) := by rw [← hV]; exact heap_alloc_last _ _
      obtain ⟨dB, hdB⟩ : ∃ x, wr.heap.size = x := ⟨_, rfl⟩
      have HV := Hid.mk hV
      have HI := Hid.mk (And.intro g1 (And.intro g2 hj))
      rw [hdB] at hVd
      have v0 : V.cell? ⟨dB, 0, none⟩ = some (.int .i64 kd) := by rw [cell_of_row _ _ _ _ _ _ hVd]; rfl
      have HDB := Hid.mk hdB
      clear hBW c0 c1 c2 hkd hky hvl hV hD hj hk hk200 hbV hdk hdB hpk
      go_upto_region 12 with fail
      rw [HV.out, HDB.out]
      have v1 : V.cell? ⟨dB, 1, none⟩ = some (.string ky) := by rw [cell_of_row _ _ _ _ _ _ hVd]; rfl
      have v2 : V.cell? ⟨dB, 2, none⟩ = some (.int .i64 vl) := by rw [cell_of_row _ _ _ _ _ _ hVd]; rfl
      have HDV := Hid.mk hDV
      have hj200 : Hid (j < maxLen) := by have := HI.out.2.2; have := HI.out.2.1; unfold Hid maxLen; omega
      have HBs : Hid (w0.heap.size ≤ V.heap.size) := hDV.base
      clear hDV d0 d1 d2 hbW
      go_wp2_with fail
      refine (HPk.out _).mono ?_
      rintro r V' ⟨rfl, rfl⟩
      have hpc : pk = 0 ∨ pk = 1 ∨ pk = 2 ∨ pk = 3 ∨ pk = 4 := by omega
      clear p0 p1 HPk
      rcases hpc with rfl | rfl | rfl | rfl | rfl
      · have HP1 := Hid.mk (put_kv HDV.out.tab ky vl HDV.out.len hm1 hm2 hks hj200.out)
        obtain ⟨s0, hs0⟩ : ∃ s, (putG m l ky).getD ⟨#[]⟩ = s := ⟨_, rfl⟩
        obtain ⟨o0, ho0⟩ : ∃ o, (putG m l ky).isSome = o := ⟨_, rfl⟩
        rw [hs0, ho0] at HP1
        go_wp2_with fail
        refine HP1.out.mono ?_
        rintro r u1 ⟨rfl, t1, f1⟩
        have hd1 := f1.same _ _ _ _ hVd (by decide) (by decide)
        have e1 : u1.cell? ⟨dB, 1, none⟩ = some (.string ky) := by rw [cell_of_row _ _ _ _ _ _ hd1]; rfl
        have e2 : u1.cell? ⟨dB, 2, none⟩ = some (.int .i64 vl) := by rw [cell_of_row _ _ _ _ _ _ hd1]; rfl
        have hr1 := HDV.out.ref.frn f1
        have HP2 := Hid.mk (rput_in hr1 HDV.out.tab.nodup (Nat.le_trans HBs.out f1.size) hm1 hm2 HDV.out.len ky vl)
        rw [hs0, ho0] at HP2
        have HR1 := Hid.mk (And.intro t1 hr1)
        clear t1 f1 hr1 hd1 hs0 ho0
        go_wp2_with fail
        refine HP2.out.mono ?_
        rintro r u2 ⟨rfl, r2, k2⟩
        obtain ⟨cX, hcX⟩ := HR1.out.2.typ
        have HF : Hid (Duo w0 u2 T X m (j + 1) (putR m l ky vl)) := ⟨HR1.out.1.kp k2 hcX HDV.out.own, r2, by unfold putR; rw [List.length_take]; omega, HDV.out.own⟩
        clear r2 k2 hcX
        go_wp2
        go_roundw
        case rel => exact ⟨k + 1, HI.out.1, HI.out.2.1, by go_num, j + 1, _, by have := HI.out.2.2; omega, HF.out⟩
        case measure => simp [intOf]; omega
      · obtain ⟨l2, s0, o0, hl2m, HP1, HQ⟩ : ∃ (l2 : KV) (s0 : Int) (o0 : Bool), Hid (l2.length ≤ m) ∧
            Hid (Calls Try.prog 11 #[pt T, .string ky] V' fun r w' => r = .returned (.tuple #[.int .i64 s0, .bool o0]) ∧ TabK w0 w' T (m : Int) j l2 ∧ Frn V' w') ∧
            Hid (∀ u1, Frn V' u1 → Calls Try.prog 12 #[pt X, .string ky] u1 fun r w' => r = .returned (.tuple #[.int .i64 s0, .bool o0]) ∧ RefAt w' w0.heap.size X (m : Int) l2 ∧ Kp (fun b => b = X) u1 w') := by
          have a1 := get_kv HDV.out.tab ky hks
          have a2 := fun u1 f1 => rget_in (HDV.out.ref.frn (W' := u1) f1) HDV.out.tab.nodup (Nat.le_trans HBs.out f1.size) hm1 hm2 HDV.out.len ky
          have hlm := HDV.out.len
          cases hgr : getR l ky with
          | none =>
            simp only [hgr] at a1 a2
            exact ⟨l, _, _, hlm, a1, a2⟩
          | some v0 =>
            simp only [hgr] at a1 a2
            refine ⟨(ky, v0) :: without l ky, _, _, ?_, a1, a2⟩
            rw [Hid, ← put_same HDV.out.tab.nodup hlm hgr]
            unfold putR
            rw [List.length_take]
            omega
        go_wp2_with fail
        refine HP1.out.mono ?_
        rintro r u1 ⟨rfl, t1, f1⟩
        have hd1 := f1.same _ _ _ _ hVd (by decide) (by decide)
        have e1 : u1.cell? ⟨dB, 1, none⟩ = some (.string ky) := by rw [cell_of_row _ _ _ _ _ _ hd1]; rfl
        have HP2 := Hid.mk (HQ.out u1 f1)
        have HR1 := Hid.mk (And.intro t1 (HDV.out.ref.frn f1))
        clear t1 f1 hd1
        go_wp2_with fail
        refine HP2.out.mono ?_
        rintro r u2 ⟨rfl, r2, k2⟩
        obtain ⟨cX, hcX⟩ := HR1.out.2.typ
        have HF : Hid (Duo w0 u2 T X m j l2) := ⟨HR1.out.1.kp k2 hcX HDV.out.own, r2, hl2m.out, HDV.out.own⟩
        clear r2 k2 hcX
        go_wp2
        go_roundw
        case rel => exact ⟨k + 1, HI.out.1, HI.out.2.1, by go_num, j, _, by have := HI.out.2.2; omega, HF.out⟩
        case measure => simp [intOf]; omega
      · have HP1 := Hid.mk (look_kv HDV.out.tab ky hks)
        have HQ := Hid.mk (fun (u1 : World) (b1 : Below V'.heap.size V' u1) => rlook_in (HDV.out.ref.blk b1) HDV.out.tab.nodup ky)
        obtain ⟨s0, hs0⟩ : ∃ s, (getR l ky).getD 0 = s := ⟨_, rfl⟩
        obtain ⟨o0, ho0⟩ : ∃ o, (getR l ky).isSome = o := ⟨_, rfl⟩
        rw [hs0, ho0] at HP1 HQ
        go_wp2_with fail
        refine HP1.out.mono ?_
        rintro r u1 ⟨rfl, f1⟩
        have hd1 := (f1.block _ (blk_lt hVd)).trans hVd
        have e1 : u1.cell? ⟨dB, 1, none⟩ = some (.string ky) := by rw [cell_of_row _ _ _ _ _ _ hd1]; rfl
        have HP2 := Hid.mk (HQ.out u1 f1)
        have HF := Hid.mk (HDV.out.blk f1)
        clear f1 hd1 hs0 ho0
        go_wp2_with fail
        refine HP2.out.mono ?_
        rintro r u2 ⟨rfl, rfl⟩
        go_wp2
        go_roundw
        case rel => exact ⟨k + 1, HI.out.1, HI.out.2.1, by go_num, j, _, by have := HI.out.2.2; omega, HF.out⟩
        case measure => simp [intOf]; omega
      · have HP1 := Hid.mk (drop_kv HDV.out.tab ky hks)
        have HQ := Hid.mk (fun u1 f1 => rdrop_in (HDV.out.ref.frn (W' := u1) f1) HDV.out.tab.nodup (Nat.le_trans HBs.out f1.size) ky)
        obtain ⟨o0, ho0⟩ : ∃ o, (getR l ky).isSome = o := ⟨_, rfl⟩
        rw [ho0] at HP1 HQ
        go_wp2_with fail
        refine HP1.out.mono ?_
        rintro r u1 ⟨rfl, t1, f1⟩
        have hd1 := f1.same _ _ _ _ hVd (by decide) (by decide)
        have e1 : u1.cell? ⟨dB, 1, none⟩ = some (.string ky) := by rw [cell_of_row _ _ _ _ _ _ hd1]; rfl
        have HP2 := Hid.mk (HQ.out u1 f1)
        have HR1 := Hid.mk (And.intro t1 (HDV.out.ref.frn f1))
        clear t1 f1 hd1 ho0
        go_wp2_with fail
        refine HP2.out.mono ?_
        rintro r u2 ⟨rfl, r2, k2⟩
        obtain ⟨cX, hcX⟩ := HR1.out.2.typ
        have HF : Hid (Duo w0 u2 T X m j (without l ky)) := ⟨HR1.out.1.kp k2 hcX HDV.out.own, r2, Nat.le_trans (List.length_filter_le _ _) HDV.out.len, HDV.out.own⟩
        clear r2 k2 hcX
        go_wp2
        go_roundw
        case rel => exact ⟨k + 1, HI.out.1, HI.out.2.1, by go_num, j, _, by have := HI.out.2.2; omega, HF.out⟩
        case measure => simp [intOf]; omega
      · have HP1 := Hid.mk (keysL_in HDV.out.tab HDV.out.ref HBs.out)
        go_wp2_with fail
        refine HP1.out.mono ?_
        rintro r u1 ⟨rfl, f1⟩
        have HF := Hid.mk (HDV.out.blk f1)
        clear f1
        go_wp2
        go_roundw
        case rel => exact ⟨k + 1, HI.out.1, HI.out.2.1, by go_num, j, _, by have := HI.out.2.2; omega, HF.out⟩
        case measure => simp [intOf]; omega
    · have HP1 := Hid.mk (keysL_in hD.tab hD.ref hD.base)
      have HB := Hid.mk (b0.trans (hD.tab.bel.mono b0.size))
      clear hD
      have hor : ¬ ((k : Int) < (n : Int)) ∨ ((k : Int) < (n : Int) ∧ ¬ ((k : Int) < 200)) := by omega
      rcases hor with g1 | ⟨g1, g2⟩
      · go_wp2_with fail
        refine HP1.out.mono ?_
        rintro r u1 ⟨rfl, f1⟩
        go_wp2
        go_ret
        exact ⟨rfl, HB.out.trans (f1.mono HB.out.size)⟩
      · go_wp2_with fail
        refine HP1.out.mono ?_
        rintro r u1 ⟨rfl, f1⟩
        go_wp2
        go_ret
        exact ⟨rfl, HB.out.trans (f1.mono HB.out.size)⟩

theorem plays_walk (c : Int) (hc : (Lit.int .i64 c).wf = true) (a : Option Addr) (cap : Nat) (ls : List Dd) (hll : ls.length ≤ maxLen) (hok : ∀ d ∈ ls, d.Ok) (W : World) (hg : GivenD W a ls) :
    Calls Try.prog 3 #[.int .i64 c, .slice a ls.length cap] W fun e w' => e = .returned (.bool true) ∧ Below W.heap.size W w' := by
  by_cases h : c < 1 ∨ 100000 < c
  · exact plays_no c a ls.length cap W h
  · obtain ⟨m, rfl⟩ : ∃ m : Nat, c = (m : Int) := ⟨c.toNat, by omega⟩
    exact plays_yes m (by omega) (by omega) a cap ls hll hok W hg

end Go.Proofs.Ytcebljcofkohiaa
