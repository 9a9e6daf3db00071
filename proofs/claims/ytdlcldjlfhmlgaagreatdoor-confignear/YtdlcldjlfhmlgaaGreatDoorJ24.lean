/- Texts of this proof, joined: LfE, LfG, LfCl, LfH, LfI, LfV. -/
import Derived.Test.YtdlcldjlfhmlgaaGreatDoorJ23
import Derived.Lib.BufferWrite
import Derived.Lib.UnsafeStr
import Derived.Test.YtdlcldjlfhmlgaaGreatDoorJ2
import Derived.Deep.RegionHeld3
import Derived.Test.YtdlcldjlfhmlgaaGreatDoorJ17
set_option linter.unusedVariables false
set_option linter.unusedSimpArgs false
/- Layer 15: rightAnchors. -/
namespace Go.Proofs.YtdlcldjlfhmlgaaGreatDoor
open Go.RowKit
theorem ans_cells {W : World} {q : Option Addr} {l : List An} (hat : AnsAt W q l) (hin : ∀ a ∈ l, AnIn a) {n : Nat} (hn : l.length = n) : Hid (∀ i, i < n → ∃ b off, q = some ⟨b, off, none⟩ ∧ ∃ a : An, Hid ((∃ hi : i < l.length, l[i] = a) ∧ a ∈ l ∧ AnIn a) ∧ Hid (∀ w, Below W.heap.size W w → w.cell? ⟨b, off + i * 5, none⟩ = some (.string a.nm) ∧ w.cell? ⟨b, off + i * 5 + 1, none⟩ = some (.int .i64 a.tg) ∧ w.cell? ⟨b, off + i * 5 + 2, none⟩ = some (.int .i64 a.al) ∧ w.cell? ⟨b, off + i * 5 + 3, none⟩ = some (.int .i64 a.kd) ∧ w.cell? ⟨b, off + i * 5 + 4, none⟩ = some (.string a.dg))) := fun i hi0 => by
  have hi : i < l.length := by omega
  obtain ⟨b, off, e, _⟩ := hat i hi
  refine ⟨b, off, e, l[i], ⟨⟨hi, rfl⟩, List.getElem_mem hi, hin _ (List.getElem_mem hi)⟩, fun w hb => ?_⟩
  obtain ⟨b', off', e', _, c0, c1, c2, c3, c4⟩ := hat.blk hb i hi
  rw [e] at e'
  cases e'
  exact ⟨c0, c1, c2, c3, c4⟩
set_option maxRecDepth 100000 in
set_option maxHeartbeats 4000000 in
theorem anchors_in (W : World) (k : Cq) (c : Cf) (hat : CfAt W k c) (hin : CfIn c) : Calls Tryz.prog 76 #[cfV k c] W fun e w' => e = .returned (.bool (prtR c 4)) ∧ Below W.heap.size W w' := by
  show Calls _ _ _ _ fun e w' => e = .returned (.bool (ansOk c.an)) ∧ _
  have HC0 := Hid.mk (fun n hn => ans_cells hat.an hin.an (n := n) hn)
  have hs4 := hat.s4
  obtain ⟨l, hl⟩ : ∃ l, c.an = l := ⟨_, rfl⟩
  rw [hl] at HC0 hs4
  have HBad : Hid (∀ a ∈ l, anOk a = false → ansOk l = false) := fun a ha h => ansOk_no ha h
  have HYes : Hid ((∀ j (hj : j < l.length), anOk l[j] = true) → ansOk l = true) := fun h => ansOk_yes fun a ha => by
    obtain ⟨j, hj, rfl⟩ := List.getElem_of_mem ha
    exact h j hj
  obtain ⟨R, hR⟩ : ∃ R, ansOk l = R := ⟨_, rfl⟩
  rw [hl, hR]
  rw [hR] at HBad HYes
  obtain ⟨n, hn⟩ : ∃ n, l.length = n := ⟨_, rfl⟩
  have HNL := Hid.mk hn
  obtain ⟨N, hN⟩ : ∃ N, W.heap.size = N := ⟨_, rfl⟩
  have HNN := Hid.mk hN
  have HB0 : Hid (Below N W (W.alloc (.cells (cfC k c) 51))) := by rw [← hN]; exact (Below.refl _ _).alloc (Nat.le_refl _) _
  have HC := HC0.out n hn
  rw [hn] at hs4
  rw [hN] at HC
  obtain ⟨q0, c0, q1, c1, q2, c2, q3, c3, q4, c4⟩ := k
  have hnx : n ≤ maxLen := by
    have h1 := hs4.1
    have h2 := hs4.2.1
    simp only at h1 h2
    omega
  simp only [cfV, cfC] at HC HB0 ⊢
  rw [hl, hn] at HB0 ⊢
  rw [hN]
  clear hat hin hs4 hl hR hn HC0
  go_enter Tryz.func76, Tryz.ntmps76
  go_upto_region 2 with fail
  clear hN
  go_loopw [8] (fun iv wr => ∃ (i : Nat) (u : World), u = wr ∧ i ≤ n ∧ iv = .int .i64 (i : Int) ∧ Hid (∀ j (hj : j < l.length), j < i → anOk l[j] = true) ∧ Hid (Below N W u)) (fun iv _ => n - (intOf iv).toNat)
  case atStart => exact ⟨0, _, rfl, Nat.zero_le _, rfl, fun j hj h => absurd h (Nat.not_lt_zero _), HB0.out⟩
  case round =>
    obtain ⟨i, u, rfl, hi, rfl, HA, HU⟩ := hrel
    have hNu : N ≤ u.heap.size := by rw [← HNN.out]; exact HU.out.size
    by_cases hlt : i < n
    · have hlz : (i : Int) < (n : Int) := by omega
      have wi : IntKind.i64.wrap ((i : Int) + 1) = ((i + 1 : Nat) : Int) := by rw [IntKind.wrap_i64]; unfold maxLen at hnx; omega
      obtain ⟨b, off, rfl, a, HI, HX⟩ := HC.out i hlt
      obtain ⟨d0, d1, d2, d3, d4⟩ := HX.out _ HU.out
      have HDs := Hid.mk (fun w => ds_in w a)
      have HOk : Hid (anOk a = true → ∀ j (hj : j < l.length), j < i + 1 → anOk l[j] = true) := fun h j hj hji => by
        rcases Nat.lt_succ_iff_lt_or_eq.1 hji with h5 | h5
        · exact HA.out j hj h5
        · subst h5
          obtain ⟨⟨hi', e⟩, _⟩ := HI.out
          rw [e]; exact h
      have HNk : Hid (anOk a = false → R = false) := fun h => HBad.out a HI.out.2.1 h
      have hns := HI.out.2.2.1
      obtain ⟨nm0, tg, al, kd, dg⟩ := a
      simp only at d0 d1 d2 d3 d4 hns HDs
      have HRi := Hid.mk (nright_in nm0 hns)
      obtain ⟨V1, hV1⟩ : ∃ V1, u.alloc (.cells #[.string nm0, .int .i64 tg, .int .i64 al, .int .i64 kd, .string dg] 71) = V1 := ⟨_, rfl⟩
      have X0 : Bx u u.heap.size [.string nm0, .int .i64 tg, .int .i64 al, .int .i64 kd, .string dg] 71 V1 := hV1 ▸ Bx.new u _ _
      have HV1 := Hid.mk hV1
      obtain ⟨B, hBe⟩ : ∃ B, u.heap.size = B := ⟨_, rfl⟩
      have HB := Hid.mk hBe
      have x0 := X0.cells5
      rw [hBe] at x0
      have HK : Hid (∀ w, Below V1.heap.size V1 w → Below N W w ∧ w.cell? ⟨B, 1, none⟩ = some (.int .i64 tg) ∧ w.cell? ⟨B, 2, none⟩ = some (.int .i64 al) ∧ w.cell? ⟨B, 3, none⟩ = some (.int .i64 kd) ∧ w.cell? ⟨B, 4, none⟩ = some (.string dg)) := fun w hb => by
        have := (X0.blk hb).cells5
        rw [hBe] at this
        exact ⟨HU.out.trans ((X0.bel.mono hNu).trans (hb.mono (Nat.le_trans hNu X0.bel.size))), this.2⟩
      clear hV1 hBe X0 d0 d1 d2 d3 d4
      have d := HX.out _ HU.out
      obtain ⟨d0, d1, d2, d3, d4⟩ := d
      simp only at d0 d1 d2 d3 d4
      go_upto_region 4 with fail
      rw [HV1.out, HB.out]
      cases hi1 : isN nm0 with
      | false =>
        have hR : R = false := HNk.out (by unfold anOk; simp only; rw [hi1]; rfl)
        subst hR
        rw [hi1] at HRi
        go_wp2_with fail
        refine (HRi.out _).mono ?_
        rintro e w2 ⟨rfl, hb2⟩
        have HE := Hid.mk (HK.out _ hb2).1
        clear hb2
        go_wp2
        go_ret
        exact ⟨rfl, HE.out⟩
      | true =>
        rw [hi1] at HRi
        go_wp2_with fail
        refine (HRi.out _).mono ?_
        rintro e w2 ⟨rfl, hb2⟩
        obtain ⟨hE2, y1, y2, y3, y4⟩ := HK.out _ hb2
        have HE2 := Hid.mk hE2
        clear hb2 hE2 x0
        cases hd : dsR ⟨nm0, tg, al, kd, dg⟩ with
        | false =>
          have hR : R = false := HNk.out (by unfold anOk; simp only; rw [hd, Bool.and_false])
          subst hR
          rw [hd] at HDs
          go_wp2_with fail
          refine (HDs.out _).mono ?_
          rintro e w3 ⟨rfl, hb3⟩
          have HE := Hid.mk (HE2.out.trans (hb3.mono (by rw [← HNN.out]; exact HE2.out.size)))
          clear hb3
          go_wp2
          go_ret
          exact ⟨rfl, HE.out⟩
        | true =>
          have HA2 := Hid.mk (HOk.out (by unfold anOk; simp only; rw [hi1, hd]; rfl))
          rw [hd] at HDs
          go_wp2_with fail
          refine (HDs.out _).mono ?_
          rintro e w3 ⟨rfl, hb3⟩
          have HE := Hid.mk (HE2.out.trans (hb3.mono (by rw [← HNN.out]; exact HE2.out.size)))
          clear hb3 hd
          go_wp2
          go_roundw
          case rel => exact ⟨i + 1, _, rfl, by omega, by first | rfl | go_num, HA2, HE⟩
          case measure => simp [intOf]; omega
    · have hlz : ¬ (i : Int) < (n : Int) := by omega
      have hR : R = true := HYes.out fun j hj => HA.out j hj (by have := HNL.out; omega)
      subst hR
      go_wp2
      go_ret
      exact ⟨rfl, HU.out⟩
end Go.Proofs.YtdlcldjlfhmlgaaGreatDoor
/- Layer 15: nearest. -/
namespace Go.Proofs.YtdlcldjlfhmlgaaGreatDoor
open Go.RowKit
def plI : Option Nat → Int
  | none => -1
  | some b => (b : Int)
def szI (ns : List ByteArray) : Option Nat → Nat
  | none => 0
  | some b => (nmI ns b).size
theorem undF_pos {s t : ByteArray} (h : undF s t = true) : 0 < t.size := by
  classical
  obtain ⟨a, b, _, _, _, rfl, _⟩ := of_decide_eq_true h
  rw [nm_size]
  omega
theorem nearI_same {ns : List ByteArray} {s : ByteArray} {i : Nat} (h : ¬ szI ns (bestN ns s i) < (nmI ns i).size) : bestN ns s (i + 1) = bestN ns s i := by
  cases hu : undF s (nmI ns i) with
  | false => exact bestN_skip hu
  | true =>
    cases hb : bestN ns s i with
    | none => rw [hb] at h; exact absurd (undF_pos hu) h
    | some b =>
      rw [hb] at h
      refine bestN_keep hb fun hm => h ?_
      exact (und_sizes (bestN_is hb).2.1 hu).1 hm
theorem nearI_take {ns : List ByteArray} {s : ByteArray} {i : Nat} (h : szI ns (bestN ns s i) < (nmI ns i).size) (hu : undF s (nmI ns i) = true) : bestN ns s (i + 1) = some i := by
  cases hb : bestN ns s i with
  | none => exact bestN_first hu hb
  | some b =>
    rw [hb] at h
    exact bestN_more hu hb ((und_sizes (bestN_is hb).2.1 hu).2 h)
theorem nmI_map {α : Type} (f : α → ByteArray) {l : List α} {i : Nat} (h : i < l.length) : nmI (l.map f) i = f l[i] := by
  rw [nmI_at (by simpa using h)]
  simp
set_option maxRecDepth 100000 in
theorem upName_in (W : World) (nm0 : ByteArray) (qs : Option Addr) (ls cs : Nat) (fw : Bool) : Calls Tryz.prog 43 #[.agg #[.string nm0, .slice qs ls cs, .bool fw]] W fun e w' => e = .returned (.string nm0) ∧ Below W.heap.size W w' := by
  have HB : Hid (∀ o : Obj, Below W.heap.size W (W.alloc o)) := fun o => (Below.refl _ _).alloc (Nat.le_refl _) _
  go_enter Tryz.func43, Tryz.ntmps43
  go_wp2
  go_ret
  exact ⟨rfl, HB.out _⟩
set_option maxRecDepth 100000 in
set_option maxHeartbeats 4000000 in
theorem upNear_in (W : World) (q : Option Addr) (cap : Nat) (l : List Up) (hat : UpsAt W q l) (hin : ∀ u ∈ l, u.nm.size ≤ maxLen) (hsh : ShC l.length cap q) (s : ByteArray) (hs : s.size ≤ maxLen) :
    Calls Tryz.prog 42 #[.string s, .slice q l.length cap, .func (.func 43) #[] #[]] W fun e w' => e = .returned (.int .i64 (plI (bestN (l.map Up.nm) s l.length))) ∧ Below W.heap.size W w' := by
  obtain ⟨N, hN⟩ : ∃ N, W.heap.size = N := ⟨_, rfl⟩
  have HNN := Hid.mk hN
  obtain ⟨ns, hns⟩ : ∃ ns, l.map Up.nm = ns := ⟨_, rfl⟩
  obtain ⟨n, hn⟩ : ∃ n, l.length = n := ⟨_, rfl⟩
  have HBL : Hid (∀ i, i < n → ∃ b off, q = some ⟨b, off, none⟩ ∧ ∃ (nm0 : ByteArray) (qs : Option Addr) (ls cs : Nat) (fw : Bool), Hid (nmI ns i = nm0 ∧ nm0.size ≤ maxLen) ∧ Hid (∀ w, Below N W w → w.cell? ⟨b, off + i * 3, none⟩ = some (.string nm0) ∧ w.cell? ⟨b, off + i * 3 + 1, none⟩ = some (.slice qs ls cs) ∧ w.cell? ⟨b, off + i * 3 + 2, none⟩ = some (.bool fw))) := by
    intro i hi
    have hi' : i < l.length := by omega
    have e0 : nmI ns i = l[i].nm := by rw [← hns]; exact nmI_map _ hi'
    obtain ⟨b, off, qs, cs, e, hlt, c0, c1, c2, hr, hsx⟩ := hat i hi'
    have key : ∀ w, Below N W w → ∀ j, w.cell? ⟨b, j, none⟩ = W.cell? ⟨b, j, none⟩ := fun w hb j => by rw [← hN] at hb; exact hb.cell (p := ⟨b, j, none⟩) hlt
    exact ⟨b, off, e, l[i].nm, qs, l[i].sv.length, cs, l[i].fw, ⟨e0, hin _ (List.getElem_mem hi')⟩, fun w hb => ⟨(key w hb _).trans c0, (key w hb _).trans c1, (key w hb _).trans c2⟩⟩
  have hnx : n ≤ maxLen := by
    have h1 := hsh.1
    have h2 := hsh.2.1
    omega
  obtain ⟨bf, hbf⟩ : ∃ bf, bestN ns s = bf := ⟨_, rfl⟩
  have HSame : Hid (∀ i, ¬ szI ns (bf i) < (nmI ns i).size → bf (i + 1) = bf i) := fun i h => by rw [← hbf] at h ⊢; exact nearI_same h
  have HSkip : Hid (∀ i, undF s (nmI ns i) = false → bf (i + 1) = bf i) := fun i h => by rw [← hbf]; exact bestN_skip h
  have HTake : Hid (∀ i, szI ns (bf i) < (nmI ns i).size → undF s (nmI ns i) = true → bf (i + 1) = some i) := fun i h hu => by rw [← hbf] at h ⊢; exact nearI_take h hu
  have HB0 : bf 0 = none := by rw [← hbf]; rfl
  rw [hns, hn, hbf, hN]
  clear hat hin hns hn hN hsh hbf
  go_enter Tryz.func42, Tryz.ntmps42
  go_wp2
  go_loopw [7, 8, 14] (fun bv lv iv wr => ∃ (i : Nat) (B : Int) (L : Nat) (u : World), u = wr ∧ i ≤ n ∧ iv = .int .i64 (i : Int) ∧ bv = .int .i64 B ∧ lv = .int .i64 (L : Int) ∧ Hid (B = plI (bf i) ∧ L = szI ns (bf i)) ∧ Hid (Below N W u)) (fun _ _ iv _ => n - (intOf iv).toNat)
  case atStart => exact ⟨0, -1, 0, _, rfl, Nat.zero_le _, rfl, rfl, rfl, by rw [HB0]; exact ⟨rfl, rfl⟩, Below.refl _ _⟩
  case round =>
    obtain ⟨i, B, L, u, rfl, hi, rfl, rfl, rfl, HO, HU⟩ := hrel
    have hNu : N ≤ u.heap.size := by rw [← HNN.out]; exact HU.out.size
    clear HB0
    by_cases hlt : i < n
    · have hlz : (i : Int) < (n : Int) := by omega
      have wi : IntKind.i64.wrap ((i : Int) + 1) = ((i + 1 : Nat) : Int) := by rw [IntKind.wrap_i64]; unfold maxLen at hnx; omega
      obtain ⟨b, off, rfl, nm0, qs, ls, cs, fw, HI, HX⟩ := HBL.out i hlt
      obtain ⟨d0, d1, d2⟩ := HX.out _ HU.out
      have hsz := HI.out.2
      have HNm := Hid.mk (fun w => upName_in w nm0 qs ls cs fw)
      have HUn := Hid.mk (nunder_in s nm0 hs hsz)
      obtain ⟨V1, hV1⟩ : ∃ V1, u.alloc (.cells #[.string nm0, .slice qs ls cs, .bool fw] 61) = V1 := ⟨_, rfl⟩
      have X0 : Bx u u.heap.size [.string nm0, .slice qs ls cs, .bool fw] 61 V1 := hV1 ▸ Bx.new u _ _
      have HV1 := Hid.mk hV1
      have HB1 : Hid (Below N W V1) := HU.out.trans (X0.bel.mono hNu)
      have hN1 : N ≤ V1.heap.size := Nat.le_trans hNu X0.bel.size
      obtain ⟨Bq, hBe⟩ : ∃ Bq, u.heap.size = Bq := ⟨_, rfl⟩
      have HBq := Hid.mk hBe
      have x0 := X0.cells3
      rw [hBe] at x0
      have HSm : Hid (¬ L < nm0.size → B = plI (bf (i + 1)) ∧ L = szI ns (bf (i + 1))) := fun h => by
        rw [HSame.out i (by rw [← HO.out.2, HI.out.1]; exact h)]
        exact HO.out
      have HSk : Hid (undF s nm0 = false → B = plI (bf (i + 1)) ∧ L = szI ns (bf (i + 1))) := fun h => by
        rw [HSkip.out i (by rw [HI.out.1]; exact h)]
        exact HO.out
      have HTk : Hid (L < nm0.size → undF s nm0 = true → (i : Int) = plI (bf (i + 1)) ∧ nm0.size = szI ns (bf (i + 1))) := fun h hu => by
        rw [HTake.out i (by rw [← HO.out.2, HI.out.1]; exact h) (by rw [HI.out.1]; exact hu)]
        exact ⟨rfl, by unfold szI; simp only; rw [HI.out.1]⟩
      clear hV1 hBe X0 hsz
      go_upto_region 5 with fail
      rw [HV1.out, HBq.out]
      go_wp2_with fail
      refine (HNm.out _).mono ?_
      rintro e w2 ⟨rfl, hb2⟩
      have HB2 : Hid (Below N W w2) := HB1.out.trans (hb2.mono hN1)
      have hN2 : N ≤ w2.heap.size := Nat.le_trans hN1 hb2.size
      clear hb2 x0 d0 d1 d2
      by_cases hg : L < nm0.size
      · have hgz : (L : Int) < (nm0.size : Int) := by omega
        cases hu : undF s nm0 with
        | false =>
          have HE := Hid.mk (HSk.out hu)
          rw [hu] at HUn
          clear hu
          go_wp2_with fail
          refine (HUn.out _).mono ?_
          rintro e w3 ⟨rfl, hb3⟩
          have HB3 : Hid (Below N W w3) := HB2.out.trans (hb3.mono hN2)
          clear hb3 hg
          go_wp2
          go_roundw
          case rel => exact ⟨i + 1, B, L, _, rfl, by omega, by first | rfl | go_num, rfl, rfl, HE, HB3⟩
          case measure => simp [intOf]; omega
        | true =>
          have HE := Hid.mk (HTk.out hg hu)
          rw [hu] at HUn
          clear hu
          go_wp2_with fail
          refine (HUn.out _).mono ?_
          rintro e w3 ⟨rfl, hb3⟩
          have HB3 : Hid (Below N W w3) := HB2.out.trans (hb3.mono hN2)
          clear hb3 hg
          go_wp2
          go_roundw
          case rel => exact ⟨i + 1, (i : Int), nm0.size, _, rfl, by omega, by first | rfl | go_num, rfl, rfl, HE, HB3⟩
          case measure => simp [intOf]; omega
      · have hgz : ¬ (L : Int) < (nm0.size : Int) := by omega
        have HE := Hid.mk (HSm.out hg)
        clear hg
        go_wp2
        go_roundw
        case rel => exact ⟨i + 1, B, L, _, rfl, by omega, by first | rfl | go_num, rfl, rfl, HE, HB2⟩
        case measure => simp [intOf]; omega
    · have hlz : ¬ (i : Int) < (n : Int) := by omega
      have he : B = plI (bf n) := by rw [HO.out.1, show i = n by omega]
      subst he
      go_wp2
      go_ret
      exact ⟨rfl, HU.out⟩
set_option maxRecDepth 100000 in
theorem anName_in (W : World) (nm0 : ByteArray) (tg al kd : Int) (dg : ByteArray) : Calls Tryz.prog 47 #[.agg #[.string nm0, .int .i64 tg, .int .i64 al, .int .i64 kd, .string dg]] W fun e w' => e = .returned (.string nm0) ∧ Below W.heap.size W w' := by
  have HB : Hid (∀ o : Obj, Below W.heap.size W (W.alloc o)) := fun o => (Below.refl _ _).alloc (Nat.le_refl _) _
  go_enter Tryz.func47, Tryz.ntmps47
  go_wp2
  go_ret
  exact ⟨rfl, HB.out _⟩
set_option maxRecDepth 100000 in
set_option maxHeartbeats 4000000 in
theorem anNear_in (W : World) (q : Option Addr) (cap : Nat) (l : List An) (hat : AnsAt W q l) (hin : ∀ u ∈ l, u.nm.size ≤ maxLen) (hsh : ShC l.length cap q) (s : ByteArray) (hs : s.size ≤ maxLen) :
    Calls Tryz.prog 46 #[.string s, .slice q l.length cap, .func (.func 47) #[] #[]] W fun e w' => e = .returned (.int .i64 (plI (bestN (l.map An.nm) s l.length))) ∧ Below W.heap.size W w' := by
  obtain ⟨N, hN⟩ : ∃ N, W.heap.size = N := ⟨_, rfl⟩
  have HNN := Hid.mk hN
  obtain ⟨ns, hns⟩ : ∃ ns, l.map An.nm = ns := ⟨_, rfl⟩
  obtain ⟨n, hn⟩ : ∃ n, l.length = n := ⟨_, rfl⟩
  have HBL : Hid (∀ i, i < n → ∃ b off, q = some ⟨b, off, none⟩ ∧ ∃ (nm0 : ByteArray) (tg al kd : Int) (dg : ByteArray), Hid (nmI ns i = nm0 ∧ nm0.size ≤ maxLen) ∧ Hid (∀ w, Below N W w → w.cell? ⟨b, off + i * 5, none⟩ = some (.string nm0) ∧ w.cell? ⟨b, off + i * 5 + 1, none⟩ = some (.int .i64 tg) ∧ w.cell? ⟨b, off + i * 5 + 2, none⟩ = some (.int .i64 al) ∧ w.cell? ⟨b, off + i * 5 + 3, none⟩ = some (.int .i64 kd) ∧ w.cell? ⟨b, off + i * 5 + 4, none⟩ = some (.string dg))) := by
    intro i hi
    have hi' : i < l.length := by omega
    have e0 : nmI ns i = l[i].nm := by rw [← hns]; exact nmI_map _ hi'
    obtain ⟨b, off, e, hlt, c0, c1, c2, c3, c4⟩ := hat i hi'
    have key : ∀ w, Below N W w → ∀ j, w.cell? ⟨b, j, none⟩ = W.cell? ⟨b, j, none⟩ := fun w hb j => by rw [← hN] at hb; exact hb.cell (p := ⟨b, j, none⟩) hlt
    exact ⟨b, off, e, l[i].nm, l[i].tg, l[i].al, l[i].kd, l[i].dg, ⟨e0, hin _ (List.getElem_mem hi')⟩, fun w hb => ⟨(key w hb _).trans c0, (key w hb _).trans c1, (key w hb _).trans c2, (key w hb _).trans c3, (key w hb _).trans c4⟩⟩
  have hnx : n ≤ maxLen := by
    have h1 := hsh.1
    have h2 := hsh.2.1
    omega
  obtain ⟨bf, hbf⟩ : ∃ bf, bestN ns s = bf := ⟨_, rfl⟩
  have HSame : Hid (∀ i, ¬ szI ns (bf i) < (nmI ns i).size → bf (i + 1) = bf i) := fun i h => by rw [← hbf] at h ⊢; exact nearI_same h
  have HSkip : Hid (∀ i, undF s (nmI ns i) = false → bf (i + 1) = bf i) := fun i h => by rw [← hbf]; exact bestN_skip h
  have HTake : Hid (∀ i, szI ns (bf i) < (nmI ns i).size → undF s (nmI ns i) = true → bf (i + 1) = some i) := fun i h hu => by rw [← hbf] at h ⊢; exact nearI_take h hu
  have HB0 : bf 0 = none := by rw [← hbf]; rfl
  rw [hns, hn, hbf, hN]
  clear hat hin hns hn hN hsh hbf
  go_enter Tryz.func46, Tryz.ntmps46
  go_wp2
  go_loopw [7, 8, 14] (fun bv lv iv wr => ∃ (i : Nat) (B : Int) (L : Nat) (u : World), u = wr ∧ i ≤ n ∧ iv = .int .i64 (i : Int) ∧ bv = .int .i64 B ∧ lv = .int .i64 (L : Int) ∧ Hid (B = plI (bf i) ∧ L = szI ns (bf i)) ∧ Hid (Below N W u)) (fun _ _ iv _ => n - (intOf iv).toNat)
  case atStart => exact ⟨0, -1, 0, _, rfl, Nat.zero_le _, rfl, rfl, rfl, by rw [HB0]; exact ⟨rfl, rfl⟩, Below.refl _ _⟩
  case round =>
    obtain ⟨i, B, L, u, rfl, hi, rfl, rfl, rfl, HO, HU⟩ := hrel
    have hNu : N ≤ u.heap.size := by rw [← HNN.out]; exact HU.out.size
    clear HB0
    by_cases hlt : i < n
    · have hlz : (i : Int) < (n : Int) := by omega
      have wi : IntKind.i64.wrap ((i : Int) + 1) = ((i + 1 : Nat) : Int) := by rw [IntKind.wrap_i64]; unfold maxLen at hnx; omega
      obtain ⟨b, off, rfl, nm0, tg, al, kd, dg, HI, HX⟩ := HBL.out i hlt
      obtain ⟨d0, d1, d2, d3, d4⟩ := HX.out _ HU.out
      have hsz := HI.out.2
      have HNm := Hid.mk (fun w => anName_in w nm0 tg al kd dg)
      have HUn := Hid.mk (nunder_in s nm0 hs hsz)
      obtain ⟨V1, hV1⟩ : ∃ V1, u.alloc (.cells #[.string nm0, .int .i64 tg, .int .i64 al, .int .i64 kd, .string dg] 71) = V1 := ⟨_, rfl⟩
      have X0 : Bx u u.heap.size [.string nm0, .int .i64 tg, .int .i64 al, .int .i64 kd, .string dg] 71 V1 := hV1 ▸ Bx.new u _ _
      have HV1 := Hid.mk hV1
      have HB1 : Hid (Below N W V1) := HU.out.trans (X0.bel.mono hNu)
      have hN1 : N ≤ V1.heap.size := Nat.le_trans hNu X0.bel.size
      obtain ⟨Bq, hBe⟩ : ∃ Bq, u.heap.size = Bq := ⟨_, rfl⟩
      have HBq := Hid.mk hBe
      have x0 := X0.cells5
      rw [hBe] at x0
      have HSm : Hid (¬ L < nm0.size → B = plI (bf (i + 1)) ∧ L = szI ns (bf (i + 1))) := fun h => by
        rw [HSame.out i (by rw [← HO.out.2, HI.out.1]; exact h)]
        exact HO.out
      have HSk : Hid (undF s nm0 = false → B = plI (bf (i + 1)) ∧ L = szI ns (bf (i + 1))) := fun h => by
        rw [HSkip.out i (by rw [HI.out.1]; exact h)]
        exact HO.out
      have HTk : Hid (L < nm0.size → undF s nm0 = true → (i : Int) = plI (bf (i + 1)) ∧ nm0.size = szI ns (bf (i + 1))) := fun h hu => by
        rw [HTake.out i (by rw [← HO.out.2, HI.out.1]; exact h) (by rw [HI.out.1]; exact hu)]
        exact ⟨rfl, by unfold szI; simp only; rw [HI.out.1]⟩
      clear hV1 hBe X0 hsz
      go_upto_region 5 with fail
      rw [HV1.out, HBq.out]
      go_wp2_with fail
      refine (HNm.out _).mono ?_
      rintro e w2 ⟨rfl, hb2⟩
      have HB2 : Hid (Below N W w2) := HB1.out.trans (hb2.mono hN1)
      have hN2 : N ≤ w2.heap.size := Nat.le_trans hN1 hb2.size
      clear hb2 x0 d0 d1 d2 d3 d4
      by_cases hg : L < nm0.size
      · have hgz : (L : Int) < (nm0.size : Int) := by omega
        cases hu : undF s nm0 with
        | false =>
          have HE := Hid.mk (HSk.out hu)
          rw [hu] at HUn
          clear hu
          go_wp2_with fail
          refine (HUn.out _).mono ?_
          rintro e w3 ⟨rfl, hb3⟩
          have HB3 : Hid (Below N W w3) := HB2.out.trans (hb3.mono hN2)
          clear hb3 hg
          go_wp2
          go_roundw
          case rel => exact ⟨i + 1, B, L, _, rfl, by omega, by first | rfl | go_num, rfl, rfl, HE, HB3⟩
          case measure => simp [intOf]; omega
        | true =>
          have HE := Hid.mk (HTk.out hg hu)
          rw [hu] at HUn
          clear hu
          go_wp2_with fail
          refine (HUn.out _).mono ?_
          rintro e w3 ⟨rfl, hb3⟩
          have HB3 : Hid (Below N W w3) := HB2.out.trans (hb3.mono hN2)
          clear hb3 hg
          go_wp2
          go_roundw
          case rel => exact ⟨i + 1, (i : Int), nm0.size, _, rfl, by omega, by first | rfl | go_num, rfl, rfl, HE, HB3⟩
          case measure => simp [intOf]; omega
      · have hgz : ¬ (L : Int) < (nm0.size : Int) := by omega
        have HE := Hid.mk (HSm.out hg)
        clear hg
        go_wp2
        go_roundw
        case rel => exact ⟨i + 1, B, L, _, rfl, by omega, by first | rfl | go_num, rfl, rfl, HE, HB2⟩
        case measure => simp [intOf]; omega
    · have hlz : ¬ (i : Int) < (n : Int) := by omega
      have he : B = plI (bf n) := by rw [HO.out.1, show i = n by omega]
      subst he
      go_wp2
      go_ret
      exact ⟨rfl, HU.out⟩
end Go.Proofs.YtdlcldjlfhmlgaaGreatDoor
/- strings.Clone of long texts. -/
namespace Go.Proofs.YtdlcldjlfhmlgaaGreatDoor
open Go.RowKit
set_option maxRecDepth 100000 in
theorem liteCloneL_in (s : ByteArray) (w : World) (hs : s.size ≤ 140737488351232) :
    Calls Tryz.prog 80 #[.string s] w fun e w' => e = .returned (.string s) ∧ Below w.heap.size w w' := by
  by_cases h0 : s.size = 0
  · have hs : s = ⟨#[]⟩ := by
      apply ByteArray.ext
      exact Array.eq_empty_of_size_eq_zero h0
    subst hs
    go_enter Tryz.func80, Tryz.ntmps80
    go_wp2
    go_ret
    exact ⟨rfl, Below.refl _ _⟩
  · obtain ⟨i0, hi, hz0, hz1, hz2⟩ := info_parts info5
    have hinfo : (Tryz.prog.info? 5).map (·.size) = some 1 := by rw [hi]; simp [hz1]
    obtain ⟨M, hM⟩ : ∃ M, M = madeCells (Value.int .u8 0).cells (((s.size : Nat) : Int).toNat * i0.size) := ⟨_, rfl⟩
    have hMs : M.size = s.size := by rw [hM, size_madeCells, hz1]; simp
    have hmk : ∀ W : World, (Instr.makeSlice 143 (.int .i64 (s.size : Int)) (.int .i64 (s.size : Int))).run Tryz.prog W = .ok (.slice (some ⟨W.heap.size, 0, none⟩) s.size s.size) (W.alloc (.cells M 5)) := fun W => by
      have h := run_make (P := Tryz.prog) W 143 5 i0 (.int .u8 0) Tryz.underlying143 hi hz0 .i64 .i64 (s.size : Int) (s.size : Int) (by omega) (by omega) (by rw [hz2]; omega) (by omega)
      rw [← hM] at h
      simpa using h
    clear hM
    have hcp := Lib.run_copy_row_string (P := Tryz.prog) (w.alloc (.cells M 5)) 143 9 3 5 w.heap.size 0 s.size s.size s M 5 Tryz.underlying143 hinfo (heap_alloc_new w _) (Nat.le_refl _) (by omega)
    obtain ⟨Y, hY⟩ : ∃ Y, Y = (M.toList.take 0 ++ Lib.byteCells s.data.toList ++ M.toList.drop (0 + s.size)).toArray := ⟨_, rfl⟩
    rw [← hY] at hcp
    have hYl : Y.toList = Lib.byteCells s.data.toList := by
      rw [hY, List.toList_toArray, List.take_zero, List.nil_append, List.drop_of_length_le (by rw [Array.length_toList]; omega), List.append_nil]
    have hYs : Y.size = s.size := by rw [← Array.length_toList, hYl, Lib.byteCells_length, ← Lib.size_eq]
    have hgY : ((w.alloc (.cells M 5)).setRow w.heap.size Y).heap[w.heap.size]? = some (.cells Y 5 (0, 0)) := setRow_heap _ _ M _ 5 (0, 0) (heap_alloc_new w _)
    have hne : s.data.toList ≠ [] := fun e => h0 (by rw [Lib.size_eq, e]; rfl)
    have hUS := Lib.run_unsafeString_row (P := Tryz.prog) ((w.alloc (.cells M 5)).setRow w.heap.size Y) 162 3 9 5 Tryz.underlying162 cells5 w.heap.size Y.size (by unfold World.shape?; rw [hgY]) s.data.toList hne (by rw [← Lib.size_eq]; omega) (by rw [← Lib.size_eq]; omega)
      (fun j x hx => Lib.cells_of_row hgY Y.size j _ (by rw [List.take_of_length_le (by rw [Array.length_toList]; exact Nat.le_refl _), hYl]; simp [Lib.byteCells, hx]))
    rw [← Lib.size_eq] at hUS
    clear hY
    go_enter Tryz.func80, Tryz.ntmps80
    go_wp2
    go_ret
    have hb1 : Below w.heap.size w (w.alloc (.cells M 5)) := (Below.refl _ w).alloc (Nat.le_refl _) _
    have hb2 : Below w.heap.size (w.alloc (.cells M 5)) ((w.alloc (.cells M 5)).setRow w.heap.size Y) := ⟨rfl, rfl, rfl, by simp, fun k hk => setRow_other _ _ _ _ (by omega)⟩
    exact ⟨rfl, Lib.below_freeze (hb1.trans hb2) (p := ⟨w.heap.size, 0, none⟩) (Nat.le_refl _) _⟩
theorem cloneL_in (s : ByteArray) (w : World) (hs : s.size ≤ 140737488351232) :
    Calls Tryz.prog 44 #[.string s] w fun e w' => e = .returned (.string s) ∧ Below w.heap.size w w' := by
  go_enter Tryz.func44, Tryz.ntmps44
  go_wp2_with (go_at_call 80; refine (liteCloneL_in _ _ hs).mono ?_; rintro e w' ⟨rfl, hb⟩)
  go_ret
  exact ⟨rfl, hb⟩
end Go.Proofs.YtdlcldjlfhmlgaaGreatDoor
/- Layer 15: slices.Clone of addresses; Upstream. -/
namespace Go.Proofs.YtdlcldjlfhmlgaaGreatDoor
open Go.RowKit
def adL (a : A.Ad) : List Value := [.bool a.v6, .int .u64 (a.hi : Int), .int .u64 (a.lo : Int)]
def adsC (l : List A.Ad) : List Value := l.flatMap adL
theorem adsC_len (l : List A.Ad) : (adsC l).length = l.length * 3 := by
  induction l with
  | nil => rfl
  | cons r rs ih =>
    unfold adsC at ih ⊢
    rw [List.flatMap_cons, List.length_append, ih, List.length_cons]
    show 3 + _ = _
    omega
theorem adsC_at : ∀ (l : List A.Ad) (j : Nat) (hj : j < l.length) (i : Nat), i < 3 → (adsC l)[j * 3 + i]? = (adL l[j])[i]?
  | r :: rs, 0, _, i, hi => by
    unfold adsC
    rw [List.flatMap_cons, Nat.zero_mul, Nat.zero_add, List.getElem?_append_left (show i < 3 from hi)]
    rfl
  | r :: rs, j + 1, hj, i, hi => by
    have ih := adsC_at rs j (by simpa using hj) i hi
    unfold adsC at ih ⊢
    rw [List.flatMap_cons, List.getElem?_append_right (show 3 ≤ _ by show 3 ≤ (j + 1) * 3 + i; omega), show (j + 1) * 3 + i - (adL r).length = j * 3 + i by show _ - 3 = _; omega, ih]
    rfl
theorem adsC_one (l : List A.Ad) : ∀ u ∈ adsC l, u.oneCell' = true := by
  intro u hu
  unfold adsC at hu
  rw [List.mem_flatMap] at hu
  obtain ⟨r, _, hr⟩ := hu
  simp [adL] at hr
  rcases hr with rfl | rfl | rfl <;> rfl
theorem ads_back {w : World} {b off : Nat} {l : List A.Ad} (h : A.AdsAt w (some ⟨b, off, none⟩) l) (k : Nat) (x : Value) (hx : (adsC l)[k]? = some x) : w.cell? ⟨b, off + k, none⟩ = some x := by
  have hl : k < (adsC l).length := (List.getElem?_eq_some_iff.1 hx).1
  rw [adsC_len] at hl
  have hj : k / 3 < l.length := by omega
  have hi : k % 3 < 3 := Nat.mod_lt _ (by decide)
  have hk : k / 3 * 3 + k % 3 = k := by omega
  have e := adsC_at l (k / 3) hj (k % 3) hi
  rw [hk, hx] at e
  obtain ⟨b', off', e', _, c0, c1, c2⟩ := h (k / 3) hj
  cases e'
  rw [← hk, ← Nat.add_assoc]
  generalize k % 3 = i at hi e
  match i, hi, e with
  | 0, _, e => cases e; exact c0
  | 1, _, e => cases e; exact c1
  | 2, _, e => cases e; exact c2
theorem infoAd : (Tryz.prog.info? 66).map (fun i => (i.zero, i.size, i.bytes)) = some (some (.agg #[.bool false, .int .u64 0, .int .u64 0]), 3, 24) := by kernel_rfl
def bAppA (a : Array Value) : Sem Value := Builtin.append_ #[46, 46] 46 a
theorem app_a (a : Array Value) : Builtin.append_ #[46, 46] 46 a = bAppA a := rfl
theorem eqNilA_yes (w : World) : (Go.binOp .eql 46 (.slice none 0 0) (.slice none 0 0)).run Tryz.prog w = .ok (.bool true) w := by kernel_rfl
theorem eqNilA_no (a : Addr) (n cap : Nat) (w : World) : (Go.binOp .eql 46 (.slice (some a) n cap) (.slice none 0 0)).run Tryz.prog w = .ok (.bool false) w := by kernel_rfl
section
attribute [local go_sem ↓] app_a
set_option maxRecDepth 100000 in
set_option maxHeartbeats 1000000 in
theorem aclone_in (w : World) (q : Option Addr) (cap : Nat) (l : List A.Ad) (hat : A.AdsAt w q l) (hsh : ShC l.length cap q) (hl : l.length * 24 ≤ 140737488351232) :
    Calls Tryz.prog 45 #[.slice q l.length cap] w fun e w' => ∃ v', e = .returned v' ∧ w'.ownsRow w.heap.size 66 3 v' l.length (adsC l) ∧ Below w.heap.size w w' := by
  cases q with
  | none =>
    obtain ⟨h1, _, h3⟩ := hsh
    have hc := h3 rfl
    subst hc
    obtain rfl : l = [] := List.eq_nil_of_length_eq_zero (by omega)
    have hq := eqNilA_yes w
    go_enter Tryz.func45, Tryz.ntmps45
    go_wp2
    go_ret
    exact ⟨_, rfl, World.ownsRow_nil .., Below.refl _ _⟩
  | some a =>
    obtain ⟨i0, hi0, hz0, hz1, hz2⟩ := info_parts' infoAd
    have hb : Below w.heap.size w (w.alloc (.cells #[] 66 (0, 0))) := (Below.refl _ _).alloc (Nat.le_refl _) _
    have hrow : (w.alloc (.cells #[] 66 (0, 0))).ownsRow w.heap.size 66 3 (.slice (some ⟨w.heap.size, 0, none⟩) 0 0) 0 [] :=
      ⟨rfl, .inr ⟨w.heap.size, 0, #[], rfl, Nat.le_refl _, heap_alloc_new _ _, Nat.le_refl _, by decide, rfl, rfl⟩⟩
    obtain ⟨v', w', r1, hr1, g1, _, _⟩ := run_append_own_at (P := Tryz.prog) _ w.heap.size 46 46 66 i0 _ 3 24 Tryz.underlying46 hi0 hz0 hz1 hz2 rfl (by decide) _ 0 [] hrow a l.length cap (adsC l) (adsC_len l) (fun j u hu => by
      have hlt : j < (adsC l).length := (List.getElem?_eq_some_iff.1 hu).1
      rw [adsC_len] at hlt
      obtain ⟨b, off, e, hbl, _⟩ := hat 0 (by omega)
      cases e
      have h := ads_back hat j u hu
      rw [So.add_of]
      exact (hb.cell (p := ⟨b, off + j, none⟩) hbl).trans h) (adsC_one l) (by unfold maxLen; omega) (by omega) (by simp)
    have HR : Hid (w'.ownsRow w.heap.size 66 3 v' l.length (adsC l) ∧ Below w.heap.size w w') := by
      refine ⟨by simpa using hr1, hb.grown g1 (by simp) (fun k e => ?_)⟩
      cases e
      exact Nat.le_refl _
    have r2 : (bAppA #[.slice (some ⟨w.heap.size, 0, none⟩) 0 0, .slice (some a) l.length cap]).run Tryz.prog (w.alloc (.cells #[] 66 (0, 0))) = .ok v' w' := r1
    have hq := eqNilA_no a l.length cap w
    obtain ⟨n, hn⟩ : ∃ n, l.length = n := ⟨_, rfl⟩
    rw [hn] at r2 hq HR ⊢
    clear hb hrow hr1 g1 r1 hat hsh hl hn
    go_enter Tryz.func45, Tryz.ntmps45
    go_wp2
    go_ret
    exact ⟨_, rfl, HR.out⟩
end
theorem sizeUp : (Tryz.prog.info? 61).map (·.size) = some 3 := by kernel_rfl
theorem results_up {fn : Func} {p j : Tmp} (h : fn.results = #[.cell p 61, .tmp j]) {tmps : Array Value} {W : World} {b : Nat} {x y z : Value} {t : Value} (hp : tmps.getD p undef = .pointer (some ⟨b, 0, none⟩)) (ht : tmps.getD j undef = t) (hb : W.heap[b]? = some (.cells #[x, y, z] 61 (0, 0))) : (results fn tmps).run Tryz.prog W = .ok (.tuple #[.agg #[x, y, z], t]) W := by
  have ht' : tmps[j]?.getD undef = t := by simpa using ht
  have hp' : tmps[p]?.getD undef = .pointer (some ⟨b, 0, none⟩) := by simpa using hp
  have hl : (loadVar 61 ⟨b, 0, none⟩).run Tryz.prog W = .ok (.agg #[x, y, z]) W := run_loadVar_row W b _ _ _ (0, 0) _ hb Tryz.underlying61 rfl sizeUp
  simp only [results, h]
  simp [hp', ht', asAddr, hl]
theorem frozenU {w : World} {b : Nat} {c : Array Value} {t : TypeId} (h : w.heap[b]? = some (.cells c t (0, 0))) (i : Nat) : w.frozen? ⟨b, i, none⟩ = false := by
  unfold World.frozen?
  rw [show (⟨b, i, none⟩ : Addr).block = b from rfl, h]
  simp
theorem up_three {w : World} {b : Nat} {x0 x1 x2 : Value} (h : w.heap[b]? = some (.cells #[x0, x1, x2] 61 (0, 0))) (x y z : Value) : (((w.setCell ⟨b, 0, none⟩ x).setCell ⟨b, 1, none⟩ y).setCell ⟨b, 2, none⟩ z).heap[b]? = some (.cells #[x, y, z] 61 (0, 0)) :=
  hset (hset (hset h 0 x) 1 y) 2 z
theorem up_bel {N b : Nat} {w w' : World} (h : Below N w w') (hb : N ≤ b) (x y z : Value) : Below N w (((w'.setCell ⟨b, 0, none⟩ x).setCell ⟨b, 1, none⟩ y).setCell ⟨b, 2, none⟩ z) :=
  ((h.setCell (p := ⟨b, 0, none⟩) hb x).setCell (p := ⟨b, 1, none⟩) hb y).setCell (p := ⟨b, 2, none⟩) hb z
theorem up_other {w : World} {b b' : Nat} (h : b' ≠ b) (x y z : Value) : (((w.setCell ⟨b, 0, none⟩ x).setCell ⟨b, 1, none⟩ y).setCell ⟨b, 2, none⟩ z).heap[b']? = w.heap[b']? := by
  rw [Below.heap_setCell _ _ _ _ (fun e => h e), Below.heap_setCell _ _ _ _ (fun e => h e), Below.heap_setCell _ _ _ _ (fun e => h e)]
def UpP (W : World) (c : Cf) (n : ByteArray) (e : Ending) (w' : World) : Prop :=
  ((bestN (c.up.map Up.nm) n c.up.length = none ∧ e = .returned (.tuple #[.agg #[.string ⟨#[]⟩, .slice none 0 0, .bool false], .bool false])) ∨
   ∃ b, ∃ hb : b < c.up.length, bestN (c.up.map Up.nm) n c.up.length = some b ∧ ∃ v', e = .returned (.tuple #[.agg #[.string c.up[b].nm, v', .bool c.up[b].fw], .bool true]) ∧ w'.ownsRow W.heap.size 66 3 v' c.up[b].sv.length (adsC c.up[b].sv)) ∧ Below W.heap.size W w'
set_option maxRecDepth 100000 in
set_option maxHeartbeats 8000000 in
theorem upstream_in (W : World) (k : Cq) (c : Cf) (hat : CfAt W k c) (hin : CfIn c) (s : ByteArray) (hs : s.size ≤ maxLen) : Calls Tryz.prog 21 #[cfV k c, .string s] W fun e w' => UpP W c s e w' := by
  have HNr : Hid (∀ w, Below W.heap.size W w → Calls Tryz.prog 42 #[.string s, .slice k.q3 c.up.length k.c3, .func (.func 43) #[] #[]] w fun e w' => e = .returned (.int .i64 (plI (bestN (c.up.map Up.nm) s c.up.length))) ∧ Below w.heap.size w w') := fun w hb => upNear_in w k.q3 k.c3 c.up (hat.blk hb).up (fun u hu => (hin.up u hu).1) hat.s3 s hs
  obtain ⟨N, hN⟩ : ∃ N, W.heap.size = N := ⟨_, rfl⟩
  have HNN := Hid.mk hN
  have HFin : Hid (∀ e w', UpP W c s e w' → UpP W c s e w') := fun _ _ h => h
  have HNone : Hid (∀ w', bestN (c.up.map Up.nm) s c.up.length = none → Below N W w' → UpP W c s (.returned (.tuple #[.agg #[.string ⟨#[]⟩, .slice none 0 0, .bool false], .bool false])) w') := fun w' h hb => ⟨.inl ⟨h, rfl⟩, by rw [hN]; exact hb⟩
  have HSome : Hid (∀ w' b (hb : b < c.up.length) v', bestN (c.up.map Up.nm) s c.up.length = some b → w'.ownsRow N 66 3 v' c.up[b].sv.length (adsC c.up[b].sv) → Below N W w' → UpP W c s (.returned (.tuple #[.agg #[.string c.up[b].nm, v', .bool c.up[b].fw], .bool true])) w') := fun w' b hb v' h hr hbel => ⟨.inr ⟨b, hb, h, v', rfl, by rw [hN]; exact hr⟩, by rw [hN]; exact hbel⟩
  have HBL : Hid (∀ i (hi : i < c.up.length), ∃ b off, k.q3 = some ⟨b, off, none⟩ ∧ ∃ (qs : Option Addr) (cs : Nat), Hid (UpIn c.up[i] ∧ ShC c.up[i].sv.length cs qs) ∧ Hid (∀ w, Below N W w → A.AdsAt w qs c.up[i].sv) ∧ Hid (∀ w, Below N W w → w.cell? ⟨b, off + i * 3, none⟩ = some (.string c.up[i].nm) ∧ w.cell? ⟨b, off + i * 3 + 1, none⟩ = some (.slice qs c.up[i].sv.length cs) ∧ w.cell? ⟨b, off + i * 3 + 2, none⟩ = some (.bool c.up[i].fw))) := by
    intro i hi
    obtain ⟨b, off, qs, cs, e, hlt, c0, c1, c2, hr, hsx⟩ := hat.up i hi
    have key : ∀ w, Below N W w → ∀ j, w.cell? ⟨b, j, none⟩ = W.cell? ⟨b, j, none⟩ := fun w hb j => by rw [← hN] at hb; exact hb.cell (p := ⟨b, j, none⟩) hlt
    exact ⟨b, off, e, qs, cs, ⟨hin.up _ (List.getElem_mem hi), hsx⟩, fun w hb => by rw [← hN] at hb; exact hr.blk hb, fun w hb => ⟨(key w hb _).trans c0, (key w hb _).trans c1, (key w hb _).trans c2⟩⟩
  obtain ⟨q0, c0, q1, c1, q2, c2, q3, c3, q4, c4⟩ := k
  have hsh := hat.s3
  simp only at hsh
  have hnx : c.up.length ≤ 9223372036854775807 := by
    have h1 := hsh.1
    have h2 := hsh.2.1
    unfold maxLen at h2
    omega
  simp only [cfV, cfC] at HNr HBL ⊢
  obtain ⟨U, hU⟩ : ∃ U, (W.alloc (.cells #[.slice q0 c.rt.length c0, .slice q1 c.ru.length c1, .slice q2 c.lc.length c2, .slice q3 c.up.length c3, .slice q4 c.an.length c4, .int .i64 c.n0, .int .i64 c.n1, .int .i64 c.n2, .int .i64 c.n3] 51)).alloc (.cells #[.string ⟨#[]⟩, .slice none 0 0, .bool false] 61) = U := ⟨_, rfl⟩
  have hX : Bx2 W W.heap.size [.slice q0 c.rt.length c0, .slice q1 c.ru.length c1, .slice q2 c.lc.length c2, .slice q3 c.up.length c3, .slice q4 c.an.length c4, .int .i64 c.n0, .int .i64 c.n1, .int .i64 c.n2, .int .i64 c.n3] 51 (W.heap.size + 1) [.string ⟨#[]⟩, .slice none 0 0, .bool false] 61 U := hU ▸ Bx2.new W _ _ _ _
  have HU := Hid.mk hU
  rw [hN] at HNr hX
  obtain ⟨Q, hQ⟩ : ∃ Q, N + 1 = Q := ⟨_, rfl⟩
  have hNQ : N ≤ Q := by omega
  have HQ := Hid.mk hQ
  rw [hQ] at hX
  have x3 := hX.x.cell 3 _ rfl
  have HX := Hid.mk hX
  have hUb : Below N W U := by rw [← hN]; exact hX.x.bel
  have HUb := Hid.mk hUb
  have HN1 := Hid.mk (HNr.out U hUb)
  obtain ⟨o, ho⟩ : ∃ o, bestN (c.up.map Up.nm) s c.up.length = o := ⟨_, rfl⟩
  rw [ho] at HNone HSome HN1
  have HO := Hid.mk ho
  obtain ⟨n, hn⟩ : ∃ n, c.up.length = n := ⟨_, rfl⟩
  have HNL := Hid.mk hn
  rw [hn] at HN1 HU hnx ⊢
  rw [hn] at x3
  have HXc : Hid (∀ w, Below U.heap.size U w → w.cell? ⟨N, 3, none⟩ = some (.slice q3 n c3) ∧ w.heap[Q]? = some (.cells #[.string ⟨#[]⟩, .slice none 0 0, .bool false] 61 (0, 0)) ∧ Below N W w) := fun w hb => ⟨by rw [← hn]; exact (hX.blk hb).x.cell 3 _ rfl, (hX.blk hb).y.hb, by have := (hX.blk hb).x.bel; rw [hN] at this; exact this⟩
  clear hat hin hsh hU hX hN HNr ho hn hQ
  go_enter Tryz.func21, Tryz.ntmps21
  go_upto_region 1 with fail
  rw [HNN.out, HQ.out, HU.out]
  go_wp2_with fail
  refine HN1.out.mono ?_
  rintro e w1 ⟨rfl, hb1⟩
  obtain ⟨y3, hq1, hbel1⟩ := HXc.out _ hb1
  have HQ1 := Hid.mk hq1
  have HB1 := Hid.mk hbel1
  have hN1 : N ≤ w1.heap.size := by rw [← HNN.out]; exact hbel1.size
  have hQlt : Q < w1.heap.size := (Array.getElem?_eq_some_iff.1 hq1).1
  cases o with
  | none =>
    have f0 := frozenU hq1 0
    have f1 := frozenU hq1 1
    have f2 := frozenU hq1 2
    have g0 : w1.cell? ⟨Q, 0, none⟩ = some (.string ⟨#[]⟩) := by rw [So.cell_blk hq1]; rfl
    have g1 : w1.cell? ⟨Q, 1, none⟩ = some (.slice none 0 0) := by rw [So.cell_blk hq1]; rfl
    have g2 : w1.cell? ⟨Q, 2, none⟩ = some (.bool false) := by rw [So.cell_blk hq1]; rfl
    have e1 : plI none = -1 := rfl
    rw [e1]
    clear hb1 hq1 hbel1 x3
    go_wp2
    refine bodyPost_ret (results_up Tryz.results21 rfl rfl (up_three HQ1.out _ _ _)) rfl (HNone.out _ (by first | rfl | trivial) (up_bel HB1.out hNQ _ _ _))
  | some b =>
    have hbn : b < c.up.length := bestN_lt HO.out
    have e1 : plI (some b) = (b : Int) := rfl
    rw [e1]
    have hbz : ¬ (b : Int) < 0 := by omega
    have hbnz : (b : Int) < (n : Int) := by have := HNL.out; omega
    have hb0 : (0 : Int) ≤ (b : Int) := by omega
    have HSm := Hid.mk (fun w' v' => HSome.out w' b hbn v' rfl)
    obtain ⟨bb, off, rfl, qs, cs, HI, HSv, HC⟩ := HBL.out b hbn
    obtain ⟨d0, d1, d2⟩ := HC.out _ hbel1
    have hnm : c.up[b].nm.size ≤ 140737488351232 := by
      have hu := (bestN_is HO.out).2.1
      rw [nmI_map _ hbn] at hu
      classical
      obtain ⟨x, y, _, hy, _, e, _⟩ := of_decide_eq_true hu
      have := name_size (s := c.up[b].nm) ⟨y, hy, e⟩
      omega
    have hsl := HI.out.1.2.2
    have hssh := HI.out.2
    obtain ⟨⟨nm0, sv, fw⟩, hup⟩ : ∃ u, c.up[b] = u := ⟨_, rfl⟩
    rw [hup] at HSm HSv d0 d1 d2 hnm hsl hssh
    simp only at HSm HSv d0 d1 d2 hnm hsl hssh
    have HCl := Hid.mk (fun w => cloneL_in nm0 w hnm)
    have HAc : Hid (∀ w, Below N W w → Calls Tryz.prog 45 #[.slice qs sv.length cs] w fun e w' => ∃ v', e = .returned v' ∧ w'.ownsRow w.heap.size 66 3 v' sv.length (adsC sv) ∧ Below w.heap.size w w') := fun w hb => aclone_in w qs cs sv (HSv.out w hb) hssh hsl
    obtain ⟨V1, hV1⟩ : ∃ V1, w1.alloc (.cells #[.string nm0, .slice qs sv.length cs, .bool fw] 61) = V1 := ⟨_, rfl⟩
    have X0 : Bx w1 w1.heap.size [.string nm0, .slice qs sv.length cs, .bool fw] 61 V1 := hV1 ▸ Bx.new w1 _ _
    have HV1 := Hid.mk hV1
    obtain ⟨Y, hY⟩ : ∃ Y, w1.heap.size = Y := ⟨_, rfl⟩
    have HY := Hid.mk hY
    rw [hY] at X0
    have hQY : Q ≠ Y := by omega
    have hNY : N ≤ Y := by omega
    have HK1 : Hid (Below N W V1 ∧ V1.heap[Q]? = some (.cells #[.string ⟨#[]⟩, .slice none 0 0, .bool false] 61 (0, 0)) ∧ N ≤ V1.heap.size) := ⟨hbel1.trans (X0.bel.mono hN1), (X0.bel.block Q hQlt).trans hq1, Nat.le_trans hN1 X0.bel.size⟩
    have HS0 : Hid (∀ w, Below V1.heap.size V1 w → w.cell? ⟨Y, 0, none⟩ = some (.string nm0) ∧ w.cell? ⟨Y, 1, none⟩ = some (.slice qs sv.length cs) ∧ w.cell? ⟨Y, 2, none⟩ = some (.bool fw)) := fun w hb => (X0.blk hb).cells3
    clear hV1 hY X0 hup hnm hsl hssh hb1 hq1 hbel1 HBL HSome HNone
    go_upto_region 5 with fail
    rw [HV1.out, HY.out]
    clear d0 d1 d2
    refine wp_region_held_drew (S := fun w => w.cell? ⟨Y, 0, none⟩ = some (.string nm0) ∧ w.cell? ⟨Y, 1, none⟩ = some (.slice qs sv.length cs) ∧ w.cell? ⟨Y, 2, none⟩ = some (.bool fw)) (by kernel_rfl) (HS0.out _ (Below.refl _ _).drew) (fun hHeld => ?_)
    refine wU (i := 0) (v := ?va_0) rfl ?ya_0 (by assumption) ?_
    case ya_0 => (intro w hSw; (try dsimp only at hSw); go_simp; try with_reducible rfl)
    refine wU (i := 1) (v := ?va_1) rfl ?ya_1 (by assumption) ?_
    case ya_1 => (intro w hSw; (try dsimp only at hSw); go_simp; try with_reducible rfl)
    refine wU (i := 3) (v := ?va_3) rfl ?ya_3 (by assumption) ?_
    case ya_3 => (intro w hSw; (try dsimp only at hSw); go_simp; try with_reducible rfl)
    refine wU (i := 4) (v := ?va_4) rfl ?ya_4 (by assumption) ?_
    case ya_4 => (intro w hSw; (try dsimp only at hSw); go_simp; try with_reducible rfl)
    refine wU (i := 6) (v := ?va_6) rfl ?ya_6 (by assumption) ?_
    case ya_6 => (intro w hSw; (try dsimp only at hSw); go_simp; try with_reducible rfl)
    refine wU (i := 7) (v := ?va_7) rfl ?ya_7 (by assumption) ?_
    case ya_7 => (intro w hSw; (try dsimp only at hSw); go_simp; try with_reducible rfl)
    try simp only [Act.put, List.getElem_toArray, List.getElem_cons_succ, List.getElem_cons_zero, List.setIfInBounds_toArray, List.set_cons_zero, List.set_cons_succ]
    refine wpAnyH_ready (rs := [2]) (by kernel_rfl) (by simp) ?_
    refine AllReadyH.cons rfl (fun K hK => ?_) AllReadyH.nil
    go_simp
    go_at_call 44
    refine (HCl.out _).mono ?_
    rintro e w2 ⟨rfl, hb2'⟩
    have hb2 : Below V1.heap.size V1 w2 := (Below.refl _ V1).drew.trans hb2'
    refine hK.out _ _ (HS0.out _ hb2) (fun hHeld => ?_)
    clear hK K
    try simp only [Act.put, List.getElem_toArray, List.getElem_cons_succ, List.getElem_cons_zero, List.setIfInBounds_toArray, List.set_cons_zero, List.set_cons_succ]
    refine wpAnyH_ready (rs := [5]) (by kernel_rfl) (by simp) ?_
    refine AllReadyH.cons rfl (fun K hK => ?_) AllReadyH.nil
    go_simp
    go_at_call 45
    have hbel2 : Below N W w2 := HK1.out.1.trans (hb2.mono HK1.out.2.2)
    have hN2 : N ≤ w2.heap.size := Nat.le_trans HK1.out.2.2 hb2.size
    refine (HAc.out _ hbel2).mono ?_
    rintro e w3 ⟨v', rfl, hown, hb3'⟩
    have hb3 : Below V1.heap.size V1 w3 := hb2.trans (hb3'.mono hb2.size)
    obtain ⟨q5, c5, rfl⟩ : ∃ q5 c5, v' = .slice q5 sv.length c5 := by
      rcases hown.2 with ⟨rfl, h0⟩ | ⟨g, cap, cur, rfl, _⟩
      · exact ⟨none, 0, by rw [h0]⟩
      · exact ⟨_, _, rfl⟩
    have HO3 : Hid (w3.ownsRow N 66 3 (.slice q5 sv.length c5) sv.length (adsC sv)) := by
      obtain ⟨hl, h0 | ⟨g, cap, cur, hv, hg0, r⟩⟩ := hown
      · exact ⟨hl, .inl h0⟩
      · exact ⟨hl, .inr ⟨g, cap, cur, hv, Nat.le_trans hN2 hg0, r⟩⟩
    have hq3 : w3.heap[Q]? = some (.cells #[.string ⟨#[]⟩, .slice none 0 0, .bool false] 61 (0, 0)) := (hb3.block Q (Array.getElem?_eq_some_iff.1 HK1.out.2.1).1).trans HK1.out.2.1
    have HQ3 := Hid.mk hq3
    have HB3 : Hid (Below N W w3) := HK1.out.1.trans (hb3.mono HK1.out.2.2)
    have HS3 := Hid.mk (HS0.out _ hb3)
    refine hK.out _ _ HS3.out (fun hHeld => ?_)
    clear hK K
    have f0 := frozenU hq3 0
    have f1 := frozenU hq3 1
    have f2 := frozenU hq3 2
    have g0 : w3.cell? ⟨Q, 0, none⟩ = some (.string ⟨#[]⟩) := by rw [So.cell_blk hq3]; rfl
    have g1 : w3.cell? ⟨Q, 1, none⟩ = some (.slice none 0 0) := by rw [So.cell_blk hq3]; rfl
    have g2 : w3.cell? ⟨Q, 2, none⟩ = some (.bool false) := by rw [So.cell_blk hq3]; rfl
    clear hown hb3' hb3 hb2 hb2' hbel2 hN2 hq3
    try simp only [Act.put, List.getElem_toArray, List.getElem_cons_succ, List.getElem_cons_zero, List.setIfInBounds_toArray, List.set_cons_zero, List.set_cons_succ]
    refine wU (i := 8) (v := ?vb_8) rfl ?yb_8 (by assumption) ?_
    case yb_8 => (intro w hSw; (try dsimp only at hSw); go_simp; try with_reducible rfl)
    try simp only [Act.put, List.getElem_toArray, List.getElem_cons_succ, List.getElem_cons_zero, List.setIfInBounds_toArray, List.set_cons_zero, List.set_cons_succ]
    refine wpAnyH_ready (rs := [9]) (by kernel_rfl) (by simp) ?_
    refine AllReadyH.cons rfl (fun K hK => ?_) AllReadyH.nil
    go_simp
    have HE : Hid (Below N W (((w3.setCell ⟨Q, 0, none⟩ (.string nm0)).setCell ⟨Q, 1, none⟩ (.slice q5 sv.length c5)).setCell ⟨Q, 2, none⟩ (.bool fw)) ∧ (((w3.setCell ⟨Q, 0, none⟩ (.string nm0)).setCell ⟨Q, 1, none⟩ (.slice q5 sv.length c5)).setCell ⟨Q, 2, none⟩ (.bool fw)).ownsRow N 66 3 (.slice q5 sv.length c5) sv.length (adsC sv)) := by
      refine ⟨up_bel HB3.out hNQ _ _ _, own_same HO3.out fun b' c' f' _ hc => up_other (fun e => ?_) _ _ _⟩
      subst e
      rw [HQ3.out] at hc
      cases hc
    refine hK.out _ _ ?_ (fun hHeld => ?_)
    · obtain ⟨h0, h1, h2⟩ := HS3.out
      have key : ∀ i, (((w3.setCell ⟨Q, 0, none⟩ (.string nm0)).setCell ⟨Q, 1, none⟩ (.slice q5 sv.length c5)).setCell ⟨Q, 2, none⟩ (.bool fw)).cell? ⟨Y, i, none⟩ = w3.cell? ⟨Y, i, none⟩ := fun i => by
        unfold World.cell?
        simp only [up_other (fun e => hQY e.symm)]
      exact ⟨(key 0).trans h0, (key 1).trans h1, (key 2).trans h2⟩
    clear hK K
    try simp only [Act.put, List.getElem_toArray, List.getElem_cons_succ, List.getElem_cons_zero, List.setIfInBounds_toArray, List.set_cons_zero, List.set_cons_succ]
    refine wU (i := 10) (v := ?vc_10) rfl ?yc_10 (by assumption) ?_
    case yc_10 => (intro w hSw; (try dsimp only at hSw); go_simp; try with_reducible rfl)
    try simp only [Act.put, List.getElem_toArray, List.getElem_cons_succ, List.getElem_cons_zero, List.setIfInBounds_toArray, List.set_cons_zero, List.set_cons_succ]
    refine wpAnyH_done (by kernel_rfl) ?_ _
    clear hHeld
    go_wp2
    refine bodyPost_ret (results_up Tryz.results21 rfl rfl (up_three HQ3.out _ _ _)) rfl (HSm.out _ _ HE.out.2 HE.out.1)
end Go.Proofs.YtdlcldjlfhmlgaaGreatDoor
/- Layer 15: what Anchor tells: Ds in a row of their own; Anchor. -/
namespace Go.Proofs.YtdlcldjlfhmlgaaGreatDoor
open Go.RowKit
def dsL (a : An) : List Value := [.int .i64 a.tg, .int .i64 a.al, .int .i64 a.kd, .string a.dg]
def dsC (l : List An) : List Value := l.flatMap dsL
theorem dsC_snoc (l : List An) (a : An) : dsC (l ++ [a]) = dsC l ++ dsL a := by unfold dsC; rw [List.flatMap_append]; simp
theorem infoDs : (Tryz.prog.info? 68).map (fun i => (i.zero, i.size, i.bytes)) = some (some (.agg #[.int .i64 0, .int .i64 0, .int .i64 0, .string ⟨#[]⟩]), 4, 40) := by kernel_rfl
def bAppDs (a : Array Value) : Sem Value := Builtin.append_ #[57, 57] 57 a
theorem app_ds (a : Array Value) : Builtin.append_ #[57, 57] 57 a = bAppDs a := rfl
set_option maxRecDepth 100000 in
theorem ds_app {M : Nat} {w : World} {v : Value} {l : List An} (h : w.ownsRow M 68 4 v l.length (dsC l)) (hM : M ≤ w.heap.size) (hl : l.length * 40 + 40 ≤ 140737488355328) (a : An) :
    ∃ v' w', (bAppDs #[v, .slice (some ⟨w.heap.size, 0, none⟩) 1 1]).run Tryz.prog (w.alloc (.cells #[.int .i64 a.tg, .int .i64 a.al, .int .i64 a.kd, .string a.dg] 68)) = .ok v' w' ∧ w'.ownsRow M 68 4 v' (l ++ [a]).length (dsC (l ++ [a])) ∧ Below M w w' := by
  obtain ⟨i0, hi0, hz0, hz1, hz2⟩ := info_parts' infoDs
  have bU : Below w.heap.size w (w.alloc (.cells #[.int .i64 a.tg, .int .i64 a.al, .int .i64 a.kd, .string a.dg] 68)) := (Below.refl _ _).alloc (Nat.le_refl _) _
  have hnew := heap_alloc_new w (.cells #[.int .i64 a.tg, .int .i64 a.al, .int .i64 a.kd, .string a.dg] 68)
  obtain ⟨v', w', hrun, hown, hgr, _, _⟩ := run_append_own_at (P := Tryz.prog) (w.alloc (.cells #[.int .i64 a.tg, .int .i64 a.al, .int .i64 a.kd, .string a.dg] 68)) M 57 57 68 i0 _ 4 40 Tryz.underlying57 hi0 hz0 hz1 hz2 rfl (by decide) v l.length (dsC l) (own_blk h bU) ⟨w.heap.size, 0, none⟩ 1 1 (dsL a) rfl (fun j u hu => by
    rw [So.add_of, Nat.zero_add, So.cell_blk hnew, ← hu]
    simp [dsL]) (fun u hu => by
    simp [dsL] at hu
    rcases hu with rfl | rfl | rfl | rfl <;> rfl) (by unfold maxLen; omega) (by omega) (by rw [World.size_alloc]; omega)
  refine ⟨v', w', hrun, ?_, (bU.mono hM).trans ((Below.refl _ _).grown hgr (by rw [World.size_alloc]; omega) fun b hb' => (own_lt (own_blk h bU) hb').2.1)⟩
  rw [dsC_snoc, List.length_append]
  exact hown
noncomputable def selA (l : List An) (o : ByteArray) : List An := l.filter fun a => eqF a.nm o
theorem selA_len (l : List An) (o : ByteArray) : (selA l o).length ≤ l.length := List.length_filter_le _ _
theorem selA_snoc (l : List An) (o : ByteArray) {i : Nat} (hi : i < l.length) : selA (l.take (i + 1)) o = if eqF l[i].nm o then selA (l.take i) o ++ [l[i]] else selA (l.take i) o := by
  unfold selA
  rw [List.take_succ_eq_append_getElem hi, List.filter_append]
  cases h : eqF l[i].nm o with
  | true => simp [h]
  | false => simp [h]
theorem eqF_und15 {s a b : ByteArray} (h : eqF a b = true) (hb : undF s b = true) : undF s a = true ∧ manyF a = manyF b := by
  classical
  obtain ⟨x, y, hx, hy, rfl, rfl, e⟩ := of_decide_eq_true h
  obtain ⟨z, y', hz, hy', rfl, e2, hu⟩ := of_decide_eq_true hb
  obtain rfl := nm_inj hy hy' e2
  have he : lowN x = lowN y := by unfold eqB at e; exact of_decide_eq_true e
  refine ⟨?_, ?_⟩
  · rw [undF_nm hz hx, undB_iff, he, ← undB_iff]; exact hu
  · rw [manyF_nm hx, manyF_nm hy, ← lowN_length x, he, lowN_length]
theorem selA_drop {l : List An} {s : ByteArray} {b : Nat} (h : bestN (l.map An.nm) s l.length = some b) (hb : b < l.length) : selA (l.take b) l[b].nm = [] := by
  unfold selA
  rw [List.filter_eq_nil_iff]
  intro a ha he
  obtain ⟨j, hj, rfl⟩ := List.getElem_of_mem ha
  rw [List.length_take] at hj
  rw [List.getElem_take] at he
  obtain ⟨_, h2, _, h4⟩ := bestN_is h
  rw [nmI_map _ hb] at h2
  obtain ⟨h5, h6⟩ := eqF_und15 he h2
  have := h4 j (by omega) (by rw [nmI_map _ (by omega)]; exact h5)
  rw [nmI_map _ hb, nmI_map _ (by omega)] at this
  omega
def AncP (W : World) (c : Cf) (n : ByteArray) (e : Ending) (w' : World) : Prop :=
  ((bestN (c.an.map An.nm) n c.an.length = none ∧ e = .returned (.tuple #[.string ⟨#[]⟩, .slice none 0 0, .bool false])) ∨
   ∃ b, ∃ hb : b < c.an.length, bestN (c.an.map An.nm) n c.an.length = some b ∧ ∃ v', e = .returned (.tuple #[.string c.an[b].nm, v', .bool true]) ∧ w'.ownsRow W.heap.size 68 4 v' (selA c.an c.an[b].nm).length (dsC (selA c.an c.an[b].nm))) ∧ Below W.heap.size W w'
end Go.Proofs.YtdlcldjlfhmlgaaGreatDoor
/- Layer 15: ConfigNear: facts of lists (a name more, which the text is not under). -/
namespace Go.Proofs.YtdlcldjlfhmlgaaGreatDoor
theorem bestN_ext {ns ms : List ByteArray} {s : ByteArray} : ∀ {i : Nat}, (∀ j, j < i → nmI ns j = nmI ms j) → bestN ns s i = bestN ms s i
  | 0, _ => rfl
  | i + 1, h => by
    have ih : bestN ns s i = bestN ms s i := bestN_ext fun j hj => h j (by omega)
    have e := h i (by omega)
    cases hu : undF s (nmI ns i) with
    | false => rw [bestN_skip hu, bestN_skip (by rw [← e]; exact hu), ih]
    | true =>
      have hu' : undF s (nmI ms i) = true := by rw [← e]; exact hu
      cases hb : bestN ns s i with
      | none => rw [bestN_first hu hb, bestN_first hu' (ih ▸ hb)]
      | some b =>
        have hbl := bestN_lt hb
        have eb := h b (by omega)
        have hb' : bestN ms s i = some b := ih ▸ hb
        by_cases hm : manyF (nmI ns b) < manyF (nmI ns i)
        · rw [bestN_more hu hb hm, bestN_more hu' hb' (by rw [← eb, ← e]; exact hm)]
        · rw [bestN_keep hb hm, bestN_keep hb' (by rw [← eb, ← e]; exact hm)]
theorem nmI_app {ns : List ByteArray} {x : ByteArray} {j : Nat} (h : j < ns.length) : nmI (ns ++ [x]) j = nmI ns j := by
  unfold nmI
  rw [List.getElem?_append_left h]
theorem nmI_new {ns : List ByteArray} {x : ByteArray} : nmI (ns ++ [x]) ns.length = x := by
  unfold nmI
  rw [List.getElem?_append_right (Nat.le_refl _), Nat.sub_self]; rfl
theorem bestN_app {ns : List ByteArray} {s x : ByteArray} (h : undF s x = false) : bestN (ns ++ [x]) s (ns.length + 1) = bestN ns s ns.length := by
  rw [bestN_skip (by rw [nmI_new]; exact h)]
  exact bestN_ext fun j hj => nmI_app hj
theorem bestU_app {l : List Up} {s : ByteArray} {x : Up} (h : undF s x.nm = false) : bestN ((l ++ [x]).map Up.nm) s (l ++ [x]).length = bestN (l.map Up.nm) s l.length := by
  rw [List.map_append, List.length_append, List.map_cons, List.map_nil]
  have := bestN_app (ns := l.map Up.nm) h
  rw [List.length_map] at this
  exact this
theorem bestA_app {l : List An} {s : ByteArray} {x : An} (h : undF s x.nm = false) : bestN ((l ++ [x]).map An.nm) s (l ++ [x]).length = bestN (l.map An.nm) s l.length := by
  rw [List.map_append, List.length_append, List.map_cons, List.map_nil]
  have := bestN_app (ns := l.map An.nm) h
  rw [List.length_map] at this
  exact this
theorem bestU_und {l : List Up} {s : ByteArray} {b : Nat} (h : bestN (l.map Up.nm) s l.length = some b) (hb : b < l.length) : undF s l[b].nm = true := by
  have := (bestN_is h).2.1
  rw [nmI_map Up.nm hb] at this
  exact this
theorem bestA_und {l : List An} {s : ByteArray} {b : Nat} (h : bestN (l.map An.nm) s l.length = some b) (hb : b < l.length) : undF s l[b].nm = true := by
  have := (bestN_is h).2.1
  rw [nmI_map An.nm hb] at this
  exact this
theorem selA_app {l : List An} {s o : ByteArray} {x : An} (h : undF s x.nm = false) (ho : undF s o = true) : selA (l ++ [x]) o = selA l o := by
  unfold selA
  rw [List.filter_append, List.filter_cons_of_neg, List.filter_nil, List.append_nil]
  intro he
  have := (eqF_und15 he ho).1
  rw [h] at this
  cases this
theorem eqF_self {o s : ByteArray} (h : undF s o = true) : eqF o o = true := by
  classical
  obtain ⟨x, y, hx, hy, _, rfl, e⟩ := of_decide_eq_true h
  rw [eqF_nm hy hy]
  unfold eqB
  exact decide_eq_true rfl
theorem selA_pos {l : List An} {s : ByteArray} {b : Nat} (hb : b < l.length) (h : undF s l[b].nm = true) : 0 < (selA l l[b].nm).length := by
  apply List.length_pos_of_mem (a := l[b])
  unfold selA
  rw [List.mem_filter]
  exact ⟨List.getElem_mem hb, eqF_self h⟩
end Go.Proofs.YtdlcldjlfhmlgaaGreatDoor
