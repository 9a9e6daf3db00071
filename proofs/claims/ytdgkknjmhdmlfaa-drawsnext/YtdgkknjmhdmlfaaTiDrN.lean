/- Layer 12: DrawsNext. -/
import Derived.Deep.RegionHeld3
import Derived.Test.YtdgkknjmhdmlfaaTiRefD
import Derived.Test.YtdgkknjmhdmlfaaTiArg
namespace Go.Proofs.Ytdgkknjmhdmlfaa
set_option linter.unusedVariables false
set_option linter.unusedSimpArgs false
open Go.RowKit

/-- both that draw, side by side. -/
structure DSt (W w : World) (B X : Nat) (us : List Int) : Prop where
  d : DrT 81 w B [B, X] us
  x : DrT 58 w X [B, X] us
  bel : Below W.heap.size W w
  nB : W.heap.size ≤ B
  nX : W.heap.size ≤ X
  ne : X ≠ B
  sz : W.heap.size ≤ w.heap.size
theorem DSt.drew {W w : World} {B X : Nat} {us : List Int} (h : DSt W w B X us) : DSt W w.drew B X us :=
  ⟨h.d.below (Below.refl _ _).drew, h.x.below (Below.refl _ _).drew, h.bel.drew, h.nB, h.nX, h.ne, h.sz⟩
theorem DrT.len {t : TypeId} {w : World} {B : Nat} {av : List Nat} {us : List Int} (h : DrT t w B av us) : ∃ q cap, w.cell? ⟨B, 0, none⟩ = some (.slice q us.length cap) := by
  obtain ⟨v, hB, hN, _⟩ := h
  obtain ⟨q, cap, rfl, _⟩ := hN.at'
  exact ⟨q, cap, cell_of_heap hB rfl⟩
theorem dleftT {w : World} {B : Nat} {av : List Nat} {us : List Int} (h : DrT 81 w B av us) : Calls Try.prog 27 #[pt B] w fun e w' => e = .returned (.int .i64 (us.length : Int)) ∧ w' = w := by
  obtain ⟨v, hB, hN, _⟩ := h
  exact dleft_in hB hN

/-- the document's answer beside the program's, number by number. -/
def DPost (W : World) (e : Ending) (w' : World) : Prop := e = .returned (.bool true) ∧ Below W.heap.size W w'

section
attribute [local go_sem ↓] app_u
set_option maxRecDepth 100000 in
set_option maxHeartbeats 8000000 in
theorem drawsNext_walk (a : Option Addr) (cap : Nat) (us : List Int) (w1 : us.length * 8 ≤ 140737488355328) (a2 : Option Addr) (cap2 : Nat) (ns : List Int) (hr : ∀ z ∈ ns, -9223372036854775808 ≤ z ∧ z ≤ 9223372036854775807) (hcp : ns.length ≤ cap2 ∧ cap2 ≤ maxLen ∧ (a2 = none → cap2 = 0)) (W : World) (hg : Nums W (.slice a us.length cap) us) (hg2 : GivenI W a2 ns) :
    Calls Try.prog 5 #[.slice a us.length cap, .slice a2 ns.length cap2] W (DPost W) := by
  obtain ⟨m, hm⟩ : ∃ m, ns.length = m := ⟨_, rfl⟩
  have hml : m ≤ 9223372036854775807 := by rw [← hm]; have := hcp.2.1; unfold maxLen at this; omega
  obtain ⟨n0, hn0⟩ : ∃ n, us.length = n := ⟨_, rfl⟩
  have hn0' : n0 * 8 ≤ 140737488355328 := by rw [← hn0]; exact w1
  have HN0 := Hid.mk hn0
  rw [hm]
  rw [hn0] at hg ⊢
  have HM := Hid.mk (And.intro hm (And.intro hg2 hr))
  have HG := Hid.mk hg
  clear hm hg hg2 hr hcp hn0
  go_enter Try.func5, Try.ntmps5
  go_wp2_with fail
  refine (examples_in W).mono ?_
  rintro e u0 ⟨rfl, z0⟩
  obtain ⟨vo, u1, r1, row1, gr1⟩ := uapp (base := u0.heap.size) (World.ownsRow_nil (w := u0) ..) (HG.out.below (z0.mono (Nat.le_refl _))) (by omega) (by omega) (Nat.le_refl _)
  rw [Nat.zero_add, List.nil_append] at row1
  have b1 : Below u0.heap.size u0 u1 := (Below.refl _ _).grown gr1 (Nat.le_refl _) (fun k e => by cases e)
  have nd1 := Nums.of_row row1 HG.out.rng
  have H1 : Hid (Below W.heap.size W u1 ∧ u0.heap.size ≤ u1.heap.size ∧ W.heap.size ≤ u0.heap.size ∧ u1.ownsRow u0.heap.size 59 1 vo us.length (uc us)) := ⟨z0.trans (b1.mono z0.size), b1.size, z0.size, row1⟩
  have HND := Hid.mk (newdraws_in nd1 w1)
  have hvq : ∃ q c g, vo = .slice q us.length c ∧ ((q = none ∧ us.length = 0) ∨ (q = some ⟨g, 0, none⟩ ∧ us.length ≤ c ∧ u0.heap.size ≤ g ∧ g < u1.heap.size ∧ ∃ cur, u1.heap[g]? = some (.cells cur 59 (0, 0)) ∧ cur.size = c)) := by
    rcases row1.2 with ⟨hv, h0⟩ | ⟨g, c, cur, hv, hb, hgg, hc, _, hs, _⟩
    · exact ⟨none, 0, 0, by rw [hv, h0], .inl ⟨rfl, h0⟩⟩
    · exact ⟨_, c, g, hv, .inr ⟨rfl, hc, hb, blk_lt hgg, cur, hgg, by omega⟩⟩
  obtain ⟨qo, co, g0, rfl, hq⟩ := hvq
  rw [HN0.out] at r1 HND hq
  have HQ := Hid.mk hq
  clear b1 nd1 row1 gr1 z0 w1 hq
  go_wp2_with fail
  refine HND.out.mono ?_
  rintro e u2 ⟨v2, B, rfl, hB0, hB, row2, b2⟩
  obtain ⟨X, hX⟩ : ∃ X, u2.heap.size = X := ⟨_, rfl⟩
  obtain ⟨V, hV⟩ : ∃ V, u2.alloc (.cells #[.slice a n0 cap] 58) = V := ⟨_, rfl⟩
  have bV : Below u2.heap.size u2 V := by rw [← hV]; exact (Below.refl _ _).alloc (Nat.le_refl _) _
  have hXV : V.heap[X]? = some (.cells #[.slice a n0 cap] 58 (0, 0)) := by rw [← hX, ← hV]; exact heap_alloc_last _ _
  have hBV : V.heap[B]? = some (.cells #[v2] 81 (0, 0)) := (bV.block B (blk_lt hB)).trans hB
  have hBX : X ≠ B := by have := blk_lt hB; omega
  have row2V := row_below row2 bV
  have b12 : Below u1.heap.size u1 V := b2.trans (bV.mono b2.size)
  have HV : Hid (V.heap[X]? = some (.cells #[.slice a n0 cap] 58 (0, 0)) ∧ V.heap[B]? = some (.cells #[v2] 81 (0, 0)) ∧ X ≠ B ∧ V.ownsRow u1.heap.size 59 1 v2 n0 (uc us) ∧ Below u1.heap.size u1 V ∧ u1.heap.size ≤ B ∧ u1.heap.size ≤ X ∧ u1.heap.size ≤ V.heap.size) := ⟨hXV, hBV, hBX, row2V, b12, hB0, by rw [← hX]; exact b2.size, b12.size⟩
  have HE := Hid.mk (And.intro hX hV)
  clear bV hXV hBV hBX row2V b12 hB0 hB row2 b2 hX hV
  go_upto_region 7 with fail
  rw [HE.out.2, HE.out.1]
  go_wp2
  -- own is written over: it lies in a block of its own
  go_loopw [9] (fun iv wr => ∃ k : Nat, k ≤ n0 ∧ iv = .int .i64 (k : Int) ∧ wr.os = V.os ∧ wr.tape = V.tape ∧ wr.output = V.output ∧ wr.heap.size = V.heap.size ∧ (∀ b, some b ≠ qo.map Addr.block → wr.heap[b]? = V.heap[b]?) ∧ (qo = some ⟨g0, 0, none⟩ → ∃ cur, wr.heap[g0]? = some (.cells cur 59 (0, 0)) ∧ cur.size = co)) (fun iv _ => n0 - (intOf iv).toNat)
  case atStart =>
    refine ⟨0, Nat.zero_le _, rfl, rfl, rfl, rfl, rfl, fun _ _ => rfl, fun hq => ?_⟩
    rcases HQ.out with ⟨h, _⟩ | ⟨_, _, _, hlt, cur, hc, hs⟩
    · rw [h] at hq; cases hq
    · exact ⟨cur, (HV.out.2.2.2.2.1.block g0 hlt).trans hc, hs⟩
  case round =>
    obtain ⟨k, hk, rfl, e1, e2, e3, e4, hsame, hcur⟩ := hrel
    by_cases hlt : k < n0
    · have hz : (k : Int) < (n0 : Int) := by omega
      rcases HQ.out with ⟨_, h0⟩ | ⟨hq, hco, hg0, hg1, _⟩
      · omega
      · obtain ⟨cur, hc, hs⟩ := hcur hq
        subst hq
        obtain ⟨ck, c0⟩ : ∃ ck, wr.cell? ⟨g0, k, none⟩ = some ck := ⟨cur[k]'(by omega), cell_of_heap hc (Array.getElem?_eq_getElem (by omega))⟩
        have f0 := frozen_of hc k
        have HR : Hid ((∀ b, some b ≠ some g0 → (wr.setCell ⟨g0, k, none⟩ (.int .u64 99)).heap[b]? = V.heap[b]?) ∧ (∃ cur, (wr.setCell ⟨g0, k, none⟩ (.int .u64 99)).heap[g0]? = some (.cells cur 59 (0, 0)) ∧ cur.size = co) ∧ (wr.setCell ⟨g0, k, none⟩ (.int .u64 99)).heap.size = V.heap.size ∧ wr.os = V.os ∧ wr.tape = V.tape ∧ wr.output = V.output) :=
          ⟨fun b hb => (Below.heap_setCell _ _ _ _ (fun e => hb (by rw [e]))).trans (hsame b hb), ⟨_, heap_set_same hc _ _, by simpa using hs⟩, by simpa [World.setCell] using e4, e1, e2, e3⟩
        clear hsame hcur hc hs e1 e2 e3 e4
        go_wp2
        go_roundw
        case rel => exact ⟨k + 1, by omega, by go_num, HR.out.2.2.2.1, HR.out.2.2.2.2.1, HR.out.2.2.2.2.2, HR.out.2.2.1, HR.out.1, fun _ => HR.out.2.1⟩
        case measure => simp [intOf]; omega
    · have hz : ¬ (k : Int) < (n0 : Int) := by omega
      have hgn : ∀ b, u1.heap.size ≤ b → some b ≠ qo.map Addr.block := fun b hb e => by
        rcases HQ.out with ⟨h, _⟩ | ⟨h, _, _, hlt, _⟩
        · rw [h] at e; cases e
        · rw [h] at e; simp at e; omega
      have hgo : ∀ b, b < u0.heap.size → some b ≠ qo.map Addr.block := fun b hb e => by
        rcases HQ.out with ⟨h, _⟩ | ⟨h, _, hge, _⟩
        · rw [h] at e; cases e
        · rw [h] at e; simp at e; omega
      obtain ⟨hXV, hBV, hXB, hrw, hbel, hnB, hnX, hsz⟩ := HV.out
      have hWu := H1.out.2.2.1
      have hu01 := H1.out.2.1
      have hS0 : DSt W wr B X us := by
        have hbW : Below W.heap.size W wr := ⟨e1.trans (hbel.os.trans H1.out.1.os), e2.trans (hbel.tape.trans H1.out.1.tape), e3.trans (hbel.output.trans H1.out.1.output), by rw [e4]; exact Nat.le_trans H1.out.1.size hsz, fun b hb => ((hsame b (hgo b (by omega))).trans (hbel.block b (by omega))).trans (H1.out.1.block b hb)⟩
        refine ⟨⟨v2, (hsame B (hgn B hnB)).trans hBV, Nums.of_row (base := u1.heap.size) ?_ HG.out.rng, ?_, by simp⟩, ⟨.slice a n0 cap, (hsame X (hgn X hnX)).trans hXV, HG.out.below hbW, ?_, by simp⟩, hbW, by omega, by omega, hXB, by rw [e4]; omega⟩
        · rw [HN0.out]
          obtain ⟨hl, h0 | ⟨g, c, cur, hv, hb, hgg, r⟩⟩ := hrw
          · exact ⟨hl, .inl h0⟩
          · exact ⟨hl, .inr ⟨g, c, cur, hv, hb, (hsame g (hgn g hb)).trans hgg, r⟩⟩
        · intro b hb _ ad nn c hv
          have hnb : ∀ x t, V.heap[b]? = some (.cells x t (0, 0)) → t ≠ 59 → ad.block ≠ b := fun x t hx ht e => by
            rcases hrw.2 with ⟨h, _⟩ | ⟨g, c', cur, h, _, hgg, _⟩
            · rw [h] at hv; cases hv
            · rw [h] at hv; cases hv; simp only at e; subst e; rw [hx] at hgg; cases hgg; exact ht rfl
          rcases (by simpa using hb : b = B ∨ b = X) with rfl | rfl
          · exact hnb _ _ hBV (by decide)
          · exact hnb _ _ hXV (by decide)
        · intro b hb hne ad nn c hv e
          obtain ⟨q, cp, hq, _, _, _, h4⟩ := HG.out.at'
          obtain ⟨g, off, hq2, hgl, _⟩ := h4 0 (List.length_pos_iff.2 hne)
          cases hv
          cases hq
          cases hq2
          simp only at e
          rcases (by simpa using hb : b = B ∨ b = X) with rfl | rfl <;> omega
      have HS0 := Hid.mk hS0
      clear hS0 hXV hBV hXB hrw hbel hnB hnX hsz hgn hgo hsame hcur e1 e2 e3 e4 hWu hu01
      go_wp2
      go_loopw [10] (fun iv wr => ∃ k : Nat, k ≤ m ∧ k ≤ 300 ∧ iv = .int .i64 (k : Int) ∧ ∃ us, DSt W wr B X us) (fun iv _ => m - (intOf iv).toNat)
      case atStart => exact ⟨0, Nat.zero_le _, Nat.zero_le _, rfl, us, HS0.out⟩
      case round =>
        clear HS0
        obtain ⟨k, hk, hk300, rfl, us, hD⟩ := hrel
        by_cases hlt : k < m ∧ k < 300
        · obtain ⟨g1, g2⟩ := hlt
          have z1 : (k : Int) < (m : Int) := by omega
          have z2 : (k : Int) < 300 := by omega
          have hkl : k < ns.length := by rw [HM.out.1]; exact g1
          obtain ⟨b, off, rfl, hbW, c0⟩ := HM.out.2.1 k hkl
          have hnr := HM.out.2.2 _ (List.getElem_mem hkl)
          obtain ⟨n, hn⟩ : ∃ n, ns[k] = n := ⟨_, rfl⟩
          rw [hn] at c0 hnr
          have cN : wr.cell? ⟨b, off + k, none⟩ = some (.int .i64 n) := (hD.bel.cell (p := ⟨b, off + k, none⟩) hbW).trans c0
          have HbB : Hid (b ≠ B) := by have := hD.nB; unfold Hid; omega
          have HbX : Hid (b ≠ X) := by have := hD.nX; unfold Hid; omega
          have HNB : Hid (n ≤ 9223372036854775807) := hnr.2
          have HL := Hid.mk (dleftT hD.drew.d)
          have HD := Hid.mk (dnext_in hD.drew.d n hnr.2)
          have HDX := Hid.mk hD.drew.x
          have HXB : Hid (X ≠ B) := hD.ne
          have HB := Hid.mk hD.drew.bel
          have HWB := Hid.mk hD.nB
          have HWX := Hid.mk hD.nX
          have HWs := Hid.mk hD.drew.sz
          obtain ⟨qx, cx, cX⟩ := hD.x.len
          obtain ⟨lu, hlu⟩ : ∃ l, us.length = l := ⟨_, rfl⟩
          rw [hlu] at HL cX
          have hll : ((lu : Int) != (lu : Int)) = false := by simp
          clear hD c0 hn hnr hlu
          go_wp2
          refine wp_region_held_drew (S := fun u => u.cell? ⟨b, off + k, none⟩ = some (.int .i64 n)) (by kernel_rfl) cN (fun hHeld => ?_)
          refine wpAnyH_take (i := 0) (v := ?vh31) rfl (by kernel_rfl) (by kernel_rfl) (by kernel_rfl) (fun _ _ _ h => h) (Or.inl ⟨by kernel_rfl, ?yh31⟩) (by assumption) ?_
          case yh31 => (intro w hSw; (try dsimp only at hSw); go_simp; try with_reducible rfl)
          refine wpAnyH_take (i := 2) (v := ?vh32) rfl (by kernel_rfl) (by kernel_rfl) (by kernel_rfl) (fun _ _ _ h => h) (Or.inl ⟨by kernel_rfl, ?yh32⟩) (by assumption) ?_
          case yh32 => (intro w hSw; (try dsimp only at hSw); go_simp; try with_reducible rfl)
          refine wpAnyH_take (i := 3) (v := ?vh33) rfl (by kernel_rfl) (by kernel_rfl) (by kernel_rfl) (fun _ _ _ h => h) (Or.inl ⟨by kernel_rfl, ?yh33⟩) (by assumption) ?_
          case yh33 => (intro w hSw; (try dsimp only at hSw); go_simp; try with_reducible rfl)
          refine wpAnyH_take (i := 4) (v := ?vh34) rfl (by kernel_rfl) (by kernel_rfl) (by kernel_rfl) (fun _ _ _ h => h) (Or.inl ⟨by kernel_rfl, ?yh34⟩) (by assumption) ?_
          case yh34 => (intro w hSw; (try dsimp only at hSw); go_simp; try with_reducible rfl)
          try simp only [Act.put, List.getElem_toArray, List.getElem_cons_succ, List.getElem_cons_zero, List.setIfInBounds_toArray, List.set_cons_zero, List.set_cons_succ]
          refine wpAnyH_ready (rs := [1, 5]) (by kernel_rfl) (by simp) ?_
          refine AllReadyH.cons rfl (fun K2 hK2 => ?_) (AllReadyH.cons rfl (fun K3 hK3 => ?_) AllReadyH.nil)
          · go_simp
            go_at_call 27
            with_reducible refine HL.out.mono ?_
            rintro e u1' ⟨rfl, rfl⟩
            refine hK2.out _ _ cN (fun hHeld2 => ?_)
            clear hK2 K2
            try simp only [Act.put, List.getElem_toArray, List.getElem_cons_succ, List.getElem_cons_zero, List.setIfInBounds_toArray, List.set_cons_zero, List.set_cons_succ]
            refine wpAnyH_ready (rs := [5]) (by kernel_rfl) (by simp) ?_
            refine AllReadyH.cons rfl (fun K2 hK2 => ?_) AllReadyH.nil
            go_simp
            refine hK2.out _ _ cN (fun hHeld3 => ?_)
            clear hK2 K2
            try simp only [Act.put, List.getElem_toArray, List.getElem_cons_succ, List.getElem_cons_zero, List.setIfInBounds_toArray, List.set_cons_zero, List.set_cons_succ]
            refine wpAnyH_take (i := 6) (v := ?vh1001) rfl (by kernel_rfl) (by kernel_rfl) (by kernel_rfl) (fun _ _ _ h => h) (Or.inl ⟨by kernel_rfl, ?yh1001⟩) (by assumption) ?_
            case yh1001 => (intro w hSw; (try dsimp only at hSw); go_simp; try with_reducible rfl)
            refine wpAnyH_take (i := 7) (v := ?vh1002) rfl (by kernel_rfl) (by kernel_rfl) (by kernel_rfl) (fun _ _ _ h => h) (Or.inl ⟨by kernel_rfl, ?yh1002⟩) (by assumption) ?_
            case yh1002 => (intro w hSw; (try dsimp only at hSw); go_simp; try with_reducible rfl)
            refine wpAnyH_take (i := 8) (v := ?vh1003) rfl (by kernel_rfl) (by kernel_rfl) (by kernel_rfl) (fun _ _ _ h => h) (Or.inl ⟨by kernel_rfl, ?yh1003⟩) (by assumption) ?_
            case yh1003 => (intro w hSw; (try dsimp only at hSw); go_simp; try with_reducible rfl)
            refine wpAnyH_take (i := 9) (v := ?vh1004) rfl (by kernel_rfl) (by kernel_rfl) (by kernel_rfl) (fun _ _ _ h => h) (Or.inl ⟨by kernel_rfl, ?yh1004⟩) (by assumption) ?_
            case yh1004 => (intro w hSw; (try dsimp only at hSw); go_simp; try with_reducible rfl)
            refine wpAnyH_take (i := 10) (v := ?vh1005) rfl (by kernel_rfl) (by kernel_rfl) (by kernel_rfl) (fun _ _ _ h => h) (Or.inl ⟨by kernel_rfl, ?yh1005⟩) (by assumption) ?_
            case yh1005 => (intro w hSw; (try dsimp only at hSw); go_simp; try with_reducible rfl)
            refine wpAnyH_take (i := 11) (v := ?vh1006) rfl (by kernel_rfl) (by kernel_rfl) (by kernel_rfl) (fun _ _ _ h => h) (Or.inl ⟨by kernel_rfl, ?yh1006⟩) (by assumption) ?_
            case yh1006 => (intro w hSw; (try dsimp only at hSw); go_simp; try with_reducible rfl)
            refine wpAnyH_take (i := 12) (v := ?vh1007) rfl (by kernel_rfl) (by kernel_rfl) (by kernel_rfl) (fun _ _ _ h => h) (Or.inl ⟨by kernel_rfl, ?yh1007⟩) (by assumption) ?_
            case yh1007 => (intro w hSw; (try dsimp only at hSw); go_simp; try with_reducible rfl)
            refine wpAnyH_take (i := 13) (v := ?vh1008) rfl (by kernel_rfl) (by kernel_rfl) (by kernel_rfl) (fun _ _ _ h => h) (Or.inl ⟨by kernel_rfl, ?yh1008⟩) (by assumption) ?_
            case yh1008 => (intro w hSw; (try dsimp only at hSw); go_simp; try with_reducible rfl)
            refine wpAnyH_take (i := 15) (v := ?vh1009) rfl (by kernel_rfl) (by kernel_rfl) (by kernel_rfl) (fun _ _ _ h => h) (Or.inl ⟨by kernel_rfl, ?yh1009⟩) (by assumption) ?_
            case yh1009 => (intro w hSw; (try dsimp only at hSw); go_simp; try with_reducible rfl)
            refine wpAnyH_take (i := 16) (v := ?vh1010) rfl (by kernel_rfl) (by kernel_rfl) (by kernel_rfl) (fun _ _ _ h => h) (Or.inl ⟨by kernel_rfl, ?yh1010⟩) (by assumption) ?_
            case yh1010 => (intro w hSw; (try dsimp only at hSw); go_simp; try with_reducible rfl)
            refine wpAnyH_take (i := 17) (v := ?vh1011) rfl (by kernel_rfl) (by kernel_rfl) (by kernel_rfl) (fun _ _ _ h => h) (Or.inl ⟨by kernel_rfl, ?yh1011⟩) (by assumption) ?_
            case yh1011 => (intro w hSw; (try dsimp only at hSw); go_simp; try with_reducible rfl)
            refine wpAnyH_take (i := 18) (v := ?vh1012) rfl (by kernel_rfl) (by kernel_rfl) (by kernel_rfl) (fun _ _ _ h => h) (Or.inl ⟨by kernel_rfl, ?yh1012⟩) (by assumption) ?_
            case yh1012 => (intro w hSw; (try dsimp only at hSw); go_simp; try with_reducible rfl)
            refine wpAnyH_take (i := 19) (v := ?vh1013) rfl (by kernel_rfl) (by kernel_rfl) (by kernel_rfl) (fun _ _ _ h => h) (Or.inl ⟨by kernel_rfl, ?yh1013⟩) (by assumption) ?_
            case yh1013 => (intro w hSw; (try dsimp only at hSw); go_simp; try with_reducible rfl)
            try simp only [Act.put, List.getElem_toArray, List.getElem_cons_succ, List.getElem_cons_zero, List.setIfInBounds_toArray, List.set_cons_zero, List.set_cons_succ]
            refine wpAnyH_ready (rs := [14]) (by kernel_rfl) (by simp) ?_
            refine AllReadyH.cons rfl (fun K2 hK2 => ?_) AllReadyH.nil
            go_simp
            go_at_call 28
            with_reducible refine (HD.out).mono ?_
            rintro e u2 ⟨rfl, hd2, ho2⟩
            refine hK2.out _ _ ((World.cell?_of_block (ho2.same b HbB.out)).trans cN) (fun hHeld => ?_)
            clear hK2 K2
            try simp only [Act.put, List.getElem_toArray, List.getElem_cons_succ, List.getElem_cons_zero, List.setIfInBounds_toArray, List.set_cons_zero, List.set_cons_succ]
            have HX2 := Hid.mk (xnext_in (HDX.out.only ho2 (by simp) HXB.out) n HNB.out)
            have cN2 := (World.cell?_of_block (ho2.same b HbB.out)).trans cN
            have HD2 := Hid.mk (And.intro hd2 ho2)
            clear hd2 ho2
            refine wpAnyH_ready (rs := [20]) (by kernel_rfl) (by simp) ?_
            refine AllReadyH.cons rfl (fun K2 hK2 => ?_) AllReadyH.nil
            go_simp
            go_at_call 29
            with_reducible refine (HX2.out).mono ?_
            rintro e u3 ⟨rfl, hx3, ho3⟩
            refine hK2.out _ _ ((World.cell?_of_block (ho3.same b HbX.out)).trans cN2) (fun hHeld => ?_)
            clear hK2 K2
            try simp only [Act.put, List.getElem_toArray, List.getElem_cons_succ, List.getElem_cons_zero, List.setIfInBounds_toArray, List.set_cons_zero, List.set_cons_succ]
            refine wpAnyH_take (i := 21) (v := ?vh1014) rfl (by kernel_rfl) (by kernel_rfl) (by kernel_rfl) (fun _ _ _ h => h) (Or.inl ⟨by kernel_rfl, ?yh1014⟩) (by assumption) ?_
            case yh1014 => (intro w hSw; (try dsimp only at hSw); go_simp; try with_reducible rfl)
            refine wpAnyH_take (i := 22) (v := ?vh1015) rfl (by kernel_rfl) (by kernel_rfl) (by kernel_rfl) (fun _ _ _ h => h) (Or.inl ⟨by kernel_rfl, ?yh1015⟩) (by assumption) ?_
            case yh1015 => (intro w hSw; (try dsimp only at hSw); go_simp; try with_reducible rfl)
            try simp only [Act.put, List.getElem_toArray, List.getElem_cons_succ, List.getElem_cons_zero, List.setIfInBounds_toArray, List.set_cons_zero, List.set_cons_succ]
            refine wpAnyH_done (by kernel_rfl) ?_ _
            have HF : Hid (DSt W u3 B X (nxt us n)) := ⟨(HD2.out.1).only ho3 (by simp) (fun h => HXB.out h.symm), hx3, ((HB.out.trans (HD2.out.2.below HWB.out)).trans (ho3.below HWX.out)), HWB.out, HWX.out, HXB.out, Nat.le_trans HWs.out (by rw [ho3.size, HD2.out.2.size]; exact Nat.le_refl _)⟩
            clear hx3 ho3 cN2
            have hvv : (nxv us n != nxv us n) = false := by simp
            go_wp2
            go_roundw
            case rel => exact ⟨k + 1, by omega, by omega, by go_num, nxt us n, HF.out⟩
            case measure => simp [intOf]; omega
          · go_simp
            refine hK3.out _ _ cN (fun hHeld2 => ?_)
            clear hK3 K3
            try simp only [Act.put, List.getElem_toArray, List.getElem_cons_succ, List.getElem_cons_zero, List.setIfInBounds_toArray, List.set_cons_zero, List.set_cons_succ]
            refine wpAnyH_take (i := 6) (v := ?vh1016) rfl (by kernel_rfl) (by kernel_rfl) (by kernel_rfl) (fun _ _ _ h => h) (Or.inl ⟨by kernel_rfl, ?yh1016⟩) (by assumption) ?_
            case yh1016 => (intro w hSw; (try dsimp only at hSw); go_simp; try with_reducible rfl)
            try simp only [Act.put, List.getElem_toArray, List.getElem_cons_succ, List.getElem_cons_zero, List.setIfInBounds_toArray, List.set_cons_zero, List.set_cons_succ]
            refine wpAnyH_ready (rs := [1]) (by kernel_rfl) (by simp) ?_
            refine AllReadyH.cons rfl (fun K2 hK2 => ?_) AllReadyH.nil
            go_simp
            go_at_call 27
            with_reducible refine (HL.out).mono ?_
            rintro e u1' ⟨rfl, rfl⟩
            refine hK2.out _ _ cN (fun hHeld => ?_)
            clear hK2 K2
            try simp only [Act.put, List.getElem_toArray, List.getElem_cons_succ, List.getElem_cons_zero, List.setIfInBounds_toArray, List.set_cons_zero, List.set_cons_succ]
            refine wpAnyH_take (i := 7) (v := ?vh1017) rfl (by kernel_rfl) (by kernel_rfl) (by kernel_rfl) (fun _ _ _ h => h) (Or.inl ⟨by kernel_rfl, ?yh1017⟩) (by assumption) ?_
            case yh1017 => (intro w hSw; (try dsimp only at hSw); go_simp; try with_reducible rfl)
            refine wpAnyH_take (i := 8) (v := ?vh1018) rfl (by kernel_rfl) (by kernel_rfl) (by kernel_rfl) (fun _ _ _ h => h) (Or.inl ⟨by kernel_rfl, ?yh1018⟩) (by assumption) ?_
            case yh1018 => (intro w hSw; (try dsimp only at hSw); go_simp; try with_reducible rfl)
            refine wpAnyH_take (i := 9) (v := ?vh1019) rfl (by kernel_rfl) (by kernel_rfl) (by kernel_rfl) (fun _ _ _ h => h) (Or.inl ⟨by kernel_rfl, ?yh1019⟩) (by assumption) ?_
            case yh1019 => (intro w hSw; (try dsimp only at hSw); go_simp; try with_reducible rfl)
            refine wpAnyH_take (i := 10) (v := ?vh1020) rfl (by kernel_rfl) (by kernel_rfl) (by kernel_rfl) (fun _ _ _ h => h) (Or.inl ⟨by kernel_rfl, ?yh1020⟩) (by assumption) ?_
            case yh1020 => (intro w hSw; (try dsimp only at hSw); go_simp; try with_reducible rfl)
            refine wpAnyH_take (i := 11) (v := ?vh1021) rfl (by kernel_rfl) (by kernel_rfl) (by kernel_rfl) (fun _ _ _ h => h) (Or.inl ⟨by kernel_rfl, ?yh1021⟩) (by assumption) ?_
            case yh1021 => (intro w hSw; (try dsimp only at hSw); go_simp; try with_reducible rfl)
            refine wpAnyH_take (i := 12) (v := ?vh1022) rfl (by kernel_rfl) (by kernel_rfl) (by kernel_rfl) (fun _ _ _ h => h) (Or.inl ⟨by kernel_rfl, ?yh1022⟩) (by assumption) ?_
            case yh1022 => (intro w hSw; (try dsimp only at hSw); go_simp; try with_reducible rfl)
            refine wpAnyH_take (i := 13) (v := ?vh1023) rfl (by kernel_rfl) (by kernel_rfl) (by kernel_rfl) (fun _ _ _ h => h) (Or.inl ⟨by kernel_rfl, ?yh1023⟩) (by assumption) ?_
            case yh1023 => (intro w hSw; (try dsimp only at hSw); go_simp; try with_reducible rfl)
            refine wpAnyH_take (i := 15) (v := ?vh1024) rfl (by kernel_rfl) (by kernel_rfl) (by kernel_rfl) (fun _ _ _ h => h) (Or.inl ⟨by kernel_rfl, ?yh1024⟩) (by assumption) ?_
            case yh1024 => (intro w hSw; (try dsimp only at hSw); go_simp; try with_reducible rfl)
            refine wpAnyH_take (i := 16) (v := ?vh1025) rfl (by kernel_rfl) (by kernel_rfl) (by kernel_rfl) (fun _ _ _ h => h) (Or.inl ⟨by kernel_rfl, ?yh1025⟩) (by assumption) ?_
            case yh1025 => (intro w hSw; (try dsimp only at hSw); go_simp; try with_reducible rfl)
            refine wpAnyH_take (i := 17) (v := ?vh1026) rfl (by kernel_rfl) (by kernel_rfl) (by kernel_rfl) (fun _ _ _ h => h) (Or.inl ⟨by kernel_rfl, ?yh1026⟩) (by assumption) ?_
            case yh1026 => (intro w hSw; (try dsimp only at hSw); go_simp; try with_reducible rfl)
            refine wpAnyH_take (i := 18) (v := ?vh1027) rfl (by kernel_rfl) (by kernel_rfl) (by kernel_rfl) (fun _ _ _ h => h) (Or.inl ⟨by kernel_rfl, ?yh1027⟩) (by assumption) ?_
            case yh1027 => (intro w hSw; (try dsimp only at hSw); go_simp; try with_reducible rfl)
            refine wpAnyH_take (i := 19) (v := ?vh1028) rfl (by kernel_rfl) (by kernel_rfl) (by kernel_rfl) (fun _ _ _ h => h) (Or.inl ⟨by kernel_rfl, ?yh1028⟩) (by assumption) ?_
            case yh1028 => (intro w hSw; (try dsimp only at hSw); go_simp; try with_reducible rfl)
            try simp only [Act.put, List.getElem_toArray, List.getElem_cons_succ, List.getElem_cons_zero, List.setIfInBounds_toArray, List.set_cons_zero, List.set_cons_succ]
            refine wpAnyH_ready (rs := [14]) (by kernel_rfl) (by simp) ?_
            refine AllReadyH.cons rfl (fun K2 hK2 => ?_) AllReadyH.nil
            go_simp
            go_at_call 28
            with_reducible refine (HD.out).mono ?_
            rintro e u2 ⟨rfl, hd2, ho2⟩
            refine hK2.out _ _ ((World.cell?_of_block (ho2.same b HbB.out)).trans cN) (fun hHeld => ?_)
            clear hK2 K2
            try simp only [Act.put, List.getElem_toArray, List.getElem_cons_succ, List.getElem_cons_zero, List.setIfInBounds_toArray, List.set_cons_zero, List.set_cons_succ]
            have HX2 := Hid.mk (xnext_in (HDX.out.only ho2 (by simp) HXB.out) n HNB.out)
            have cN2 := (World.cell?_of_block (ho2.same b HbB.out)).trans cN
            have HD2 := Hid.mk (And.intro hd2 ho2)
            clear hd2 ho2
            refine wpAnyH_ready (rs := [20]) (by kernel_rfl) (by simp) ?_
            refine AllReadyH.cons rfl (fun K2 hK2 => ?_) AllReadyH.nil
            go_simp
            go_at_call 29
            with_reducible refine (HX2.out).mono ?_
            rintro e u3 ⟨rfl, hx3, ho3⟩
            refine hK2.out _ _ ((World.cell?_of_block (ho3.same b HbX.out)).trans cN2) (fun hHeld => ?_)
            clear hK2 K2
            try simp only [Act.put, List.getElem_toArray, List.getElem_cons_succ, List.getElem_cons_zero, List.setIfInBounds_toArray, List.set_cons_zero, List.set_cons_succ]
            refine wpAnyH_take (i := 21) (v := ?vh1029) rfl (by kernel_rfl) (by kernel_rfl) (by kernel_rfl) (fun _ _ _ h => h) (Or.inl ⟨by kernel_rfl, ?yh1029⟩) (by assumption) ?_
            case yh1029 => (intro w hSw; (try dsimp only at hSw); go_simp; try with_reducible rfl)
            refine wpAnyH_take (i := 22) (v := ?vh1030) rfl (by kernel_rfl) (by kernel_rfl) (by kernel_rfl) (fun _ _ _ h => h) (Or.inl ⟨by kernel_rfl, ?yh1030⟩) (by assumption) ?_
            case yh1030 => (intro w hSw; (try dsimp only at hSw); go_simp; try with_reducible rfl)
            try simp only [Act.put, List.getElem_toArray, List.getElem_cons_succ, List.getElem_cons_zero, List.setIfInBounds_toArray, List.set_cons_zero, List.set_cons_succ]
            refine wpAnyH_done (by kernel_rfl) ?_ _
            have HF : Hid (DSt W u3 B X (nxt us n)) := ⟨(HD2.out.1).only ho3 (by simp) (fun h => HXB.out h.symm), hx3, ((HB.out.trans (HD2.out.2.below HWB.out)).trans (ho3.below HWX.out)), HWB.out, HWX.out, HXB.out, Nat.le_trans HWs.out (by rw [ho3.size, HD2.out.2.size]; exact Nat.le_refl _)⟩
            clear hx3 ho3 cN2
            have hvv : (nxv us n != nxv us n) = false := by simp
            go_wp2
            go_roundw
            case rel => exact ⟨k + 1, by omega, by omega, by go_num, nxt us n, HF.out⟩
            case measure => simp [intOf]; omega
        · have hstop : ¬ (k < m ∧ k < 300) := hlt
          have HL := Hid.mk (dleftT hD.drew.d)
          obtain ⟨qx, cx, cX⟩ := hD.x.len
          obtain ⟨lu, hlu⟩ : ∃ l, us.length = l := ⟨_, rfl⟩
          rw [hlu] at HL cX
          have HB := Hid.mk hD.bel
          clear hD hlu hlt
          by_cases h1 : k < m
          · have z1 : (k : Int) < (m : Int) := by omega
            have z2 : ¬ (k : Int) < 300 := by omega
            clear hstop
            go_wp2
            go_region_held3 (fun u => u.cell? ⟨X, 0, none⟩ = some (.slice qx lu cx)) (first | assumption | go_keep)
              (first | (go_at_call 27; refine HL.out.mono ?_; rintro e w' ⟨rfl, rfl⟩))
            all_goals
              go_wp2
              go_ret
              exact ⟨rfl, HB.out.drew⟩
          · have z1 : ¬ (k : Int) < (m : Int) := by omega
            clear hstop
            go_wp2
            go_region_held3 (fun u => u.cell? ⟨X, 0, none⟩ = some (.slice qx lu cx)) (first | assumption | go_keep)
              (first | (go_at_call 27; refine HL.out.mono ?_; rintro e w' ⟨rfl, rfl⟩))
            all_goals
              go_wp2
              go_ret
              exact ⟨rfl, HB.out.drew⟩
end
end Go.Proofs.Ytdgkknjmhdmlfaa
