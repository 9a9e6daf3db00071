/- Layer 12: DrawsApart. -/
import Derived.Test.YtdgkknjmhdmlfabTiArg
namespace Go.Proofs.Ytdgkknjmhdmlfab
set_option linter.unusedVariables false
set_option linter.unusedSimpArgs false
open Go.RowKit

/-- draws in their box, apart from what P says. -/
def DrQ (w : World) (B : Nat) (P : Nat → Prop) (us : List Int) : Prop := ∃ v, w.heap[B]? = some (.cells #[v] 44 (0, 0)) ∧ Nums w v us ∧ (∀ b, P b → us ≠ [] → Apart v b) ∧ P B
theorem DrQ.below {w w' : World} {B : Nat} {P : Nat → Prop} {us : List Int} (h : DrQ w B P us) (hb : Below w.heap.size w w') : DrQ w' B P us := by
  obtain ⟨v, hB, hN, ha, hi⟩ := h
  exact ⟨v, (hb.block B (blk_lt hB)).trans hB, hN.below hb, ha, hi⟩
theorem DrQ.only {w w' : World} {B C : Nat} {P : Nat → Prop} {us : List Int} (h : DrQ w B P us) (ho : Only C w w') (hC : P C) (hne : B ≠ C) : DrQ w' B P us := by
  obtain ⟨v, hB, hN, ha, hi⟩ := h
  exact ⟨v, (ho.same B hne).trans hB, hN.only ho (ha C hC), ha, hi⟩
theorem DrQ.grown {w w' : World} {B : Nat} {P : Nat → Prop} {us : List Int} {base k : Nat} {v : Value} {l : List Value} (h : DrQ w B P us) (hr : w.ownsRow base 3 1 v k l) (hg : w.grownBy w' v.ownBlock) (hP : ∀ b, base ≤ b → P b) : DrQ w' B P us := by
  obtain ⟨u, hB, hN, ha, hi⟩ := h
  refine ⟨u, (hg.block B (blk_lt hB) (row_far hr (fun c f e => by rw [hB] at e; cases e))).trans hB, ?_, ha, hi⟩
  obtain ⟨q, cap, h1, h2, h3, h0, h4⟩ := hN.at'
  refine ⟨⟨q, cap, h1, h2, h3, h0, fun j hj => ?_⟩, hN.rng⟩
  obtain ⟨g, off, e, hgl, hc⟩ := h4 j hj
  have hne : some g ≠ v.ownBlock := fun hh => ha g (hP g (row_base hr hh)) (fun e0 => by rw [e0] at hj; simp at hj) ⟨g, off, none⟩ _ _ (by rw [h1, e]) rfl
  exact ⟨g, off, e, Nat.lt_of_lt_of_le hgl hg.size, (World.cell?_of_block (hg.block g hgl hne)).trans hc⟩
theorem dnextQ {w : World} {B : Nat} {P : Nat → Prop} {us : List Int} (h : DrQ w B P us) (n : Int) (hn : n ≤ 9223372036854775807) :
    Calls Try.prog 6 #[pt B, .int .i64 n] w fun e w' => e = .returned (.int .i64 (nxv us n)) ∧ DrQ w' B P (nxt us n) ∧ Only B w w' := by
  obtain ⟨v, hB, hN, hav, hin⟩ := h
  by_cases h1 : n < 1
  · have e1 : nxv us n = 0 := if_pos h1
    have e2 : nxt us n = us := if_pos h1
    rw [e1, e2]
    refine (dnext_no w B n h1).mono ?_
    rintro e w' ⟨rfl, rfl⟩
    exact ⟨rfl, ⟨v, hB, hN, hav, hin⟩, Only.refl _ _⟩
  · cases us with
    | nil =>
      have e1 : nxv [] n = 0 := if_neg h1
      have e2 : nxt [] n = [] := if_neg h1
      rw [e1, e2]
      refine (dnext_nil hB hN n).mono ?_
      rintro e w' ⟨rfl, rfl⟩
      exact ⟨rfl, ⟨v, hB, hN, hav, hin⟩, Only.refl _ _⟩
    | cons u us =>
      have e1 : nxv (u :: us) n = drw u n := if_neg h1
      have e2 : nxt (u :: us) n = us := if_neg h1
      rw [e1, e2]
      refine (dnext_yes hB hN n h1 hn).mono ?_
      rintro e w' ⟨rfl, v', rfl, hN', hap⟩
      have hO : Only B w (w.setCell ⟨B, 0, none⟩ v') := Only.set _ _ _
      exact ⟨rfl, ⟨v', by rw [heap_set_same hB]; rfl, hN'.only hO (fun _ => hap B (hav B hin (by simp))), fun b hb _ => hap b (hav b hb (by simp)), hin⟩, hO⟩
theorem dleftQ {w : World} {B : Nat} {P : Nat → Prop} {us : List Int} (h : DrQ w B P us) : Calls Try.prog 7 #[pt B] w fun e w' => e = .returned (.int .i64 (us.length : Int)) ∧ w' = w := by
  obtain ⟨v, hB, hN, _⟩ := h
  exact dleft_in hB hN

/-! ### what is drawn, one behind the other -/
def drs : List Int → List Int → List Int
  | _, [] => []
  | us, n :: ns => nxv us n :: drs (nxt us n) ns
def drt : List Int → List Int → List Int
  | us, [] => us
  | us, n :: ns => drt (nxt us n) ns
theorem drt_snoc : ∀ (l us : List Int) (n : Int), drt us (l ++ [n]) = nxt (drt us l) n
  | [], us, n => rfl
  | x :: l, us, n => drt_snoc l (nxt us x) n
theorem drs_snoc : ∀ (l us : List Int) (n : Int), drs us (l ++ [n]) = drs us l ++ [nxv (drt us l) n]
  | [], us, n => rfl
  | x :: l, us, n => by simp [drs, drt, drs_snoc l (nxt us x) n]
theorem drs_len : ∀ (l us : List Int), (drs us l).length = l.length
  | [], us => rfl
  | x :: l, us => by simp [drs, drs_len l]
theorem drs_get : ∀ (l us : List Int) (i : Nat) (h : i < l.length), (drs us l)[i]? = some (nxv (drt us (l.take i)) l[i])
  | x :: l, us, 0, h => rfl
  | x :: l, us, i + 1, h => by
    have := drs_get l (nxt us x) i (by simpa using h)
    simpa [drs, drt] using this
theorem nxv_bd {us : List Int} (n : Int) (hr : ∀ u ∈ us, 0 ≤ u ∧ u < 18446744073709551616) : 0 ≤ nxv us n ∧ (0 < n → nxv us n < n) := by
  unfold nxv
  split
  · omega
  · split
    · omega
    · unfold drw
      exact ⟨Int.emod_nonneg _ (by omega), fun h => Int.emod_lt_of_pos _ h⟩
theorem take_snoc {l : List Int} {k : Nat} (h : k < l.length) : l.take (k + 1) = l.take k ++ [l[k]] := by
  rw [List.take_add_one, List.getElem?_eq_getElem h]; rfl

/-- a's and b's, and the first row. -/
structure ASt (W w : World) (A B base : Nat) (ua ub : List Int) (v : Value) (vs : List Int) : Prop where
  a : DrQ w A (fun b => b = A ∨ b = B ∨ base ≤ b) ua
  b : DrQ w B (fun b => b = A ∨ b = B ∨ base ≤ b) ub
  row : w.ownsRow base 3 1 v vs.length (ic vs)
  bel : Below W.heap.size W w
  nA : W.heap.size ≤ A
  nB : W.heap.size ≤ B
  ne : A ≠ B
  bs : W.heap.size ≤ base
  sz : base ≤ w.heap.size

def APost (W : World) (e : Ending) (w' : World) : Prop := e = .returned (.bool true) ∧ Below W.heap.size W w'

theorem row_only {w w' : World} {B base k : Nat} {v : Value} {l : List Value} (hr : w.ownsRow base 3 1 v k l) (ho : Only B w w') (hB : ∀ c f, w.heap[B]? ≠ some (.cells c 3 f)) : w'.ownsRow base 3 1 v k l := by
  obtain ⟨hl, h0 | ⟨g, cap, cur, hv, hb, hg, r⟩⟩ := hr
  · exact ⟨hl, .inl h0⟩
  · exact ⟨hl, .inr ⟨g, cap, cur, hv, hb, (ho.same g (fun e => hB _ _ (by rw [← e]; exact hg))).trans hg, r⟩⟩
theorem DrQ.typ {w : World} {B : Nat} {P : Nat → Prop} {us : List Int} (h : DrQ w B P us) : ∀ c f, w.heap[B]? ≠ some (.cells c 3 f) := fun c f e => by
  obtain ⟨v, hB, _⟩ := h
  rw [hB] at e; cases e

section
attribute [local go_sem ↓] app_i
set_option maxRecDepth 100000 in
set_option maxHeartbeats 8000000 in
theorem apart_walk (a : Option Addr) (cap : Nat) (us : List Int) (w1 : us.length * 8 ≤ 140737488355328) (a2 : Option Addr) (cap2 : Nat) (ns : List Int) (hr : ∀ z ∈ ns, -9223372036854775808 ≤ z ∧ z ≤ 9223372036854775807) (hcp : ns.length ≤ cap2 ∧ cap2 ≤ maxLen ∧ (a2 = none → cap2 = 0)) (W : World) (hg : Nums W (.slice a us.length cap) us) (hg2 : GivenI W a2 ns) :
    Calls Try.prog 3 #[.slice a us.length cap, .slice a2 ns.length cap2] W (APost W) := by
  obtain ⟨m, hm⟩ : ∃ m, ns.length = m := ⟨_, rfl⟩
  have hml : m ≤ 9223372036854775807 := by rw [← hm]; have := hcp.2.1; unfold maxLen at this; omega
  obtain ⟨n0, hn0⟩ : ∃ n, us.length = n := ⟨_, rfl⟩
  have hn0' : n0 * 8 ≤ 140737488355328 := by rw [← hn0]; exact w1
  have HN0 := Hid.mk hn0
  rw [hm]
  rw [hn0] at hg ⊢
  have HM := Hid.mk (And.intro hm (And.intro hg2 hr))
  have HG := Hid.mk hg
  clear hm hg hg2 hr hcp hn0
  go_enter Try.func3, Try.ntmps3
  go_wp2_with fail
  refine (examples_in W).mono ?_
  rintro e u0 ⟨rfl, z0⟩
  have HZ0 := Hid.mk z0
  clear z0
  go_wp2_with fail
  refine (newdraws_in (HG.out.below HZ0.out) w1).mono ?_
  rintro e u1 ⟨va, A, rfl, hA0, hA, rowA, b1⟩
  have b1W : Below W.heap.size W u1 := HZ0.out.trans (b1.mono HZ0.out.size)
  have H1 : Hid (u1.heap[A]? = some (.cells #[va] 44 (0, 0)) ∧ u1.ownsRow u0.heap.size 32 1 va us.length (uc us) ∧ Below W.heap.size W u1 ∧ W.heap.size ≤ A) := ⟨hA, rowA, b1W, Nat.le_trans HZ0.out.size hA0⟩
  clear hA0 hA rowA b1 b1W
  go_wp2_with fail
  refine (newdraws_in (HG.out.below H1.out.2.2.1) w1).mono ?_
  rintro e u2 ⟨vb, B, rfl, hB0, hB, rowB, b2⟩
  obtain ⟨base, hbase⟩ : ∃ b, u2.heap.size = b := ⟨_, rfl⟩
  have hApl := blk_lt H1.out.1
  have hA2 : u2.heap[A]? = some (.cells #[va] 44 (0, 0)) := (b2.block A hApl).trans H1.out.1
  have rowA2 := row_below H1.out.2.1 b2
  have hS : ASt W u2 A B base us us (.slice none 0 0) [] := by
    have ap : ∀ (v : Value) (x : Nat), u2.ownsRow x 32 1 v us.length (uc us) → ∀ b, (b = A ∨ b = B ∨ base ≤ b) → us ≠ [] → Apart v b := fun v x hrow b hb _ ad nn c hv e => by
      rcases hrow.2 with ⟨h, _⟩ | ⟨g, c', cur, h, _, hgg, _⟩
      · rw [h] at hv; cases hv
      · rw [h] at hv; cases hv; simp only at e; subst e
        rcases hb with rfl | rfl | hb
        · rw [hA2] at hgg; cases hgg
        · rw [hB] at hgg; cases hgg
        · have := blk_lt hgg; omega
    have hsz := H1.out.2.2.1.size
    refine ⟨⟨va, hA2, Nums.of_row rowA2 HG.out.rng, ap va _ rowA2, .inl rfl⟩, ⟨vb, hB, Nums.of_row rowB HG.out.rng, ap vb _ rowB, .inr (.inl rfl)⟩, World.ownsRow_nil .., H1.out.2.2.1.trans (b2.mono hsz), H1.out.2.2.2, by omega, by omega, ?_, by omega⟩
    have := b2.size
    omega
  have HS := Hid.mk hS
  clear hB0 hB rowB b2 hA2 rowA2 hApl hS hbase w1
  go_wp2
  go_loopw [8, 9] (fun fv iv wr => ∃ k : Nat, k ≤ m ∧ k ≤ 100 ∧ iv = .int .i64 (k : Int) ∧ ASt W wr A B base (drt us (ns.take k)) us fv (drs us (ns.take k))) (fun _ iv _ => m - (intOf iv).toNat)
  case atStart => exact ⟨0, Nat.zero_le _, Nat.zero_le _, rfl, HS.out⟩
  case round =>
    clear HS
    obtain ⟨k, hk, hk100, rfl, hD⟩ := hrel
    by_cases hlt : k < m ∧ k < 100
    · obtain ⟨g1, g2⟩ := hlt
      have z1 : (k : Int) < (m : Int) := by omega
      have z2 : (k : Int) < 100 := by omega
      have hkl : k < ns.length := by rw [HM.out.1]; exact g1
      obtain ⟨b, off, rfl, hbW, c0⟩ := HM.out.2.1 k hkl
      have hnr := HM.out.2.2 _ (List.getElem_mem hkl)
      have htk := take_snoc hkl
      obtain ⟨n, hn⟩ : ∃ n, ns[k] = n := ⟨_, rfl⟩
      rw [hn] at c0 hnr htk
      have cN : wr.cell? ⟨b, off + k, none⟩ = some (.int .i64 n) := (hD.bel.cell (p := ⟨b, off + k, none⟩) hbW).trans c0
      have HD := Hid.mk (dnextQ hD.a n hnr.2)
      obtain ⟨y, hy⟩ : ∃ y, nxv (drt us (ns.take k)) n = y := ⟨_, rfl⟩
      rw [hy] at HD
      have HY := Hid.mk (And.intro hy htk)
      have HDD := Hid.mk hD
      have hkk : (drs us (ns.take k)).length = k := by rw [drs_len, List.length_take]; omega
      have hrw := hD.row
      rw [hkk] at hrw
      obtain ⟨q8, c8, hu8⟩ := row_slice hrw
      subst hu8
      have HKK := Hid.mk hkk
      clear hD c0 hn hnr htk hy hrw hkk
      go_wp2_with fail
      refine HD.out.mono ?_
      rintro e w2 ⟨rfl, hd2, ho2⟩
      have hrow2 := row_only HDD.out.row ho2 HDD.out.a.typ
      have hsz2 : base ≤ w2.heap.size := by rw [ho2.size]; exact HDD.out.sz
      obtain ⟨v3, w3, r3, row3, gr3⟩ := iapp hrow2 (by rw [HKK.out]; omega) hsz2 y
      have hba : Below w2.heap.size w2 (w2.alloc (.cells #[.int .i64 y] 3 (0, 0))) := (Below.refl _ _).alloc (Nat.le_refl _) _
      have hF : ASt W w3 A B base (drt us (ns.take (k + 1))) us v3 (drs us (ns.take (k + 1))) := by
        have hP : ∀ b, base ≤ b → (b = A ∨ b = B ∨ base ≤ b) := fun b hb => .inr (.inr hb)
        rw [HY.out.2, drt_snoc, drs_snoc, HY.out.1]
        refine ⟨(hd2.below hba).grown (hrow2.alloc _) gr3 hP, ((HDD.out.b.only ho2 (.inl rfl) (fun e => HDD.out.ne e.symm)).below hba).grown (hrow2.alloc _) gr3 hP, ?_, ?_, HDD.out.nA, HDD.out.nB, HDD.out.ne, HDD.out.bs, ?_⟩
        · rw [List.length_append, ic_app]; exact row3
        · have bw2 : Below W.heap.size W w2 := HDD.out.bel.trans (ho2.below HDD.out.nA)
          exact (bw2.alloc (Nat.le_trans HDD.out.bs hsz2) _).grown gr3 (Nat.le_trans (Nat.le_trans HDD.out.bs hsz2) (by simp)) (fun kk e => Nat.le_trans HDD.out.bs (row_base hrow2 e.symm))
        · have := gr3.size; simp at this; omega
      have HF := Hid.mk hF
      obtain ⟨q3, c3, hv3⟩ := row_slice row3
      rw [HKK.out] at hv3
      subst hv3
      clear hd2 ho2 hrow2 hsz2 row3 gr3 hba hF
      go_wp2
      go_roundw
      case rel => exact ⟨k + 1, g1, g2, by go_num, HF.out⟩
      case measure => simp [intOf]; omega
    · have HLb := Hid.mk (dleftQ hD.b)
      rw [HN0.out] at HLb
      have hkk : (drs us (ns.take k)).length = k := by rw [drs_len, List.length_take]; have := HM.out.1; omega
      have hrw := hD.row
      rw [hkk] at hrw
      obtain ⟨q8, c8, hu8⟩ := row_slice hrw
      subst hu8
      have HDD := Hid.mk hD
      have hbne : ((n0 : Int) != (n0 : Int)) = false := by simp
      have HKK := Hid.mk hkk
      have hkm : k ≤ m := hk
      clear hD hrw hkk
      by_cases h1 : k < m
      · have z1 : (k : Int) < (m : Int) := by omega
        have z2 : ¬ (k : Int) < 100 := by omega
        go_wp2_with fail
        refine HLb.out.mono ?_
        rintro e w2 ⟨rfl, rfl⟩
        go_wp2
        go_loopw [10] (fun iv wr => ∃ i : Nat, i ≤ k ∧ iv = .int .i64 (i : Int) ∧ ASt W wr A B base (drt us (ns.take k)) (drt us (ns.take i)) (.slice q8 k c8) (drs us (ns.take k))) (fun iv _ => k - (intOf iv).toNat)
        case atStart => exact ⟨0, Nat.zero_le _, rfl, HDD.out⟩
        case round =>
          clear HDD HLb
          obtain ⟨i, hi, rfl, hD⟩ := hrel
          by_cases hlt : i < k
          · have y1 : (i : Int) < (k : Int) := by omega
            have hil : i < ns.length := by rw [HM.out.1]; omega
            obtain ⟨b, off, rfl, hbW, c0⟩ := HM.out.2.1 i hil
            have hnr := HM.out.2.2 _ (List.getElem_mem hil)
            have htk := take_snoc hil
            have hgt := drs_get (ns.take k) us i (by rw [List.length_take]; omega)
            rw [List.take_take, Nat.min_eq_left (by omega), List.getElem_take] at hgt
            obtain ⟨n, hn⟩ : ∃ n, ns[i] = n := ⟨_, rfl⟩
            rw [hn] at c0 hnr htk hgt
            have cN : wr.cell? ⟨b, off + i, none⟩ = some (.int .i64 n) := (hD.bel.cell (p := ⟨b, off + i, none⟩) hbW).trans c0
            have HD := Hid.mk (dnextQ hD.b n hnr.2)
            have hbd : 0 ≤ nxv (drt us (ns.take i)) n ∧ (0 < n → nxv (drt us (ns.take i)) n < n) := by
              obtain ⟨v, _, hN, _⟩ := hD.b
              exact nxv_bd n hN.rng
            obtain ⟨y, hy⟩ : ∃ y, nxv (drt us (ns.take i)) n = y := ⟨_, rfl⟩
            rw [hy] at HD hbd hgt
            have HY := Hid.mk (And.intro hbd (And.intro hgt htk))
            have HDD := Hid.mk hD
            have hbB : b ≠ B := by have := hD.nB; omega
            have HbB := Hid.mk hbB
            have CN := Hid.mk cN
            clear hD c0 hn hnr htk hy hbd hgt hbB
            go_wp2_with fail
            refine HD.out.mono ?_
            rintro e w3 ⟨rfl, hd3, ho3⟩
            have hrow3 := row_only HDD.out.row ho3 HDD.out.b.typ
            have cN3 : w3.cell? ⟨b, off + i, none⟩ = some (.int .i64 n) := (World.cell?_of_block (ho3.same b HbB.out)).trans CN.out
            obtain ⟨g, hq8, cF⟩ : ∃ g, q8 = some ⟨g, 0, none⟩ ∧ w3.cell? ⟨g, i, none⟩ = some (.int .i64 y) := by
              rcases hrow3.2 with ⟨_, h0⟩ | ⟨g, cp, cur, hv, _, hgg, _, _, _, ht⟩
              · rw [HKK.out] at h0; omega
              · have hq9 : q8 = some ⟨g, 0, none⟩ := by
                  have h9 := hv
                  simp only [Value.slice.injEq] at h9
                  exact h9.1
                subst hq9
                refine ⟨g, rfl, cell_of_heap hgg ?_⟩
                have h5 : (ic (drs us (ns.take k)))[i]? = some (.int .i64 y) := by simp [ic, HY.out.2.1]
                rw [← ht, List.getElem?_take, if_pos (by rw [HKK.out]; omega)] at h5
                simpa using h5
            subst hq8
            have HF : Hid (ASt W w3 A B base (drt us (ns.take k)) (drt us (ns.take (i + 1))) (.slice (some ⟨g, 0, none⟩) k c8) (drs us (ns.take k))) := by
              show ASt _ _ _ _ _ _ _ _ _
              rw [HY.out.2.2, drt_snoc]
              exact ⟨HDD.out.a.only ho3 (.inr (.inl rfl)) HDD.out.ne, hd3, hrow3, HDD.out.bel.trans (ho3.below HDD.out.nB), HDD.out.nA, HDD.out.nB, HDD.out.ne, HDD.out.bs, by rw [ho3.size]; exact HDD.out.sz⟩
            have hyy : (y != y) = false := by simp
            have hy0 : ¬ y < 0 := by have := HY.out.1.1; omega
            have hbd2 := HY.out.1.2
            clear hd3 ho3 hrow3 cN HDD
            by_cases hnp : 0 < n
            · have hyn : ¬ n ≤ y := by have := hbd2 hnp; omega
              clear hbd2
              go_wp2
              go_roundw
              case rel => exact ⟨i + 1, hlt, by go_num, HF.out⟩
              case measure => simp [intOf]; omega
            · clear hbd2
              go_wp2
              go_roundw
              case rel => exact ⟨i + 1, hlt, by go_num, HF.out⟩
              case measure => simp [intOf]; omega
          · have y1 : ¬ (i : Int) < (k : Int) := by omega
            obtain rfl : i = k := by omega
            have HA := Hid.mk (dleftQ hD.a)
            have HB := Hid.mk (dleftQ hD.b)
            have HE := Hid.mk hD.bel
            obtain ⟨lu, hlu⟩ : ∃ l, (drt us (ns.take i)).length = l := ⟨_, rfl⟩
            rw [hlu] at HA HB
            clear hD hlu
            go_wp2_with fail
            refine HA.out.mono ?_
            rintro e w4 ⟨rfl, rfl⟩
            go_wp2_with fail
            refine HB.out.mono ?_
            rintro e w5 ⟨rfl, rfl⟩
            go_wp2
            go_ret
            exact ⟨rfl, HE.out⟩
      · have z1 : ¬ (k : Int) < (m : Int) := by omega
        go_wp2_with fail
        refine HLb.out.mono ?_
        rintro e w2 ⟨rfl, rfl⟩
        go_wp2
        go_loopw [10] (fun iv wr => ∃ i : Nat, i ≤ k ∧ iv = .int .i64 (i : Int) ∧ ASt W wr A B base (drt us (ns.take k)) (drt us (ns.take i)) (.slice q8 k c8) (drs us (ns.take k))) (fun iv _ => k - (intOf iv).toNat)
        case atStart => exact ⟨0, Nat.zero_le _, rfl, HDD.out⟩
        case round =>
          clear HDD HLb
          obtain ⟨i, hi, rfl, hD⟩ := hrel
          by_cases hlt : i < k
          · have y1 : (i : Int) < (k : Int) := by omega
            have hil : i < ns.length := by rw [HM.out.1]; omega
            obtain ⟨b, off, rfl, hbW, c0⟩ := HM.out.2.1 i hil
            have hnr := HM.out.2.2 _ (List.getElem_mem hil)
            have htk := take_snoc hil
            have hgt := drs_get (ns.take k) us i (by rw [List.length_take]; omega)
            rw [List.take_take, Nat.min_eq_left (by omega), List.getElem_take] at hgt
            obtain ⟨n, hn⟩ : ∃ n, ns[i] = n := ⟨_, rfl⟩
            rw [hn] at c0 hnr htk hgt
            have cN : wr.cell? ⟨b, off + i, none⟩ = some (.int .i64 n) := (hD.bel.cell (p := ⟨b, off + i, none⟩) hbW).trans c0
            have HD := Hid.mk (dnextQ hD.b n hnr.2)
            have hbd : 0 ≤ nxv (drt us (ns.take i)) n ∧ (0 < n → nxv (drt us (ns.take i)) n < n) := by
              obtain ⟨v, _, hN, _⟩ := hD.b
              exact nxv_bd n hN.rng
            obtain ⟨y, hy⟩ : ∃ y, nxv (drt us (ns.take i)) n = y := ⟨_, rfl⟩
            rw [hy] at HD hbd hgt
            have HY := Hid.mk (And.intro hbd (And.intro hgt htk))
            have HDD := Hid.mk hD
            have hbB : b ≠ B := by have := hD.nB; omega
            have HbB := Hid.mk hbB
            have CN := Hid.mk cN
            clear hD c0 hn hnr htk hy hbd hgt hbB
            go_wp2_with fail
            refine HD.out.mono ?_
            rintro e w3 ⟨rfl, hd3, ho3⟩
            have hrow3 := row_only HDD.out.row ho3 HDD.out.b.typ
            have cN3 : w3.cell? ⟨b, off + i, none⟩ = some (.int .i64 n) := (World.cell?_of_block (ho3.same b HbB.out)).trans CN.out
            obtain ⟨g, hq8, cF⟩ : ∃ g, q8 = some ⟨g, 0, none⟩ ∧ w3.cell? ⟨g, i, none⟩ = some (.int .i64 y) := by
              rcases hrow3.2 with ⟨_, h0⟩ | ⟨g, cp, cur, hv, _, hgg, _, _, _, ht⟩
              · rw [HKK.out] at h0; omega
              · have hq9 : q8 = some ⟨g, 0, none⟩ := by
                  have h9 := hv
                  simp only [Value.slice.injEq] at h9
                  exact h9.1
                subst hq9
                refine ⟨g, rfl, cell_of_heap hgg ?_⟩
                have h5 : (ic (drs us (ns.take k)))[i]? = some (.int .i64 y) := by simp [ic, HY.out.2.1]
                rw [← ht, List.getElem?_take, if_pos (by rw [HKK.out]; omega)] at h5
                simpa using h5
            subst hq8
            have HF : Hid (ASt W w3 A B base (drt us (ns.take k)) (drt us (ns.take (i + 1))) (.slice (some ⟨g, 0, none⟩) k c8) (drs us (ns.take k))) := by
              show ASt _ _ _ _ _ _ _ _ _
              rw [HY.out.2.2, drt_snoc]
              exact ⟨HDD.out.a.only ho3 (.inr (.inl rfl)) HDD.out.ne, hd3, hrow3, HDD.out.bel.trans (ho3.below HDD.out.nB), HDD.out.nA, HDD.out.nB, HDD.out.ne, HDD.out.bs, by rw [ho3.size]; exact HDD.out.sz⟩
            have hyy : (y != y) = false := by simp
            have hy0 : ¬ y < 0 := by have := HY.out.1.1; omega
            have hbd2 := HY.out.1.2
            clear hd3 ho3 hrow3 cN HDD
            by_cases hnp : 0 < n
            · have hyn : ¬ n ≤ y := by have := hbd2 hnp; omega
              clear hbd2
              go_wp2
              go_roundw
              case rel => exact ⟨i + 1, hlt, by go_num, HF.out⟩
              case measure => simp [intOf]; omega
            · clear hbd2
              go_wp2
              go_roundw
              case rel => exact ⟨i + 1, hlt, by go_num, HF.out⟩
              case measure => simp [intOf]; omega
          · have y1 : ¬ (i : Int) < (k : Int) := by omega
            obtain rfl : i = k := by omega
            have HA := Hid.mk (dleftQ hD.a)
            have HB := Hid.mk (dleftQ hD.b)
            have HE := Hid.mk hD.bel
            obtain ⟨lu, hlu⟩ : ∃ l, (drt us (ns.take i)).length = l := ⟨_, rfl⟩
            rw [hlu] at HA HB
            clear hD hlu
            go_wp2_with fail
            refine HA.out.mono ?_
            rintro e w4 ⟨rfl, rfl⟩
            go_wp2_with fail
            refine HB.out.mono ?_
            rintro e w5 ⟨rfl, rfl⟩
            go_wp2
            go_ret
            exact ⟨rfl, HE.out⟩
end
end Go.Proofs.Ytdgkknjmhdmlfab
