/- Layer 11: the document's Drop, Put, Get. -/
import Derived.Test.YtcebljcofkohiaaTbRef
import Derived.Deep.Cut
namespace Go.Proofs.Ytcebljcofkohiaa
set_option linter.unusedVariables false
open Go.RowKit

theorem RefAt.lt {W : World} {B X : Nat} {m : Int} {l : KV} (h : RefAt W B X m l) : X < W.heap.size := by
  obtain ⟨v, h1, _⟩ := h.tab
  exact blk_lt h1
theorem kp_store {W w1 : World} {X : Nat} {v : Value} (hb : Below W.heap.size W w1) : Kp (fun b => b = X) W (w1.setCell ⟨X, 1, none⟩ v) := Kp.set (S := fun b => b = X) (p := ⟨X, 1, none⟩) (Kp.of_below hb) (.inl rfl) _

theorem rdrop_in {W : World} {B X : Nat} {m : Int} {l : KV} (h : RefAt W B X m l) (hn : (l.map Prod.fst).Nodup) (hB : B ≤ W.heap.size) (k : ByteArray) :
    Calls Try.prog 16 #[pt X, .string k] W fun e w' => e = .returned (.bool (getR l k).isSome) ∧ RefAt w' B X m (without l k) ∧ Kp (fun b => b = X) W w' := by
  have HF := Hid.mk (rfind_in h k)
  cases hf : fidx l k with
  | none =>
    rw [(fidx_none hf).2, (fidx_none hf).1]
    rw [show fidxV l k = -1 by unfold fidxV; rw [hf]] at HF
    have HH := Hid.mk h
    clear h hn hf
    go_enter Try.func16, Try.ntmps16
    go_wp2_with fail
    refine HF.out.mono ?_
    rintro r w' ⟨rfl, rfl⟩
    go_wp2
    go_ret
    exact ⟨rfl, HH.out, Kp.refl _ _⟩
  | some i =>
    obtain ⟨hi, _, he, hg⟩ := fidx_some hf hn
    rw [hg]
    rw [show fidxV l k = (i : Int) by unfold fidxV; rw [hf]] at HF
    have HW := Hid.mk (rwithout_in h i hi)
    rw [he] at HW
    have hll : (without l k).length ≤ 100001 := Nat.le_trans (List.length_filter_le _ _) h.len
    have HH := Hid.mk h
    clear h hn hf hg he
    go_enter Try.func16, Try.ntmps16
    go_wp2_with fail
    refine HF.out.mono ?_
    rintro r w' ⟨rfl, rfl⟩
    go_wp2_with fail
    refine HW.out.mono ?_
    rintro r w1 ⟨⟨v, rfl, hr⟩, hb⟩
    obtain ⟨h1, _, h3, h4, _⟩ := HH.out.store hb hr hB hll
    obtain ⟨q, cp, rfl⟩ := row_shape hr
    obtain ⟨u, hu⟩ := Option.ne_none_iff_exists'.1 h3
    have H1 := Hid.mk (And.intro h1 (kp_store (X := X) (v := .slice q (without l k).length cp) hb))
    clear h1 h3 hr
    go_wp2
    go_ret
    exact ⟨rfl, H1.out.1, H1.out.2⟩

theorem rpush {W : World} {B X : Nat} {m : Int} {l : KV} (h : RefAt W B X m l) (hB : B ≤ W.heap.size) (hl : l.length ≤ 100000) (k : ByteArray) (v : Int) :
    ∃ q cap q' c' w4, W.cell? ⟨X, 1, none⟩ = some (.slice q l.length cap) ∧ (rApp #[.slice (some ⟨W.heap.size, 0, none⟩) 1 1, .slice q l.length cap]).run Try.prog (W.alloc (.cells #[.string k, .int .i64 v] tPr)) = .ok (.slice q' (l.length + 1) c') w4 ∧
      (∃ u, w4.cell? ⟨X, 1, none⟩ = some u) ∧ w4.frozen? ⟨X, 1, none⟩ = false ∧ RefAt (w4.setCell ⟨X, 1, none⟩ (.slice q' (l.length + 1) c')) B X m ((k, v) :: l) ∧ Kp (fun b => b = X) W (w4.setCell ⟨X, 1, none⟩ (.slice q' (l.length + 1) c')) := by
  obtain ⟨q, cap, h1, h2, hlc, hc⟩ := h.get
  have cL : W.cell? ⟨X, 1, none⟩ = some (.slice q l.length cap) := by rw [cell_of_row _ _ _ _ _ _ h1]; rfl
  have hb0 : Below W.heap.size W (W.alloc (.cells #[.string k, .int .i64 v] tPr)) := (Below.refl _ _).alloc (Nat.le_refl _) _
  have hown : (W.alloc (.cells #[.string k, .int .i64 v] tPr)).ownsRow W.heap.size tPr 2 (.slice (some ⟨W.heap.size, 0, none⟩) 1 1) 1 [.string k, .int .i64 v] :=
    ⟨rfl, .inr ⟨W.heap.size, 1, #[.string k, .int .i64 v], rfl, Nat.le_refl _, heap_alloc_last _ _, Nat.le_refl _, by unfold maxLen; omega, rfl, rfl⟩⟩
  have hsrc : PSrc (W.alloc (.cells #[.string k, .int .i64 v] tPr)) (.slice q l.length cap) l := by
    rcases (h2.alloc (.cells #[.string k, .int .i64 v] tPr)).2 with ⟨e1, e2⟩ | ⟨g, cap', cur, e1, _, hg, _, _, _, ht⟩
    · exact .inl ⟨e1, List.eq_nil_of_length_eq_zero e2⟩
    · refine .inr ⟨_, _, e1, fun j u hu => ?_⟩
      rw [add_on, Nat.zero_add]
      rw [← ht, List.getElem?_take] at hu
      split at hu
      · rw [cell_of_row _ _ _ _ _ _ hg]
        simpa using hu
      · cases hu
  obtain ⟨v', w4, hap, hr, hg⟩ := rapp hown hsrc (by decide) (by omega) (by simp)
  have hb4 : Below W.heap.size W w4 := hb0.trans (row_below hown (Nat.le_refl _) (by simp) hg)
  rw [show 1 + l.length = ((k, v) :: l).length by simp; omega] at hr
  have hr' : w4.ownsRow W.heap.size tPr 2 v' ((k, v) :: l).length (pairC ((k, v) :: l)) := hr
  obtain ⟨q', c', rfl⟩ := row_shape hr'
  obtain ⟨s1, _, s3, s4, _⟩ := h.store hb4 hr' hB (by simp; omega)
  exact ⟨q, cap, q', c', w4, cL, hap, Option.ne_none_iff_exists'.1 s3, s4, s1, kp_store hb4⟩

/-- the last pair away. -/
theorem RefAt.cut {W : World} {B X : Nat} {m : Int} {l : KV} (h : RefAt W B X m l) {q : Option Addr} {cap n : Nat} (hc : W.cell? ⟨X, 1, none⟩ = some (.slice q l.length cap)) (hn : n ≤ l.length) : RefAt (W.setCell ⟨X, 1, none⟩ (.slice q n cap)) B X m (l.take n) ∨ n = 0 := by
  obtain ⟨q1, cap1, h1, h2, hlc, _⟩ := h.get
  have : W.cell? ⟨X, 1, none⟩ = some (.slice q1 l.length cap1) := by rw [cell_of_row _ _ _ _ _ _ h1]; rfl
  rw [hc] at this
  cases this
  by_cases h0 : n = 0
  · exact .inr h0
  · refine .inl ⟨⟨_, heap_set_same h1 1 _, ?_⟩, by rw [List.length_take]; have := h.len; omega⟩
    rw [List.length_take, Nat.min_eq_left hn]
    obtain ⟨hl', ⟨_, e⟩ | ⟨g, cp, cur, hv, hb', hg, r1, r2, r3, r4⟩⟩ := h2
    · omega
    · cases hv
      refine ⟨by rw [pairC_len, List.length_take, Nat.min_eq_left hn], .inr ⟨g, _, cur, rfl, hb', (Below.heap_setCell _ _ _ _ (fun e => ?_)).trans hg, by omega, r2, r3, ?_⟩⟩
      · have e' : g = X := e
        subst e'
        rw [hg] at h1
        cases h1
      · rw [pairC_take, ← r4, List.take_take, Nat.min_eq_left (by omega)]

attribute [local go_sem ↓] app_r
set_option maxRecDepth 100000 in
set_option maxHeartbeats 2000000 in
theorem rput_in {W : World} {B X m : Nat} {l : KV} (h : RefAt W B X (m : Int) l) (hn : (l.map Prod.fst).Nodup) (hB : B ≤ W.heap.size) (hm1 : 1 ≤ m) (hm : m ≤ 100000) (hl : l.length ≤ m) (k : ByteArray) (v : Int) :
    Calls Try.prog 10 #[pt X, .string k, .int .i64 v] W fun e w' => e = .returned (.tuple #[.string ((putG m l k).getD ⟨#[]⟩), .bool (putG m l k).isSome]) ∧ RefAt w' B X (m : Int) (putR m l k v) ∧ Kp (fun b => b = X) W w' := by
  have HF := Hid.mk (rfind_in h k)
  have hXW := h.lt
  cases hf : fidx l k with
  | some i =>
    obtain ⟨hi, _, he, hg⟩ := fidx_some hf hn
    rw [show fidxV l k = (i : Int) by unfold fidxV; rw [hf]] at HF
    have HW := Hid.mk (rwithout_in h i hi)
    rw [he] at HW
    have hlen1 : (without l k).length + 1 = l.length := by rw [← he, List.length_eraseIdx, if_pos hi]; omega
    have hpg : putG m l k = none := by unfold putG; rw [List.getElem?_eq_none (by simp; omega)]; rfl
    have hpr : putR m l k v = (k, v) :: without l k := by unfold putR; rw [List.take_of_length_le (by simp; omega)]
    rw [hpg, hpr]
    have HH := Hid.mk h
    have HL := Hid.mk hlen1
    clear h hn hf hg he hpg hpr hlen1
    go_enter Try.func10, Try.ntmps10
    go_wp2_with fail
    refine HF.out.mono ?_
    rintro r w' ⟨rfl, rfl⟩
    go_wp2_with fail
    refine HW.out.mono ?_
    rintro r w1 ⟨⟨v1, rfl, hr⟩, hb⟩
    obtain ⟨h1, _, h3, h4, _⟩ := HH.out.store hb hr hB (by have := HL.out; omega)
    obtain ⟨q, cp, rfl⟩ := row_shape hr
    obtain ⟨u, hu⟩ := Option.ne_none_iff_exists'.1 h3
    obtain ⟨W2, hW2⟩ : ∃ W2, w1.setCell ⟨X, 1, none⟩ (.slice q (without l k).length cp) = W2 := ⟨_, rfl⟩
    have hk2 := kp_store (X := X) (v := .slice q (without l k).length cp) hb
    rw [hW2] at h1 hk2
    obtain ⟨qa, ca, qb, cb, w4, e1, e2, ⟨u4, e3⟩, e4, e5, e6⟩ := rpush h1 (Nat.le_trans hB hk2.size) (by have := HL.out; omega) k v
    have hX2 : X < W2.heap.size := h1.lt
    have hX3 : ¬ X = W2.heap.size := by omega
    have HE := Hid.mk (And.intro e5 (hk2.trans e6 (fun _ _ x => x)))
    have HW2 := Hid.mk hW2
    obtain ⟨n, hn⟩ : ∃ n, (without l k).length = n := ⟨_, rfl⟩
    have hnm : n + 1 ≤ m := by have := HL.out; omega
    have cm : (w4.setCell ⟨X, 1, none⟩ (.slice qb (n + 1) cb)).cell? ⟨X, 0, none⟩ = some (.int .i64 (m : Int)) := by
      obtain ⟨vv, hh, _⟩ := e5.tab
      rw [← hn, cell_of_row _ _ _ _ _ _ hh]; rfl
    have cl5 : (w4.setCell ⟨X, 1, none⟩ (.slice qb (n + 1) cb)).cell? ⟨X, 1, none⟩ = some (.slice qb (n + 1) cb) := World.cell?_setCell_same _ _ _ e3
    rw [hn] at e1 e2 HE HW2
    clear h1 h3 hr hb hk2 e5 e6 hW2
    go_upto_region 4 with fail
    rw [HW2.out]
    obtain ⟨W5, hW5⟩ : ∃ W5, w4.setCell ⟨X, 1, none⟩ (.slice qb (n + 1) cb) = W5 := ⟨_, rfl⟩
    have HW5 := Hid.mk hW5
    rw [hW5] at cm cl5 HE
    clear hW5 hu h4 hn
    go_upto_region 6 with fail
    rw [HW5.out]
    clear HW5 e1 e2 e3 e4
    go_wp2
    go_region
    go_wp2
    go_ret2
    exact ⟨rfl, HE.out.1.blk (Below.refl _ _).drew, HE.out.2.drew⟩
  | none =>
    obtain ⟨he, _⟩ := fidx_none hf
    rw [show fidxV l k = -1 by unfold fidxV; rw [hf]] at HF
    obtain ⟨qa, ca, qb, cb, w4, e1, e2, ⟨u4, e3⟩, e4, e5, e6⟩ := rpush h hB (by omega) k v
    have hX3 : ¬ X = W.heap.size := by omega
    obtain ⟨n, hnn⟩ : ∃ n, l.length = n := ⟨_, rfl⟩
    have cm : (w4.setCell ⟨X, 1, none⟩ (.slice qb (n + 1) cb)).cell? ⟨X, 0, none⟩ = some (.int .i64 (m : Int)) := by
      obtain ⟨vv, hh, _⟩ := e5.tab
      rw [← hnn, cell_of_row _ _ _ _ _ _ hh]; rfl
    have cl5 : (w4.setCell ⟨X, 1, none⟩ (.slice qb (n + 1) cb)).cell? ⟨X, 1, none⟩ = some (.slice qb (n + 1) cb) := World.cell?_setCell_same _ _ _ e3
    rw [hnn] at e1 e2 e5 e6 hl
    obtain ⟨W5, hW5⟩ : ∃ W5, w4.setCell ⟨X, 1, none⟩ (.slice qb (n + 1) cb) = W5 := ⟨_, rfl⟩
    have HW5 := Hid.mk hW5
    rw [hW5] at cm cl5 e5 e6
    have HE := Hid.mk (And.intro e5 e6)
    have HN := Hid.mk hnn
    by_cases hroom : n + 1 ≤ m
    · have hpg : putG m l k = none := by unfold putG; rw [he, List.getElem?_eq_none (by simp; omega)]; rfl
      have hpr : putR m l k v = (k, v) :: l := by unfold putR; rw [he, List.take_of_length_le (by simp; omega)]
      rw [hpg, hpr]
      clear h hn hf he hpg hpr hnn hW5 e5 e6
      go_enter Try.func10, Try.ntmps10
      go_wp2_with fail
      refine HF.out.mono ?_
      rintro r w' ⟨rfl, rfl⟩
      go_upto_region 6 with fail
      rw [HW5.out]
      clear HW5 e1 e2 e3 e4
      go_wp2
      go_region
      go_wp2
      go_ret2
      exact ⟨rfl, HE.out.1.blk (Below.refl _ _).drew, HE.out.2.drew⟩
    · obtain rfl : n = m := by omega
      obtain ⟨l0, z, rfl⟩ : ∃ l0 z, l = l0 ++ [z] := ⟨_, _, (List.dropLast_concat_getLast (l := l) (by intro e; subst e; simp at hnn; omega)).symm⟩
      have hl0 : l0.length + 1 = n := by simpa using hnn
      have hpg : putG n (l0 ++ [z]) k = some z.1 := by
        unfold putG
        rw [he, ← hl0, List.getElem?_cons_succ, List.getElem?_append_right (Nat.le_refl _), Nat.sub_self]
        rfl
      have hpr : putR n (l0 ++ [z]) k v = (k, v) :: l0 := by
        unfold putR
        rw [he, ← List.cons_append]
        exact List.take_left' (by simp; exact hl0)
      rw [hpg, hpr]
      obtain ⟨q5, c5, g1, g2, _, hc5⟩ := e5.get
      obtain ⟨g, hq, hgW, hz, -⟩ := hc5 n (by simp; omega)
      have hq5 : W5.cell? ⟨X, 1, none⟩ = some (.slice q5 (((k, v) :: (l0 ++ [z])).length) c5) := by rw [cell_of_row _ _ _ _ _ _ g1]; rfl
      have hz' : ((k, v) :: (l0 ++ [z]))[n]'(by simp; omega) = z := by
        subst hl0
        simp
      rw [hz'] at hz
      rw [cl5] at hq5
      have hqq : qb = some ⟨g, 0, none⟩ ∧ cb = c5 := by
        simp only [Option.some.injEq, Value.slice.injEq] at hq5
        exact ⟨hq5.1.trans hq, hq5.2.2⟩
      obtain ⟨rfl, rfl⟩ := hqq
      have fX := frozen_of g1 1
      have hncap : n + 1 ≤ cb := by
        rcases g2.2 with ⟨e, _⟩ | ⟨g', cp', cur', e, _, _, r, _⟩
        · rw [hq] at e; cases e
        · cases e; simpa [hl0] using r
      have hcut := (e5.cut (q := some ⟨g, 0, none⟩) (cap := cb) (n := n) (by rw [cl5]; simp [hl0]) (by simp; omega)).resolve_right (by omega)
      rw [show ((k, v) :: (l0 ++ [z])).take n = (k, v) :: l0 by rw [← List.cons_append]; exact List.take_left' (by simp; exact hl0)] at hcut
      have HC := Hid.mk (And.intro hcut (Kp.set (S := fun b => b = X) (p := ⟨X, 1, none⟩) HE.out.2 (.inl rfl) (.slice (some ⟨g, 0, none⟩) n cb)))
      obtain ⟨zk, hzk⟩ : ∃ s, z.1 = s := ⟨_, rfl⟩
      rw [hzk] at hz ⊢
      have hz2 : W5.cell? ⟨g, n * 2, none⟩ = some (.string zk) := hz
      have hXg : ¬ X = g := fun e => by
        subst e
        obtain ⟨hl', h0 | ⟨g', cp', cur', hv', hb', hg', r'⟩⟩ := g2
        · rw [hq] at h0; cases h0.1
        · rw [hq] at hv'; cases hv'
          rw [hg'] at g1; cases g1
      have hroom2 : ¬ ((n : Int) + 1 ≤ (n : Int)) := by omega
      clear h hn hf he hpg hpr hnn hW5 e5 e6 g1 g2 hc5 hq5 hcut hz hz' hzk hq hl0
      go_enter Try.func10, Try.ntmps10
      go_wp2_with fail
      refine HF.out.mono ?_
      rintro r w' ⟨rfl, rfl⟩
      go_upto_region 6 with fail
      rw [HW5.out]
      clear HW5 e1 e2 e3 e4
      go_wp2
      go_region
      go_wp2
      go_region
      go_wp2
      go_region
      go_wp2
      go_ret2
      exact ⟨rfl, HC.out.1.blk ((Below.refl _ _).drew.drew.drew), HC.out.2.drew.drew.drew⟩

end Go.Proofs.Ytcebljcofkohiaa
