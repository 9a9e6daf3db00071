/- Layer 11: the document's Get; a round of keys. -/
import Derived.Test.YtcebljcofkohiaaTbRef2
namespace Go.Proofs.Ytcebljcofkohiaa
set_option linter.unusedVariables false
open Go.RowKit

theorem put_same {m : Nat} {l : KV} {k : ByteArray} {v : Int} (hn : (l.map Prod.fst).Nodup) (hl : l.length ≤ m) (h : getR l k = some v) : putR m l k v = (k, v) :: without l k := by
  cases hf : fidx l k with
  | none => rw [(fidx_none hf).2] at h; cases h
  | some i =>
    obtain ⟨hi, _, he, _⟩ := fidx_some hf hn
    have hlen1 : (without l k).length + 1 = l.length := by rw [← he, List.length_eraseIdx, if_pos hi]; omega
    unfold putR
    rw [List.take_of_length_le (by simp; omega)]

theorem rget_in {W : World} {B X m : Nat} {l : KV} (h : RefAt W B X (m : Int) l) (hn : (l.map Prod.fst).Nodup) (hB : B ≤ W.heap.size) (hm1 : 1 ≤ m) (hm : m ≤ 100000) (hl : l.length ≤ m) (k : ByteArray) :
    Calls Try.prog 12 #[pt X, .string k] W fun e w' => e = .returned (.tuple #[.int .i64 ((getR l k).getD 0), .bool (getR l k).isSome]) ∧ RefAt w' B X (m : Int) (match getR l k with | some v => (k, v) :: without l k | none => l) ∧ Kp (fun b => b = X) W w' := by
  have HF := Hid.mk (rfind_in h k)
  cases hf : fidx l k with
  | none =>
    rw [(fidx_none hf).2]
    rw [show fidxV l k = -1 by unfold fidxV; rw [hf]] at HF
    have HH := Hid.mk h
    clear h hn hf
    go_enter Try.func12, Try.ntmps12
    go_wp2_with fail
    refine HF.out.mono ?_
    rintro r w' ⟨rfl, rfl⟩
    go_wp2
    go_ret2
    exact ⟨rfl, HH.out, Kp.refl _ _⟩
  | some i =>
    obtain ⟨hi, _, _, hg⟩ := fidx_some hf hn
    rw [hg]
    rw [show fidxV l k = (i : Int) by unfold fidxV; rw [hf]] at HF
    have hps := put_same hn hl hg
    have HPut := Hid.mk (rput_in h hn hB hm1 hm hl k l[i].2)
    rw [hps] at HPut
    obtain ⟨q, cap, h1, h2, hlc, hc⟩ := h.get
    have cL : W.cell? ⟨X, 1, none⟩ = some (.slice q l.length cap) := by rw [cell_of_row _ _ _ _ _ _ h1]; rfl
    obtain ⟨g, rfl, _, _, hcv⟩ := hc i hi
    obtain ⟨v, hv⟩ : ∃ v, l[i].2 = v := ⟨_, rfl⟩
    rw [hv] at hcv HPut ⊢
    have hlen := h.len
    obtain ⟨n, hnn⟩ : ∃ n, l.length = n := ⟨_, rfl⟩
    have hin : i < n := by omega
    rw [hnn] at cL hlen hlc
    clear h hn hf hc h1 h2 hv hg hnn hps
    go_enter Try.func12, Try.ntmps12
    go_wp2_with fail
    refine HF.out.mono ?_
    rintro r w' ⟨rfl, rfl⟩
    go_wp2_with fail
    refine HPut.out.mono ?_
    rintro r w2 ⟨rfl, h2, k2⟩
    have HE := Hid.mk (And.intro h2 k2)
    clear h2 k2
    go_wp2
    go_ret2
    exact ⟨rfl, HE.out.1, HE.out.2⟩

/-- a round of keys: what is told is the document's. -/
structure KsS (W : World) (B X bG bI bX : Nat) (m : Int) (l : KV) (i : Nat) : Prop where
  ref : RefAt W B X m l
  xG : Boxed W bG 4 (.bool true)
  xI : Boxed W bI 3 (.int .i64 (i : Int))
  xX : Boxed W bX 28 (pt X)
  ne : bG ≠ bI ∧ bG ≠ bX ∧ bI ≠ bX ∧ B ≤ W.heap.size
theorem minI (a b : Int) (h : a ≤ b) (w : World) : (Builtin.min_ #[3, 3] 3 #[.int .i64 a, .int .i64 b]).run Try.prog w = .ok (.int .i64 a) w := by
  simp [Builtin.min_, Builtin.min2, show ¬ b < a by omega]

set_option maxRecDepth 100000 in
set_option maxHeartbeats 4000000 in
theorem keys1_in {W : World} {B X bG bI bX : Nat} {m : Int} {l : KV} {i : Nat} (h : KsS W B X bG bI bX m l i) (hi : i < l.length) :
    Calls Try.prog 30 #[.string l[i].1, .int .i64 l[i].2, pt bG, pt bI, pt bX] W fun r W' => r = .returned (.bool true) ∧ KsS W' B X bG bI bX m l (i + 1) ∧ Kp (fun b => b = bG ∨ b = bI) W W' := by
  obtain ⟨q, cap, h1, h2, hlc, hc⟩ := h.ref.get
  have cL : W.cell? ⟨X, 1, none⟩ = some (.slice q l.length cap) := by rw [cell_of_row _ _ _ _ _ _ h1]; rfl
  obtain ⟨g, rfl, hgW, hck, hcv⟩ := hc i hi
  obtain ⟨k, hk⟩ : ∃ k, l[i].1 = k := ⟨_, rfl⟩
  obtain ⟨v, hv⟩ : ∃ v, l[i].2 = v := ⟨_, rfl⟩
  rw [hk] at hck ⊢
  rw [hv] at hcv ⊢
  have hlen := h.ref.len
  have cG := h.xG.cell
  have cI := h.xI.cell
  have cX := h.xX.cell
  have fG := h.xG.frozen
  have fI := h.xI.frozen
  obtain ⟨n, hn⟩ : ∃ n, l.length = n := ⟨_, rfl⟩
  have hin : i < n := by omega
  rw [hn] at cL hlen hlc
  have HH := Hid.mk h
  have hib : ((i : Int) < (n : Int)) := by omega
  have hne1 : ¬ bG = bI := h.ne.1
  have hne2 : ¬ bI = bG := fun e => h.ne.1 e.symm
  have hmin := fun w => minI (i : Int) ((n : Int) - 1) (by omega) w
  clear h h1 h2 hc hk hv hn
  go_enter Try.func30, Try.ntmps30
  go_wp2
  go_region
  go_wp2
  go_ret
  have h := HH.out
  have hk : Kp (fun b => b = bG ∨ b = bI) W ((W.setCell ⟨bG, 0, none⟩ (.bool true)).setCell ⟨bI, 0, none⟩ (.int .i64 ((i : Int) + 1))).drew :=
    (Kp.set (p := ⟨bI, 0, none⟩) (Kp.set (S := fun b => b = bG ∨ b = bI) (p := ⟨bG, 0, none⟩) (Kp.refl _ W) (.inl (.inl rfl)) _) (.inl (.inr rfl)) _).drew
  have sm : ∀ {b : Nat} {c : Array Value} {t : TypeId} {f : Nat × Nat}, W.heap[b]? = some (.cells c t f) → t ≠ 4 → t ≠ 3 → ((W.setCell ⟨bG, 0, none⟩ (.bool true)).setCell ⟨bI, 0, none⟩ (.int .i64 ((i : Int) + 1))).drew.heap[b]? = some (.cells c t f) := fun {b c t f} hb n1 n2 => (hk.same b (blk_lt hb) (by
    rintro (rfl | rfl)
    · rw [show W.heap[b]? = _ from h.xG] at hb; cases hb; exact n1 rfl
    · rw [show W.heap[b]? = _ from h.xI] at hb; cases hb; exact n2 rfl)).trans hb
  refine ⟨rfl, ⟨?_, ?_, ?_, sm h.xX (by decide) (by decide), ⟨h.ne.1, h.ne.2.1, h.ne.2.2.1, Nat.le_trans h.ne.2.2.2 hk.size⟩⟩, hk⟩
  · obtain ⟨vv, r1, r2⟩ := h.ref.tab
    refine ⟨⟨vv, sm r1 (by decide) (by decide), ?_⟩, h.ref.len⟩
    obtain ⟨hl', h0 | ⟨g', cp, cur, hv', hb', hg', r⟩⟩ := r2
    · exact ⟨hl', .inl h0⟩
    · exact ⟨hl', .inr ⟨g', cp, cur, hv', hb', sm hg' (by decide) (by decide), r⟩⟩
  · exact (Boxed.set (.bool true) h.xG).other h.ne.1 _
  · exact Boxed.set (.int .i64 ((i : Int) + 1)) (h.xI.other (fun e => h.ne.1 e.symm) _)

end Go.Proofs.Ytcebljcofkohiaa
