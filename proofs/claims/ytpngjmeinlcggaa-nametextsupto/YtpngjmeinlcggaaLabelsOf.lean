/- labelsOf: the labels of a name, in a new array. -/
import Derived.Maps.AppendAt
import Derived.Lib.Buffer
import Derived.Test.YtpngjmeinlcggaaRight
namespace Go.Proofs.Ytpngjmeinlcggaa
set_option linter.unusedVariables false
open Go.RowKit Go.Shelf
attribute [local go_sem] Oper.semAt_some

theorem info9 : (Try.prog.info? 9).map (fun i => (i.zero, i.size, i.bytes)) = some (some (.string ⟨#[]⟩), 1, 16) := by kernel_rfl

def strV (l : List UInt8) : Value := .string ⟨l.toArray⟩
def strsV (ls : List (List UInt8)) : List Value := ls.map strV
theorem strV_of (s : ByteArray) : strV s.data.toList = .string s := rfl

theorem add_at' (b j : Nat) : (⟨b, 0, none⟩ : Addr).add j = ⟨b, j, none⟩ := by
  unfold Addr.add
  by_cases h : j = 0
  · subst h; rfl
  · simp [h]

/-- v is a slice of the strings ls, its array below n₀. -/
def Strs (n₀ : Nat) (W : World) (v : Value) (ls : List (List UInt8)) : Prop :=
  (v = .slice none 0 0 ∧ ls = []) ∨ ∃ g cap, v = .slice (some ⟨g, 0, none⟩) ls.length cap ∧ g < n₀ ∧ ∀ j (h : j < ls.length), W.cell? ⟨g, j, none⟩ = some (strV ls[j])
theorem Strs.below {n₀ : Nat} {W W' : World} {v : Value} {ls : List (List UInt8)} (h : Strs n₀ W v ls) (hb : Below n₀ W W') : Strs n₀ W' v ls := by
  rcases h with h | ⟨g, cap, hv, hg, hc⟩
  · exact .inl h
  · exact .inr ⟨g, cap, hv, hg, fun j hj => (hb.cell (p := ⟨g, j, none⟩) hg).trans (hc j hj)⟩
theorem Strs.mono {n₀ n₁ : Nat} {W : World} {v : Value} {ls : List (List UInt8)} (h : Strs n₀ W v ls) (hb : n₀ ≤ n₁) : Strs n₁ W v ls := by
  rcases h with h | ⟨g, cap, hv, hg, hc⟩
  · exact .inl h
  · exact .inr ⟨g, cap, hv, by omega, hc⟩
theorem strs_of_row {n : Nat} {W : World} {e : TypeId} {v : Value} {ls : List (List UInt8)} (h : W.ownsRow n e 1 v ls.length (strsV ls)) : Strs W.heap.size W v ls := by
  rcases h.2 with ⟨hv, hl⟩ | ⟨g, cap, cur, hv, hb, hgb, hrest⟩
  · exact .inl ⟨hv, List.eq_nil_of_length_eq_zero hl⟩
  · refine .inr ⟨g, cap, hv, (Array.getElem?_eq_some_iff.1 hgb).1, fun j hj => ?_⟩
    have := Lib.cells_of_row hgb ls.length j (strV ls[j]) (by have h4 := hrest.2.2.2; rw [Nat.mul_one] at h4; rw [h4]; simp [strsV, hj])
    rwa [add_at'] at this

/-- behind an append into a variable of its own: all that the walk owes; the row lies from n₁ on. -/
theorem appended2 {W w1 : World} {n₁ B : Nat} {t e : TypeId} {size : Nat} {v v' : Value} {k m : Nat} {xs ys : List Value} {tmp : Obj}
    (hv : Boxed W B t v) (hte : t ≠ e) (hrow : W.ownsRow n₁ e size v k xs) (hn₁ : n₁ ≤ W.heap.size)
    (hown' : w1.ownsRow n₁ e size v' m ys) (hgrow : (W.alloc tmp).grownBy w1 v.ownBlock) :
    Boxed w1 B t v ∧ Boxed (w1.setCell ⟨B, 0, none⟩ v') B t v' ∧ (w1.setCell ⟨B, 0, none⟩ v').ownsRow n₁ e size v' m ys ∧ KeepsOthers W (w1.setCell ⟨B, 0, none⟩ v') ∧
      (∀ N, N ≤ n₁ → Below N W w1) := by
  have hv1 : Boxed w1 B t v := (hv.alloc tmp).kept hgrow (hv.not_row hte hrow)
  refine ⟨hv1, hv1.set v', hown'.kept (grownBy_setCell' w1 B v') (.inr (hv1.not_row hte hown').symm), ?_, ?_⟩
  · refine ((KeepsOthers.alloc W tmp).trans (KeepsOthers.of_grownBy hgrow fun j o ej hj => ?_)).trans (KeepsOthers.setCell _ _ _)
    rcases (hrow.alloc tmp).2 with ⟨rfl, _⟩ | ⟨g, cap, cur, rfl, _, hgb, _⟩
    · simp [Value.ownBlock] at ej
    · obtain rfl : g = j := by simpa [Value.ownBlock] using ej
      rw [hgb] at hj; cases hj; rfl
  · intro N hN
    refine ((Below.refl N W).alloc (by omega) tmp).grown hgrow (by simp; omega) fun j ej => ?_
    rcases hrow.2 with ⟨rfl, _⟩ | ⟨g, cap, cur, rfl, hb, _, _⟩
    · simp [Value.ownBlock] at ej
    · obtain rfl : g = j := by simpa [Value.ownBlock] using ej
      omega

set_option maxRecDepth 100000 in
set_option maxHeartbeats 1000000 in
theorem labelsOf_in (ls : List (List UInt8)) (ho : OkN ls) (w : World) :
    Calls Try.prog 41 #[.string (nm ls)] w fun e w' => (∃ v, e = .returned v ∧ Strs w'.heap.size w' v ls) ∧ Below w.heap.size w w' := by
  have hsz : (nm ls).size ≤ 255 := by rw [nm_size]; have := ho.len; omega
  obtain ⟨i0, hi, hz0, hz1, hz2⟩ := info_parts info9
  refine (callsIn_wide (n := 5)).1 ?_
  refine callsIn_of_wp_marks Try.func41 rfl trivial ?_ rfl
  simp only [Try.ntmps41, List.size_toArray, List.length_cons, List.length_nil, Nat.reduceAdd, Nat.reduceSub, Array.replicate_succ, Array.replicate_zero, List.push_toArray, List.append_toArray, List.nil_append, List.cons_append]
  gi_wp2_with (refine ⟨trivial, ?_⟩; gi_at_call 43; refine (callsIn_wide.2 (eachLabel_in _ _)).mono ?_; rintro e w' ⟨rfl, rfl⟩)
  have hs : ((w.alloc (.cells #[.slice none 0 0] 22)).alloc (.cells #[.string (nm ls)] 9)).cell? ⟨w.heap.size + 1, 0, none⟩ = some (.string (nm ls)) := by
    have := (Boxed.new (w.alloc (.cells #[.slice none 0 0] 22)) 9 (.string (nm ls))).cell
    rwa [World.size_alloc] at this
  refine wpIn_rangeFunc_ownF rfl (by omega) (gf := 62) (lb := #[.pointer (some ⟨w.heap.size + 1, 0, none⟩)]) rfl trivial (enters_of Try.func62 (by kernel_rfl) rfl)
    (eachLabel_stops Fence.wide (5 - 1) trivial rfl (by omega) (w.heap.size + 1) (nm ls) hsz _ (by simp) hs) KeepCell.t KeepCell.b (Below.refl _ _) (fun _ => rfl)
    (fun pre W => (∃ v, Boxed W w.heap.size 22 v ∧ W.ownsRow (w.heap.size + 2) 9 1 v (labs pre).length (strsV (labs pre)) ∧ True) ∧ (w.heap.size + 2 ≤ W.heap.size ∧ Below w.heap.size w W))
    (fun c pre W => False)
    ?hI ?hIx ?h0 (fun x => { tmps := #[.string (nm ls), undef, .slice none 0 0, .pointer (some ⟨w.heap.size, 0, none⟩), undef, .string x.1.2, .string (nm ls), .func (.func 62) #[] #[.pointer (some ⟨w.heap.size + 1, 0, none⟩)], .int .i64 (x.1.1 : Int), .string x.1.2, undef, undef, undef, undef, undef], defers := [] }) ?assign ?body ?done ?stop
  case hI =>
    refine OwnFrom.and (Own.from (holdsRow_own (w.heap.size + 2) w.heap.size 22 9 1 (fun pre => (labs pre).length) (fun pre => strsV (labs pre)) (fun _ _ => True)) _) (OwnFrom.and ?_ (ownFrom_below (Nat.le_refl _) (by simp; omega)))
    intro s A B row hs hg hr
    exact Nat.le_trans hs hg.size
  case hIx => exact fun c => ownFrom_pure _ _
  case h0 =>
    exact ⟨⟨.slice none 0 0, (Boxed.new _ _ _).alloc _, World.ownsRow_nil .., trivial⟩, by simp, ((Below.refl _ _).alloc (Nat.le_refl _) _).alloc (by simp) _⟩
  case assign =>
    intro l x W K hK
    gi_wp2
    exact hK
  case body =>
    rintro l pre x W ⟨⟨v, hv, hrow, -⟩, hle, hB⟩ hpl
    have hx1 := x.2.1
    have hx2 := x.2.2
    have hc := hv.cell
    gi_wp2_with (gi_at_builtin; refine wpListIn_append_own _ rfl _ _ 22 rfl (w.heap.size + 2) 9 i0 (.string ⟨#[]⟩) 1 16 Try.underlying22 hi hz0 hz1 hz2 rfl (by decide) _ _ _ rfl (hrow.alloc _) ⟨W.heap.size, 0, none⟩ 1 1 [.string x.1.2] rfl rfl (cell_one_new _ _ _) (by simp [Value.oneCell']) (by simp [labs]; unfold maxLen; omega) (by simp [labs]; omega) (by simp; omega) ?_; intro v' w1 hown' hgrow _; obtain ⟨g', cap', rfl⟩ := ownsRow_succ hown'; obtain ⟨hv1, hv2, hr2, hk2, hb2⟩ := appended2 hv (by decide) hrow (by omega) hown' hgrow; have hc1 := hv1.cell; have hf1 := hv1.frozen)
    refine ⟨hk2, KeepCell.t (KeepCell.below (hb2 (w.heap.size + 2) (Nat.le_refl _)) (by omega)) (KeepCell.setCell _ _ (by omega)), ⟨_, hv2, ?_, trivial⟩, ?_, ?_⟩
    · rw [labs_snoc, List.length_append]
      simpa [strsV, strV_of] using hr2
    · have := (hb2 0 (Nat.zero_le _)).size; simp; omega
    · exact hB.trans ((hb2 w.heap.size (by omega)).setCell (p := ⟨w.heap.size, 0, none⟩) (Nat.le_refl _) _)
  case done =>
    rintro D ys W hD ⟨hsq, hpl, hen⟩ ⟨⟨v, hv, hrow, -⟩, hle, hB⟩ hK
    have hc := hv.cell
    have hys : labs ys = ls := hsq.all_name ho hen
    gi_wp2
    refine ⟨by simp, .inl ⟨_, _, rfl, run_takeDeferred hK, ?_⟩⟩
    refine ⟨_, results_tmp rfl _ _ _, ⟨v, rfl, ?_⟩, hB.trans (belowK_b (w := w) (Nat.le_refl _) W D _ _ (by simp at hD; omega) hK rfl rfl)⟩
    rw [hys] at hrow
    exact strs_of_row (ownsRow_putObj hrow _ hK rfl)
  case stop =>
    rintro D c pre W _ _ h _
    exact h.elim
end Go.Proofs.Ytpngjmeinlcggaa
