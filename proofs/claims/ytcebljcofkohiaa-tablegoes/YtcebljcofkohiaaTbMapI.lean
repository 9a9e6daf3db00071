/- Layer 11: a map of counts of one's own. -/
import Derived.Test.YtcebljcofkohiaaTbColl
namespace Go.Proofs.Ytcebljcofkohiaa
set_option linter.unusedVariables false
open Go.RowKit
open Go.MapKept Go.WideMaps

def MapI (w : World) (M n : Nat) (f : ByteArray → Int) : Prop :=
  ∃ D : DataW Unit, w.ownsMap Try.prog 9 (plainElem Try.prog 3) M n D ∧ ∀ k, D.atKey (kl k) (.lit (.int .i64 0)) = .lit (.int .i64 (f k))
theorem zeroI (w : World) : (zeroValue 3).run Try.prog w = .ok (.int .i64 0) w := by kernel_rfl
theorem MapI.made (w : World) : MapI (w.alloc (.map #[] 0)) w.heap.size 0 (fun _ => 0) := ⟨_, World.ownsMap_made w Try.prog 9 _, fun _ => rfl⟩
theorem MapI.same {w w' : World} {M n : Nat} {f : ByteArray → Int} (h : MapI w M n f) (e : w'.heap[M]? = w.heap[M]?) : MapI w' M n f := by
  obtain ⟨D, ⟨es, clock, hb, r⟩, h⟩ := h
  exact ⟨D, ⟨es, clock, e.trans hb, r⟩, h⟩
theorem MapI.look {w : World} {M n : Nat} {f : ByteArray → Int} (h : MapI w M n f) (k : ByteArray) (hs : k.size ≤ maxLen) :
    (Instr.lookup 50 (.map (some M)) (.string k) false).run Try.prog w = .ok (.int .i64 (f k)) w := by
  obtain ⟨D, hD, h1⟩ := h
  obtain ⟨c, hr, hc, _⟩ := hD.lookup_int keyed Try.underlying50 Try.underlying3 (zeroI _) (keyOf_string_mk Try.underlying9 hs)
  have : DataW.lit (H := Unit) (.int .i64 (f k)) = .lit (.int .i64 c) := (h1 k).symm.trans hc
  have e : f k = c := by simpa using this
  rw [hr, e]
theorem MapI.put {w : World} {M n : Nat} {f : ByteArray → Int} (h : MapI w M n f) (k : ByteArray) (v : Int) (hs : k.size ≤ maxLen) (hn : n < maxLen) (hv : (Lit.int .i64 v).wf = true) :
    ∃ w', (Instr.mapUpdate 50 (.map (some M)) (.string k) (.int .i64 v)).run Try.prog w = .ok () w' ∧ MapI w' M (n + 1) (fun x => if x = k then v else f x) ∧ w.mapTurned w' M := by
  obtain ⟨D, hD, h1⟩ := h
  obtain ⟨w', hr, hD', ht⟩ := hD.store keyed Try.underlying50 hn (keyOf_string_mk Try.underlying9 hs) (val := .int .i64 v) (d := .lit (.int .i64 v)) (ps := []) (plainElem_int Try.underlying3 hv)
  refine ⟨w', hr, ⟨_, hD', fun x => ?_⟩, ht⟩
  by_cases e : x = k
  · subst e
    show _ = DataW.lit (Lit.int .i64 (if x = x then v else f x))
    rw [if_pos rfl]
    exact Go.Maps.atKey_put_same (k := kl _) hD.isMap trivial _ _
  · show _ = DataW.lit (Lit.int .i64 (if x = k then v else f x))
    rw [if_neg e, Go.Maps.atKey_put_other (fun e' => e (kl_inj e'))]
    exact h1 x
/-- how often a key stands in a list. -/
def cntB (l : List ByteArray) (k : ByteArray) : Nat := (l.filter fun x => decide (x = k)).length
theorem cnt_snoc (l : List ByteArray) (d k : ByteArray) : cntB (l ++ [d]) k = if k = d then cntB l d + 1 else cntB l k := by
  unfold cntB
  rw [List.filter_append, List.length_append]
  by_cases e : k = d
  · subst e; simp
  · have : ¬ d = k := fun x => e x.symm
    simp [e, this]
theorem cnt_pos {l : List ByteArray} {k : ByteArray} : 0 < cntB l k ↔ k ∈ l := by
  unfold cntB
  rw [List.length_pos_iff_exists_mem]
  simp
theorem cnt_le (l : List ByteArray) (k : ByteArray) : cntB l k ≤ l.length := List.length_filter_le _ _

end Go.Proofs.Ytcebljcofkohiaa
