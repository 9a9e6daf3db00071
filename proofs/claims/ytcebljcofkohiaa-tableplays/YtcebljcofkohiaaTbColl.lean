/- Layer 11: the row's places collected. -/
import Derived.Test.YtcebljcofkohiaaTbKvOps
namespace Go.Proofs.Ytcebljcofkohiaa
set_option linter.unusedVariables false
open Go.RowKit Go.Shelf
open Go.MapKept Go.WideMaps
attribute [local go_sem] Oper.semAt_some

theorem infoP : (Try.prog.info? 52).map (fun i => (i.zero, i.size, i.bytes)) = some (some nilP, 1, 8) := by kernel_rfl
def pApp (a : Array Value) : Sem Value := Builtin.append_ #[73, 73] 73 a
theorem app_p (a : Array Value) : Builtin.append_ #[73, 73] 73 a = pApp a := rfl
attribute [local go_sem ↓] app_p
abbrev ptC (L : List Ent) : List Value := L.map fun e => pt e.b

/-- boxes of tables and rows of places stay. -/
def KT (W W' : World) : Prop := ∀ (b : Nat) (c : Array Value) (t : TypeId) (f : Nat × Nat), (t = 24 ∨ t = 52) → W.heap[b]? = some (.cells c t f) → W'.heap[b]? = some (.cells c t f)
theorem KT.refl (W : World) : KT W W := fun _ _ _ _ _ h => h
theorem KT.trans {A B C : World} (h : KT A B) (k : KT B C) : KT A C := fun b c t f ht hb => k b c t f ht (h b c t f ht hb)
theorem KT.frn {W W' : World} (h : Frn W W') : KT W W' := fun b c t f ht hb => h.same b c t f hb (by rcases ht with rfl | rfl <;> decide) (by rcases ht with rfl | rfl <;> decide)
theorem KT.box {W W' : World} (h : KT W W') {B : Nat} {t : TypeId} {v : Value} (hb : Boxed W B t v) (ht : t = 24 ∨ t = 52) : Boxed W' B t v := h B _ t _ ht hb
theorem KT.row {W W' : World} (h : KT W W') {base e size k : Nat} {v : Value} {xs : List Value} (hr : W.ownsRow base e size v k xs) (ht : e = 24 ∨ e = 52) : W'.ownsRow base e size v k xs := by
  obtain ⟨hl, h0 | ⟨g, cap, cur, hv, hb, hg, r⟩⟩ := hr
  · exact ⟨hl, .inl h0⟩
  · exact ⟨hl, .inr ⟨g, cap, cur, hv, hb, h g _ e _ ht hg, r⟩⟩

theorem app1' {W : World} {n₁ B : Nat} {t e : TypeId} {z v x : Value} {bytes k : Nat} {xs : List Value} (hv : Boxed W B t v) (hte : t ≠ e) (hrow : W.ownsRow n₁ e 1 v k xs) (hn : n₁ ≤ W.heap.size)
    (ht : Try.prog.underlying t = some (.slice e)) (hinfo : (Try.prog.info? e).map (fun i => (i.zero, i.size, i.bytes)) = some (some z, 1, bytes)) (hz : z.cells.size = 1) (hx : x.oneCell' = true) (hk : k ≤ 1000000) (hby : bytes ≤ 64) :
    ∃ g cap w1, (Builtin.append_ #[t, t] t #[v, .slice (some ⟨W.heap.size, 0, none⟩) 1 1]).run Try.prog (W.alloc (.cells #[x] e (0, 0))) = .ok (.slice (some ⟨g, 0, none⟩) (k + 1) cap) w1 ∧ App1 W w1 n₁ B t e v (.slice (some ⟨g, 0, none⟩) (k + 1) cap) k (xs ++ [x]) := by
  obtain ⟨i0, hi, hz0, hz1, hz2⟩ := info_parts hinfo
  have hm : (k + 1) * bytes ≤ 140737488355328 := by
    have : (k + 1) * bytes ≤ 1000001 * 64 := Nat.mul_le_mul (by omega) hby
    omega
  obtain ⟨v', w1, hrun, hown', hgrow, _⟩ := run_append_own (P := Try.prog) (W.alloc (.cells #[x] e (0, 0))) n₁ t t e i0 z 1 bytes ht hi hz0 hz1 hz2 hz (by decide) v k xs (hrow.alloc _) ⟨W.heap.size, 0, none⟩ 1 1 [x] rfl (cell_one_new _ _ _) (by simp [hx]) (by unfold maxLen; omega) hm (by simp; omega)
  obtain ⟨g, cap, rfl⟩ := ownsRow_succ hown'
  have hv1 : Boxed w1 B t v := (hv.alloc _).kept hgrow (hv.not_row hte hrow)
  refine ⟨g, cap, w1, hrun, hv1, hv1.set _, hown'.kept (grownBy_setCell' w1 B _) (.inr (hv1.not_row hte hown').symm), ?_, ?_, hgrow.os, hgrow.tape, hgrow.output, ?_⟩
  · refine ((KeepsOthers.alloc W _).trans (KeepsOthers.of_grownBy hgrow fun j o ej hj => ?_)).trans (KeepsOthers.setCell _ _ _)
    rcases (hrow.alloc (.cells #[x] e (0, 0))).2 with ⟨rfl, _⟩ | ⟨g, cap, cur, rfl, _, hgb, _⟩
    · simp [Value.ownBlock] at ej
    · obtain rfl : g = j := by simpa [Value.ownBlock] using ej
      rw [hgb] at hj; cases hj; rfl
  · intro b hb hB ho
    rw [Below.heap_setCell _ _ _ _ hB, hgrow.block b (by simp; omega) ho, Below.heap_alloc _ _ _ hb]
  · have := hgrow.size
    simp [World.setCell] at this ⊢
    omega

set_option maxRecDepth 100000 in
set_option maxHeartbeats 1000000 in
theorem appendSeq_in {w : World} {T E M : Nat} {most : Int} {nn : Nat} {L : List Ent} (h : Tab w T E M most nn L) (Bn : Nat) (hBn : w.heap[Bn]? = some (.cells #[.pointer (some ⟨T, 1, none⟩)] 76 (0, 0))) :
    Calls Try.prog 39 #[.slice none 0 0, .func (.func 38) #[] #[pt Bn]] w fun e w' => (∃ v, e = .returned v ∧ w'.ownsRow w.heap.size 52 1 v L.length (ptC L)) ∧ Below w.heap.size w w' := by
  have hlen := h.len
  refine (callsIn_wide (n := 5)).1 ?_
  refine callsIn_of_wp_marks Try.func39 rfl trivial ?_ rfl
  simp only [Try.ntmps39, List.size_toArray, List.length_cons, List.length_nil, Nat.reduceAdd, Nat.reduceSub, Array.replicate_succ, Array.replicate_zero, List.push_toArray, List.append_toArray, List.nil_append, List.cons_append]
  gi_wp2
  obtain ⟨w2, hw2⟩ : ∃ w2, w.alloc (Obj.cells #[Value.slice none 0 0] 73) = w2 := ⟨_, rfl⟩
  have hb2 : Below w.heap.size w w2 := by rw [← hw2]; exact (Below.refl _ _).alloc (Nat.le_refl _) _
  have hs2 : w2.heap.size = w.heap.size + 1 := by rw [← hw2]; simp
  have hv2 : Boxed w2 w.heap.size 73 (.slice none 0 0) := by rw [← hw2]; exact Boxed.new _ _ _
  have hlb : Bn < w.heap.size := blk_lt hBn
  have h2 : Tab w2 T E M most nn L := h.blk hb2
  have hn2 : w2.heap[Bn]? = some (.cells #[.pointer (some ⟨T, 1, none⟩)] 76 (0, 0)) := (hb2.block _ hlb).trans hBn
  rw [hw2]
  refine wpIn_rangeFunc_ownF rfl (by omega) (gf := 38) (lb := #[pt Bn]) rfl trivial (enters_of Try.func38 (by kernel_rfl) rfl)
    (all1_stops Fence.wide (5 - 1) trivial rfl (by omega) h2 Bn hn2 (fun b => b < w.heap.size) (fun b hb => by
      rcases hb with hb | hb | hb
      · rw [hb]; exact hlb
      · rw [hb]; exact blk_lt h.tb
      · exact (h.row.plc b hb).lt)) KeepB.t KeepB.b (Below.refl _ _) (fun _ => rfl)
    (fun (pre : List (Fin L.length)) W => (∃ v, Boxed W w.heap.size 73 v ∧ W.ownsRow (w.heap.size + 1) 52 1 v pre.length (pre.map fun i => pt (atR E L i.1)) ∧ True) ∧ (w.heap.size + 1 ≤ W.heap.size ∧ Below w.heap.size w W))
    (fun c pre W => False)
    ?hI ?hIx ?h0 (fun x => { tmps := #[.slice none 0 0, .func (.func 38) #[] #[pt Bn], .pointer (some ⟨w.heap.size, 0, none⟩), undef, .slice none 0 0, pt (atR E L x.1), .func (.func 38) #[] #[pt Bn], pt (atR E L x.1), undef, undef, undef, undef, undef], defers := [] }) ?assign ?body ?done ?stop
  case hI =>
    refine OwnFrom.and (Own.from (holdsRow_own (w.heap.size + 1) w.heap.size 73 52 1 (fun pre : List (Fin L.length) => pre.length) (fun pre => pre.map fun i => pt (atR E L i.1)) (fun _ _ => True)) _) (OwnFrom.and ?_ (ownFrom_below (Nat.le_refl _) (by omega)))
    intro s A B row hs hg hr
    exact Nat.le_trans hs hg.size
  case hIx => exact fun c => ownFrom_pure _ _
  case h0 => exact ⟨⟨_, hv2, World.ownsRow_nil .., trivial⟩, by omega, hb2⟩
  case assign =>
    intro l x W K hK
    gi_wp2
    exact hK
  case body =>
    rintro l pre x W ⟨⟨v, hv, hrow, -⟩, hs, hb⟩ hpl
    obtain ⟨q0, cap0, rfl⟩ := row_shape hrow
    have cv := hv.cell
    have fv := hv.frozen
    obtain ⟨g, cap, w3, hap, A⟩ := app1' (x := pt (atR E L x.1)) hv (by decide) hrow (by omega) Try.underlying73 infoP rfl rfl (by omega) (by decide)
    rw [app_p] at hap
    have cv3 := A.box.cell
    have fv3 := A.box.frozen
    have HA := Hid.mk A
    have HR := Hid.mk hrow
    have hl1 : w.heap.size < W.heap.size := by omega
    have hl2 : ¬ w.heap.size = W.heap.size := by omega
    clear A hrow hs2 hw2
    gi_wp2
    have A := HA.out
    refine ⟨A.others, ?_, ⟨_, A.box', ?_, trivial⟩, ?_, ?_⟩
    · intro b c t f hS hbc
      exact ((A.below HR.out (Nat.le_succ _) (Nat.le_refl _) (by omega)).block b hS).trans hbc
    · have := A.row
      rw [List.length_append, List.map_append]
      exact this
    · exact Nat.le_trans hs A.size
    · exact hb.trans (A.below HR.out (Nat.le_succ _) (Nat.le_refl _) (by omega))
  case done =>
    rintro D ys W hD rfl ⟨⟨v, hv, hrow, -⟩, hs, hb⟩ hK
    have hc := hv.cell
    have hks : ((List.finRange L.length).map fun i => pt (atR E L i.1)) = ptC L := by
      apply List.ext_getElem
      · simp
      · intro i h1 h2
        simp only [List.getElem_map, List.getElem_finRange]
        rw [atR_get E L _ (by simpa using h2)]
        simp
    have hwD : w.heap.size ≤ D := by omega
    clear hs2 hw2
    gi_wp2
    refine ⟨by simp, .inl ⟨_, _, rfl, run_takeDeferred hK, ?_⟩⟩
    refine ⟨_, results_tmp rfl _ _ _, ⟨v, rfl, ?_⟩, hb.trans (belowK_b (w := w) (Nat.le_refl _) W D _ _ hwD hK rfl rfl)⟩
    rw [hks, List.length_finRange] at hrow
    obtain ⟨r1, r2⟩ := ownsRow_putObj hrow (.deferred none) hK rfl
    refine ⟨r1, r2.imp id ?_⟩
    rintro ⟨g, cap, cur, hv, hb, r⟩
    exact ⟨g, cap, cur, hv, by omega, r⟩
  case stop =>
    rintro D c pre W _ _ h _
    exact h.elim

theorem collect_in {w : World} {T E M : Nat} {most : Int} {nn : Nat} {L : List Ent} (h : Tab w T E M most nn L) (Bn : Nat) (hBn : w.heap[Bn]? = some (.cells #[.pointer (some ⟨T, 1, none⟩)] 76 (0, 0))) :
    Calls Try.prog 33 #[.func (.func 38) #[] #[pt Bn]] w fun e w' => (∃ v, e = .returned v ∧ w'.ownsRow w.heap.size 52 1 v L.length (ptC L)) ∧ Below w.heap.size w w' := by
  have HA := Hid.mk (appendSeq_in h Bn hBn)
  clear h hBn
  go_enter Try.func33, Try.ntmps33
  go_wp2_with fail
  refine HA.out.mono ?_
  rintro e w' ⟨⟨v, rfl, hr⟩, hb⟩
  have HR := Hid.mk hr
  obtain ⟨q, cap, rfl⟩ := row_shape hr
  clear hr
  go_wp2
  go_ret
  exact ⟨⟨_, rfl, HR.out⟩, hb⟩

theorem Links.back {w : World} : ∀ (a : Nat) (r : List Nat) (b : Nat), b ∈ r → Links w (a :: r) → ∃ c, w.cell? ⟨b, 2, none⟩ = some (pt c)
  | a, x :: r, b, hb, hl => by
    rcases List.mem_cons.1 hb with rfl | hb
    · exact ⟨a, hl.2.1⟩
    · exact Links.back x r b hb hl.2.2
theorem Row.newer {w : World} {E : Nat} {L : List Ent} (h : Row w E L) {e : Ent} (he : e ∈ L) : ∃ c, w.cell? ⟨e.b, 2, none⟩ = some (pt c) :=
  Links.back E (bs L ++ [E]) e.b (by simp [bs]; exact .inl ⟨e, he, rfl⟩) h.links
theorem now_live {w : World} {T E M : Nat} {most : Int} {nn : Nat} {L : List Ent} (h : Tab w T E M most nn L) {e : Ent} (he : e ∈ L) :
    Calls Try.prog 34 #[pt T, pt e.b] w fun r w' => r = .returned (pt e.b) ∧ w' = w := by
  obtain ⟨c, hc⟩ := h.row.newer he
  have HS := Hid.mk (stands_in w e.b _ hc)
  clear h hc
  go_enter Try.func34, Try.ntmps34
  go_wp2_with fail
  refine HS.out.mono ?_
  rintro r w' ⟨rfl, rfl⟩
  simp only [Option.isSome_some]
  go_wp2
  go_ret
  exact ⟨rfl, rfl⟩
theorem now_dead {w : World} {T E M : Nat} {most : Int} {nn : Nat} {L : List Ent} (h : Tab w T E M most nn L) {b : Nat} {k : ByteArray} (h2 : w.cell? ⟨b, 2, none⟩ = some nilP) (h0 : w.cell? ⟨b, 0, none⟩ = some (.string k)) (hk : ∀ e ∈ L, e.k ≠ k) (hs : k.size ≤ maxLen) :
    Calls Try.prog 34 #[pt T, pt b] w fun r w' => r = .returned nilP ∧ w' = w.drew := by
  have HS := Hid.mk (stands_in w b _ h2)
  have hl := h.drew.mp.miss hk hs
  have c3 := h.c3
  clear h h2 hk
  go_enter Try.func34, Try.ntmps34
  go_wp2_with fail
  refine HS.out.mono ?_
  rintro r w' ⟨rfl, rfl⟩
  simp only [Option.isSome_none]
  go_wp2
  go_region
  go_wp2
  go_ret
  exact ⟨rfl, rfl⟩

end Go.Proofs.Ytcebljcofkohiaa
