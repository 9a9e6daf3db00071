/- withoutFirst, Parent, Common, Child, Moved. -/
import Derived.Test.YtpngjmeinlcggaaUnder
import Derived.Test.YtpngjmeinlcggaaClone
namespace Go.Proofs.Ytpngjmeinlcggaa
set_option linter.unusedVariables false
open Go.RowKit Go.Shelf
attribute [local go_sem] Oper.semAt_some

theorem flat_drop_nm (p q : List (List UInt8)) : (nm (p ++ q)).extract (flat p).length (nm (p ++ q)).size = nm q := by
  apply ba_ext
  rw [Lib.extract_data, nm_list, nm_list, nmL, flat_append, List.append_assoc, List.drop_left]
  exact List.take_of_length_le (by rw [nm_size, flat_append]; simp; omega)

theorem keepsOthers_below {W W' : World} (h : Below W.heap.size W W') : KeepsOthers W W' :=
  ⟨h.size, fun k o hk _ => (h.block k (Array.getElem?_eq_some_iff.1 hk).1).trans hk⟩

theorem stop_drop {ls : List (List UInt8)} {N : Nat} (ho : OkN ls) {pre : List (Lab N)} (hsq : Seq (nm ls) (labs pre)) (hpl : Placed pre) {c : Nat} (hlen : pre.length = c + 1) :
    (nm ls).extract ((pre.getLast?.map (fun x => x.1.1)).getD 0) (nm ls).size = nm (ls.drop c) := by
  rcases List.eq_nil_or_concat pre with rfl | ⟨q, x, rfl⟩
  · simp at hlen
  · rw [List.concat_eq_append] at *
    have hq : q.length = c := by simpa using hlen
    obtain ⟨r, hr⟩ := hsq.of_name ho
    rw [labs_snoc, List.append_assoc] at hr
    have hx : x.1.1 = (flat (labs q)).length := by have := hpl q.length (by simp); simpa using this
    have hd : ls.drop c = [x.1.2.data.toList] ++ r := by
      rw [← hr, List.drop_append_of_le_length (by simp [labs]; omega), List.drop_of_length_le (by simp [labs]; omega)]; rfl
    rw [hd]
    simp only [List.getLast?_append, List.getLast?_singleton, Option.some_or, Option.map_some, Option.getD_some]
    rw [hx, ← hr]
    exact flat_drop_nm _ _

set_option maxRecDepth 100000 in
set_option maxHeartbeats 1000000 in
theorem withoutFirst_in (ls : List (List UInt8)) (ho : OkN ls) (c : Nat) (hc : c ≤ ls.length) (w : World) :
    Calls Try.prog 51 #[.string (nm ls), .int .i64 c] w fun e w' => e = .returned (.string (nm (ls.drop c))) ∧ Below w.heap.size w w' := by
  have hsz : (nm ls).size ≤ 255 := by rw [nm_size]; have := ho.len; omega
  have hcnt := ho.count
  refine (callsIn_wide (n := 5)).1 ?_
  refine callsIn_of_wp_marks Try.func51 rfl trivial ?_ rfl
  simp only [Try.ntmps51, List.size_toArray, List.length_cons, List.length_nil, Nat.reduceAdd, Nat.reduceSub, Array.replicate_succ, Array.replicate_zero, List.push_toArray, List.append_toArray, List.nil_append, List.cons_append]
  gi_wp2_with (refine ⟨trivial, ?_⟩; gi_at_call 43; refine (callsIn_wide.2 (eachLabel_in _ _)).mono ?_; rintro e w' ⟨rfl, rfl⟩)
  obtain ⟨W0, hW0⟩ : ∃ W0, ((((w.alloc (.cells #[.string (nm ls)] 9)).alloc (.cells #[.int .i64 (c : Int)] 3)).alloc (.cells #[.string ⟨#[]⟩] 9)).alloc (.cells #[.string (nm ls)] 9)) = W0 := ⟨_, rfl⟩
  have hsz0 : W0.heap.size = w.heap.size + 4 := by rw [← hW0]; simp
  have hx0 : Boxed W0 w.heap.size 9 (.string (nm ls)) := by rw [← hW0]; exact (((Boxed.new _ _ _).alloc _).alloc _).alloc _
  have hx1 : Boxed W0 (w.heap.size + 1) 3 (.int .i64 (c : Int)) := by
    rw [← hW0]
    have := ((Boxed.new (w.alloc (.cells #[.string (nm ls)] 9)) 3 (.int .i64 (c : Int))).alloc (.cells #[.string ⟨#[]⟩] 9)).alloc (.cells #[.string (nm ls)] 9)
    rwa [World.size_alloc] at this
  have hx2 : Boxed W0 (w.heap.size + 1 + 1) 9 (.string ⟨#[]⟩) := by
    rw [← hW0]
    have := (Boxed.new ((w.alloc (.cells #[.string (nm ls)] 9)).alloc (.cells #[.int .i64 (c : Int)] 3)) 9 (.string ⟨#[]⟩)).alloc (.cells #[.string (nm ls)] 9)
    rwa [World.size_alloc, World.size_alloc] at this
  have hx3 : Boxed W0 (w.heap.size + 1 + 1 + 1) 9 (.string (nm ls)) := by
    rw [← hW0]
    have := (Boxed.new (((w.alloc (.cells #[.string (nm ls)] 9)).alloc (.cells #[.int .i64 (c : Int)] 3)).alloc (.cells #[.string ⟨#[]⟩] 9)) 9 (.string (nm ls)))
    rwa [World.size_alloc, World.size_alloc, World.size_alloc] at this
  have hB0 : Below w.heap.size w W0 := by
    rw [← hW0]; exact ((((Below.refl _ _).alloc (Nat.le_refl _) _).alloc (by simp) _).alloc (by simp; omega) _).alloc (by simp; omega) _
  rw [hW0]
  clear hW0
  refine wpIn_rangeFunc_ownF rfl (by omega) (gf := 62) (lb := #[.pointer (some ⟨w.heap.size + 1 + 1 + 1, 0, none⟩)]) rfl trivial (enters_of Try.func62 (by kernel_rfl) rfl)
    (eachLabel_stops Fence.wide (5 - 1) trivial rfl (by omega) (w.heap.size + 1 + 1 + 1) (nm ls) hsz _ hx3.lt hx3.cell) KeepCell.t KeepCell.b (Below.refl _ _) (fun _ => rfl)
    (fun pre W => (Boxed W w.heap.size 9 (.string (nm ls)) ∧ Boxed W (w.heap.size + 1) 3 (.int .i64 ((c : Int) - pre.length)) ∧ Boxed W (w.heap.size + 1 + 1) 9 (.string ⟨#[]⟩) ∧ pre.length ≤ c) ∧ Below w.heap.size w W)
    (fun j pre W => (Boxed W (w.heap.size + 1 + 1) 9 (.string ((nm ls).extract ((pre.getLast?.map (fun x => x.1.1)).getD 0) (nm ls).size)) ∧ (j = .ret ∧ pre.length = c + 1)) ∧ Below w.heap.size w W)
    ?hI ?hIx ?h0 (fun x => { tmps := #[.string (nm ls), .int .i64 (c : Int), .pointer (some ⟨w.heap.size, 0, none⟩), .pointer (some ⟨w.heap.size + 1, 0, none⟩), .pointer (some ⟨w.heap.size + 1 + 1, 0, none⟩), .int .i64 (x.1.1 : Int), .string (nm ls), .func (.func 62) #[] #[.pointer (some ⟨w.heap.size + 1 + 1 + 1, 0, none⟩)], .int .i64 (x.1.1 : Int), .string x.1.2, undef, undef, undef, undef, undef, undef, undef, undef], defers := [] }) ?assign ?body ?done ?stop
  case hI =>
    exact OwnFrom.and (OwnFrom.and (Own.from (boxed_own _ _ _) _) (OwnFrom.and (Own.from (boxed_own _ _ _) _) (OwnFrom.and (Own.from (boxed_own _ _ _) _) (ownFrom_pure _ _)))) (ownFrom_below (Nat.le_refl _) (by omega))
  case hIx =>
    intro j
    exact OwnFrom.and (OwnFrom.and (Own.from (boxed_own _ _ _) _) (ownFrom_pure _ _)) (ownFrom_below (Nat.le_refl _) (by omega))
  case h0 =>
    exact ⟨⟨hx0, by simpa using hx1, hx2, Nat.zero_le _⟩, hB0⟩
  case assign =>
    intro l x W K hK
    gi_wp2
    exact hK
  case body =>
    rintro l pre x W ⟨⟨h0, h1, h2, hle⟩, hB⟩ _
    clear hx0 hx1 hx2 hx3 hB0
    have hxl := x.2.1
    have hc0 := h0.cell
    have hc1 := h1.cell
    have hf1 := h1.frozen
    have hlt0 := h0.lt
    have hlt1 := h1.lt
    have hlt2 := h2.lt
    by_cases he : pre.length = c
    · have hz : (((c : Int) - (pre.length : Int)) == 0) = true := by simp; omega
      have hsx : ((nm ls).extract x.1.1 (nm ls).size).size ≤ 255 := by rw [ByteArray.size_extract]; omega
      have HE := Hid.mk he
      clear he hc1 hle
      have hc1 : W.cell? ⟨w.heap.size + 1, 0, none⟩ = some (.int .i64 ((c : Int) - pre.length)) := h1.cell
      gi_wp2_with (refine ⟨trivial, ?_⟩; gi_at_call 42; refine (CallsIn.inRound l (callsIn_wide.2 (clone_in _ _ hsx))).mono ?_; rintro e w1 ⟨rfl, hb1⟩; have hy2 : Boxed w1 (w.heap.size + 1 + 1) 9 (.string ⟨#[]⟩) := (hb1.block _ hlt2).trans h2; have hcy := hy2.cell; have hfy := hy2.frozen)
      refine ⟨(keepsOthers_below hb1).trans (KeepsOthers.setCell _ _ _), ⟨?_, rfl, by simp; exact HE.out⟩, (hB.trans (hb1.mono hB.size)).setCell (p := ⟨w.heap.size + 1 + 1, 0, none⟩) (by simp; omega) _⟩
      have := hy2.set (.string ((nm ls).extract x.1.1 (nm ls).size))
      simpa using this
    · have hz : (((c : Int) - (pre.length : Int)) == 0) = false := by simp; omega
      have hlt : pre.length < c := by omega
      clear he
      gi_wp2
      refine ⟨KeepsOthers.setCell _ _ _, KeepCell.setCell _ _ (by omega), ⟨h0.other (by omega) _, ?_, h2.other (by omega) _, by simp; omega⟩, hB.setCell (p := ⟨w.heap.size + 1, 0, none⟩) (by simp) _⟩
      have := h1.set (.int .i64 ((c : Int) - ((pre ++ [x]).length : Nat)))
      have e : ((c : Int) - ((pre ++ [x]).length : Nat)) = (c : Int) - pre.length - 1 := by simp; omega
      rw [e] at this ⊢
      exact this
  case done =>
    rintro D ys W hD ⟨hsq, hpl, hen⟩ ⟨⟨h0, h1, h2, hle⟩, hB⟩ hK
    have hys : labs ys = ls := hsq.all_name ho hen
    have hlen : ls.length = ys.length := by have := congrArg List.length hys; simp [labs] at this; omega
    have hdr : Hid (ls.drop c = []) := List.drop_eq_nil_of_le (by omega)
    clear hys hlen hle
    have hc2 := h2.cell
    have hf2 := h2.frozen
    gi_wp2
    have hK' := (KeepsOthers.setCell W ⟨w.heap.size + 1 + 1, 0, none⟩ (.string ⟨#[0]⟩)).same D _ hK rfl
    refine ⟨by simp, .inl ⟨_, _, rfl, run_takeDeferred hK', ?_⟩⟩
    have hc5 := cell_kept (World.cell?_setCell_same' W ⟨w.heap.size + 1 + 1, 0, none⟩ (.string ⟨#[0]⟩) (by rw [hc2]; rfl)) (grownBy_putObj' _ D (.deferred none)) (fun r e => by cases e; exact ⟨_, hK', rfl⟩)
    refine ⟨.string ⟨#[0]⟩, ?_, by rw [hdr.out]; rfl, (hB.setCell (p := ⟨w.heap.size + 1 + 1, 0, none⟩) (by simp; omega) _).trans (belowK_b (w := w) (Nat.le_refl _) _ D _ _ (by omega) hK' rfl rfl)⟩
    simp [results, Try.f51, go_sem, hc5]
  case stop =>
    rintro D j pre W hD ⟨hsq, hpl⟩ ⟨⟨h2, rfl, hlen⟩, hB⟩ hK
    have hv := stop_drop ho hsq hpl hlen
    rw [hv] at h2
    gi_wp2
    refine ⟨by simp, .inl ⟨_, _, rfl, run_takeDeferred hK, ?_⟩⟩
    have hc5 := cell_kept h2.cell (grownBy_putObj' _ D (.deferred none)) (fun r e => by cases e; exact ⟨_, hK, rfl⟩)
    refine ⟨.string (nm (ls.drop c)), ?_, rfl, hB.trans (belowK_b (w := w) (Nat.le_refl _) W D _ _ (by omega) hK rfl rfl)⟩
    simp [results, Try.f51, go_sem, hc5]

end Go.Proofs.Ytpngjmeinlcggaa
