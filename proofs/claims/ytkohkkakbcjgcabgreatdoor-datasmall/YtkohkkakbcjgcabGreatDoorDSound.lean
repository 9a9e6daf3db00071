/- split: data in pieces, or none; sound, which recovers. -/
import Derived.Deep.RegionWith
import Derived.Test.YtkohkkakbcjgcabGreatDoorDSplit
namespace Go.Proofs.YtkohkkakbcjgcabGreatDoor
set_option linter.unusedVariables false
open Go.RowKit

/-- what partsOf hands back: n parts, each with what its pass does. -/
def PartsPost (n : Nat) (pf : Nat → ByteArray → Option Nat) (w : World) (e : Ending) (w' : World) : Prop :=
  ∃ g P, e = .returned (.slice (some ⟨g, 0, none⟩) n n) ∧ PartsIn w' g n P ∧ (∀ k, k < n → Enters (P k).pass) ∧
    (∀ k, k < n → ∀ (W' : World) (d : Nat) (s' : ByteArray), Below w'.heap.size w' W' → w'.heap.size ≤ d → Rd W' d s' → s'.size ≤ 2000 →
      Calls Tryz.prog (P k).pass (#[boxV d] ++ (P k).passC) W' fun e w'' => PassPost (pf k s') s' d W' w'' e) ∧ Below w.heap.size w w'

theorem box_cell {W : World} {b : Nat} {v : Value} {t : TypeId} (h : W.heap[b]? = some (.cells #[v] t (0, 0))) : W.cell? ⟨b, 0, none⟩ = some v := by simp [World.cell?, h]
theorem box_frozen {W : World} {b : Nat} {v : Value} {t : TypeId} (h : W.heap[b]? = some (.cells #[v] t (0, 0))) : W.frozen? ⟨b, 0, none⟩ = false := by simp [World.frozen?, h]
theorem box_lt {W : World} {b : Nat} {o : Obj} (h : W.heap[b]? = some o) : b < W.heap.size := (Array.getElem?_eq_some_iff.1 h).1
theorem box_set {W : World} {b : Nat} {v : Value} {t : TypeId} (h : W.heap[b]? = some (.cells #[v] t (0, 0))) (u : Value) : (W.setCell ⟨b, 0, none⟩ u).heap[b]? = some (.cells #[u] t (0, 0)) := by
  simp only [World.setCell, Array.getElem?_modify, h]
  rfl
theorem row_kept' {W W' : World} {n₀ n b : Nat} {e : TypeId} {v : Value} {xs : List Value} (h : W.ownsRow n₀ e 1 v n xs) (k : Kept b W W') (hb : b < n₀) : W'.ownsRow n₀ e 1 v n xs := by
  refine ⟨h.1, ?_⟩
  rcases h.2 with h' | ⟨g', cap', cur, hv, hb', hg', hr⟩
  · exact .inl h'
  · exact .inr ⟨g', cap', cur, hv, hb', (k.same g' (box_lt hg') (by omega)).trans hg', hr⟩
theorem row_down {W : World} {n₀ n₁ n : Nat} {e : TypeId} {v : Value} {xs : List Value} (h : W.ownsRow n₁ e 1 v n xs) (hn : n₀ ≤ n₁) : W.ownsRow n₀ e 1 v n xs :=
  ⟨h.1, h.2.imp id fun ⟨g', cap', cur, hv, hb', hr⟩ => ⟨g', cap', cur, hv, by omega, hr⟩⟩

/-- a way that has ended, for a region that bears one way alone. -/
theorem with_dummy {G : Prop} (w : World) (h : G) (d : wpAny Tryz.prog .any #[] (fun _ _ _ => True) 0 #[] { tmps := #[], defers := [] } w) : G := h

theorem row_as {W : World} {n₀ n : Nat} {e : TypeId} {v : Value} {xs : List Value} (h : W.ownsRow n₀ e 1 v n xs) : ∃ q cap, v = .slice q n cap := by
  rcases h.2 with ⟨rfl, rfl⟩ | ⟨g, cap, cur, hv, _⟩
  · exact ⟨none, 0, rfl⟩
  · exact ⟨_, _, hv⟩

/-- what the work of split does to its variable at block b. -/
def WorkPost (R : Option (List ByteArray)) (b : Nat) (W : World) (e : Ending) (w' : World) : Prop := (match R with
  | some ps => e = .returned (.tuple #[]) ∧ ∃ v, w'.ownsRow W.heap.size 9 1 v ps.length (baV ps) ∧ w'.heap[b]? = some (.cells #[v] 61 (0, 0))
  | none => e = .panicked mustV ∧ w'.heap[b]? = W.heap[b]?) ∧ Kept b W w'

set_option maxRecDepth 100000 in
set_option maxHeartbeats 4000000 in
theorem split1_in (W : World) (bk bd bp n : Nat) (hn : n ≤ 20) (k : Int) (s : ByteArray) (hs : s.size ≤ 2000) (v0 : Value) (pf : Nat → ByteArray → Option Nat)
    (hk : W.heap[bk]? = some (.cells #[.int .i64 k] 3 (0, 0))) (hd : W.heap[bd]? = some (.cells #[.string s] 9 (0, 0))) (hp : W.heap[bp]? = some (.cells #[v0] 61 (0, 0)))
    (hparts : ∀ w, Calls Tryz.prog 47 #[.int .i64 k] w fun e w' => PartsPost n pf w e w') :
    Calls Tryz.prog 54 #[boxV bk, boxV bd, boxV bp] W fun e w' => WorkPost (fin pf n s) bp W e w' := by
  have ck := box_cell hk
  have cd := box_cell hd
  have HP := Hid.mk hparts
  clear hparts
  have hmo : Tryz.prog.follows Departure.mixedOrders = true := by kernel_rfl
  have HL : Hid (∀ (G : Prop) (w1 : World), Below W.drew.heap.size W.drew w1 → (w1.cell? ⟨bd, 0, none⟩ = some (.string s) → w1.heap[bp]? = some (.cells #[v0] 61 (0, 0)) → Kept bp W w1 → W.heap.size ≤ w1.heap.size → G) → G) := by
    intro G w1 hb hG
    have hb' : Below W.heap.size W w1 := ⟨hb.os, hb.tape, hb.output, hb.size, hb.block⟩
    exact hG ((hb'.cell (p := ⟨bd, 0, none⟩) (box_lt hd)).trans cd) ((hb'.block bp (box_lt hp)).trans hp) (Kept.of_below hb') hb.size
  have HQ := Hid.mk (fun (w1 : World) (g : Nat) (P : Nat → Part) (hP : PartsIn w1 g n P) hen hpf => piecesOf_in w1 g n n hn s hs P hP pf hen hpf)
  obtain ⟨R, hR⟩ : ∃ R, fin pf n s = R := ⟨_, rfl⟩
  rw [hR] at HQ ⊢
  clear hR
  cases R with
  | none =>
    go_enter Tryz.func54, Tryz.ntmps54
    go_wp2
    go_region_with (first
      | (go_at_call 47; refine (HP.out _).mono ?_; rintro e w1 ⟨g, P, rfl, hP, hen, hpf, hb1⟩; refine HL.out _ w1 hb1 ?_; intro cd1 hp1 kk1 sz1)
      | (go_at_call 55; refine (HQ.out w1 g P hP hen hpf).mono ?_; rintro e w2 ⟨rfl, hb2⟩; refine with_dummy w2 ⟨rfl, ⟨rfl, ((hb2.block bp (box_lt hp1)).trans hp1).trans hp.symm⟩, kk1.trans (Kept.of_below hb2)⟩ ?_))
    all_goals trivial
  | some ps =>
    have HF : Hid (∀ (G : Prop) (v : Value) (w1 w2 : World), w2.ownsRow w1.heap.size 9 1 v ps.length (baV ps) → w1.heap[bp]? = some (.cells #[v0] 61 (0, 0)) → Below w1.heap.size w1 w2 →
        (∀ q c, v = .slice q ps.length c → w2.heap[bp]? = some (.cells #[v0] 61 (0, 0)) → w2.cell? ⟨bp, 0, none⟩ = some v0 → w2.frozen? ⟨bp, 0, none⟩ = false → G) → G) := by
      intro G v w1 w2 hr h1 hb hG
      have h2 := (hb.block bp (box_lt h1)).trans h1
      obtain ⟨q, c, hv⟩ := row_as hr
      exact hG q c hv h2 (box_cell h2) (box_frozen h2)
    go_enter Tryz.func54, Tryz.ntmps54
    go_wp2
    go_region_with (first
      | (go_at_call 47; refine (HP.out _).mono ?_; rintro e w1 ⟨g, P, rfl, hP, hen, hpf, hb1⟩; refine HL.out _ w1 hb1 ?_; intro cd1 hp1 kk1 sz1)
      | (go_at_call 55; refine (HQ.out w1 g P hP hen hpf).mono ?_; rintro e w2 ⟨⟨v, rfl, hrow⟩, hb2⟩; refine HF.out _ v w1 w2 hrow hp1 hb2 ?_; intro q c hv hp2 cp2 fp2; subst hv))
    all_goals
      go_wp2
      refine bodyPost_end (results_none rfl _ _ _) rfl ⟨⟨rfl, _, ?_, box_set hp2 _⟩, (kk1.trans (Kept.of_below hb2)).trans (Kept.set _ _ _ _)⟩
      exact row_kept' (row_down hrow sz1) (Kept.set _ _ _ _) (box_lt hp)

theorem catch_panic (p : Nat) (w : World) (b : Bool) (h : w.heap[p]? = some (.cells #[.bool b] 4 (0, 0))) (older : List PanicEntry) :
    CallsD Tryz.prog 81 #[boxV p] (.panicking ({ v := .iface 23 (.int .i64 6), recovered := false } :: older)) w fun e u' w' =>
      e = .returned (.tuple #[]) ∧ u' = .panicking ({ v := .iface 23 (.int .i64 6), recovered := true } :: older) ∧ w' = w.setCell ⟨p, 0, none⟩ (.bool false) := by
  have hc := box_cell h
  have hz := box_frozen h
  refine callsD_of_wpS Tryz.func81 rfl fun c₀ cs hu => ?_
  apply wpS_seq
  apply wpS_region
  simp [wpOpsS, go_sem, recoverD, hu, Tryz.ntmps81, Exit.thenS]
  refine wpS_cond (t := true) (by simp [Act.eval, Array.replicate]) ?_
  simp only [if_true]
  apply wpS_region
  simp [wpOpsS, go_sem, hc, hz, bodyPostS, results, Tryz.results81]

theorem catch_idle (p : Nat) (w : World) :
    CallsD Tryz.prog 81 #[boxV p] .returning w fun e u' w' => e = .returned (.tuple #[]) ∧ u' = .returning ∧ w' = w := by
  refine callsD_of_wpS Tryz.func81 rfl fun c₀ cs hu => ?_
  apply wpS_seq
  apply wpS_region
  simp [wpOpsS, go_sem, recoverD, hu, Tryz.ntmps81, Exit.thenS]
  refine wpS_cond (t := false) (by simp [Act.eval, Array.replicate]) ?_
  simp only [Bool.false_eq_true, if_false]
  refine wpS_of_wp (wp_skip ?_)
  cases c₀
  simp_all [bodyPostS, results, Tryz.results81]

end Go.Proofs.YtkohkkakbcjgcabGreatDoor
