/- Layer 11: a place put ahead of the row; renewed; a key added, removed. -/
import Derived.Test.YtcebljcofkohiaaTbOps
namespace Go.Proofs.Ytcebljcofkohiaa
set_option linter.unusedVariables false
open Go.RowKit
open Go.MapKept Go.WideMaps

abbrev tabObj (most : Int) (E : Nat) (c : Int) (M : Nat) : Obj := .cells #[.int .i64 most, pt E, .int .i64 c, .map (some M)] 58 (0, 0)
def pushW (w : World) (T E F p : Nat) (c : Int) : World := ((((((w.setCell ⟨p, 2, none⟩ (pt E)).setCell ⟨p, 3, none⟩ (pt F)).setCell ⟨E, 3, none⟩ (pt p)).setCell ⟨F, 2, none⟩ (pt p)).setCell ⟨T, 2, none⟩ (.int .i64 (c + 1))).drew).drew
theorem pushW_plc {w : World} {T E F p : Nat} {c : Int} {b : Nat} (h : Plc w b) : Plc (pushW w T E F p c) b := by
  unfold pushW
  exact (((((h.set _ _).set _ _).set _ _).set _ _).set _ _).drew.drew
theorem pushW_cell (w : World) (T E F p : Nat) (c : Int) (b i : Nat) (hT : b ≠ T) (h3 : i = 3 → b ≠ E ∧ b ≠ p) (h2 : i = 2 → b ≠ F ∧ b ≠ p) : (pushW w T E F p c).cell? ⟨b, i, none⟩ = w.cell? ⟨b, i, none⟩ := by
  unfold pushW
  rw [drew_cell, drew_cell, cell_set_o (fun e => absurd e.symm hT), cell_set_o (fun e e' => (h2 e'.symm).1 e.symm), cell_set_o (fun e e' => (h3 e'.symm).1 e.symm), cell_set_o (fun e e' => (h3 e'.symm).2 e.symm), cell_set_o (fun e e' => (h2 e'.symm).2 e.symm)]

/-- behind a place was put ahead. -/
structure Pushed (w w' : World) (T E M : Nat) (most : Int) (L : List Ent) (e : Ent) : Prop where
  tb : w'.heap[T]? = some (tabObj most E (((e :: L).length : Nat) : Int) M)
  row : Row w' E (e :: L)
  kp : Kp (fun b => b = T ∨ b = E ∨ b ∈ bs L ∨ b = e.b) w w'

set_option maxHeartbeats 1000000 in
theorem push_tab {w : World} {T E M : Nat} {most : Int} {L : List Ent} {e : Ent} (tb : w.heap[T]? = some (tabObj most E (L.length : Int) M)) (row : Row w E L) (plc : Plc w e.b)
    (key : w.cell? ⟨e.b, 0, none⟩ = some (.string e.k)) (val : w.cell? ⟨e.b, 1, none⟩ = some (.int .i64 e.v)) (hne : e.b ∉ E :: bs L) (hlen : L.length ≤ 100001) :
    Calls Try.prog 37 #[.pointer (some ⟨T, 1, none⟩), pt e.b] w fun r w' => r = .returned (.tuple #[]) ∧ Pushed w w' T E M most L e := by
  obtain ⟨F, C, h4⟩ : ∃ F C, bs L ++ [E] = F :: C := by
    cases bs L with
    | nil => exact ⟨E, [], rfl⟩
    | cons y Y => exact ⟨y, Y ++ [E], rfl⟩
  have hl := row.links
  rw [h4] at hl
  obtain ⟨l1, l2, l3⟩ := hl
  have nd := row.nd
  have nd2 : (F :: C).Nodup := by
    rw [← h4]
    exact (List.perm_append_singleton _ _).nodup_iff.2 nd
  have mF : F ∈ E :: bs L := by
    have : F ∈ bs L ++ [E] := by rw [h4]; simp
    simp at this ⊢; rcases this with h | h <;> simp [h]
  have pE := row.plc E (by simp)
  have pF := row.plc F mF
  have noT : ∀ {b}, Plc w b → ¬ T = b := fun hb x => by
    subst x
    obtain ⟨c, hc, _⟩ := hb
    rw [tb] at hc
    simp at hc
  have hpE : ¬ e.b = E := fun x => hne (by simp [x])
  have hpF : ¬ e.b = F := fun x => hne (x ▸ mF)
  have hTp := noT plc
  have hTE := noT pE
  have hTF := noT pF
  obtain ⟨y, hy⟩ := plc.cell 2 (by decide)
  obtain ⟨z, hz⟩ := plc.cell 3 (by decide)
  have t1 : w.cell? ⟨T, 1, none⟩ = some (pt E) := by rw [cell_of_row _ _ _ _ _ _ tb]; rfl
  have t2 : w.cell? ⟨T, 2, none⟩ = some (.int .i64 (L.length : Int)) := by rw [cell_of_row _ _ _ _ _ _ tb]; rfl
  refine (push_in w T E F e.b _ _ y z t1 t2 l1 l2 hy hz (frozen_of tb 2) (pE.frozen _) (pF.frozen _) (plc.frozen _) (plc.frozen _) hpE hpF (fun x => hTp x.symm) hTE hTF (by omega) (by omega)).mono ?_
  rintro r w' ⟨rfl, hw'⟩
  refine ⟨rfl, ?_⟩
  obtain rfl : w' = pushW w T E F e.b (L.length : Int) := hw'
  have nT : ∀ b, b ∈ E :: bs L → b ≠ T := fun b hb' x => noT (row.plc b hb') x.symm
  have cIn : ∀ b, b ∈ C → b ∈ E :: bs L := fun b hbC => by
    have : b ∈ bs L ++ [E] := by rw [h4]; simp [hbC]
    simp at this ⊢; rcases this with h | h <;> simp [h]
  have ep : ∀ b, b ∈ E :: bs L → b ≠ e.b := fun b hb x => hne (x ▸ hb)
  constructor
  · unfold pushW
    rw [drew_heap, drew_heap, heap_set_same (c := #[.int .i64 most, pt E, .int .i64 (L.length : Int), .map (some M)]) (t := 58) (f := (0, 0)) ((Below.heap_setCell _ _ _ _ hTF).trans ((Below.heap_setCell _ _ _ _ hTE).trans ((Below.heap_setCell _ _ _ _ hTp).trans ((Below.heap_setCell _ _ _ _ hTp).trans tb))))]
    have : (L.length : Int) + 1 = (((e :: L).length : Nat) : Int) := by simp
    rw [this]
    rfl
  · refine ⟨?_, ?_, ?_, ?_, ?_⟩
    · show Links _ (E :: (e.b :: bs L ++ [E]))
      rw [List.cons_append, h4]
      refine ⟨?_, ?_, ?_, ?_, l3.frame _ (fun a ha => ?_) (fun b hb => ?_)⟩
      · unfold pushW
        rw [drew_cell, drew_cell, cell_set_o (fun x => absurd x hTE), cell_set_o (fun _ => by decide)]
        exact World.cell?_setCell_same _ _ _ ((((cell_set_o (fun x => absurd x hpE))).trans (cell_set_o (fun x => absurd x hpE))).trans l1)
      · unfold pushW
        rw [drew_cell, drew_cell, cell_set_o (fun x => absurd x hTp), cell_set_o (fun x => absurd x.symm hpF), cell_set_o (fun x => absurd x.symm hpE), cell_set_o (fun _ => by decide)]
        exact World.cell?_setCell_same _ _ _ hy
      · unfold pushW
        rw [drew_cell, drew_cell, cell_set_o (fun x => absurd x hTp), cell_set_o (fun x => absurd x.symm hpF), cell_set_o (fun x => absurd x.symm hpE)]
        exact World.cell?_setCell_same _ _ _ ((cell_set_o (fun _ => by decide)).trans hz)
      · unfold pushW
        rw [drew_cell, drew_cell, cell_set_o (fun x => absurd x hTF)]
        exact World.cell?_setCell_same _ _ _ (((cell_set_o (fun _ => by decide)).trans ((cell_set_o (fun x => absurd x hpF)).trans (cell_set_o (fun x => absurd x hpF)))).trans l2)
      · rw [← h4, List.dropLast_concat] at ha
        refine pushW_cell _ _ _ _ _ _ _ _ (nT a (by simp [ha])) (fun _ => ⟨fun x => ?_, ep a (by simp [ha])⟩) (fun x => by cases x)
        subst x
        simp [ha] at nd
      · refine pushW_cell _ _ _ _ _ _ _ _ (nT b (cIn b hb)) (fun x => by cases x) (fun _ => ⟨fun x => ?_, ep b (cIn b hb)⟩)
        subst x
        simp only [List.tail_cons] at hb
        simp [hb] at nd2
    · show (E :: e.b :: bs L).Nodup
      have : (E :: e.b :: bs L).Perm (e.b :: E :: bs L) := List.Perm.swap _ _ _
      exact this.nodup_iff.2 (List.nodup_cons.2 ⟨hne, nd⟩)
    · intro b hb
      have hb : b = E ∨ b = e.b ∨ b ∈ bs L := by simpa [bs] using hb
      rcases hb with rfl | rfl | hb
      · exact pushW_plc pE
      · exact pushW_plc plc
      · exact pushW_plc (row.plc b (by simp [hb]))
    · intro x hx
      rcases List.mem_cons.1 hx with rfl | hx
      · rw [pushW_cell _ _ _ _ _ _ _ _ (fun x => hTp x.symm) (fun x => by cases x) (fun x => by cases x)]
        exact key
      · rw [pushW_cell _ _ _ _ _ _ _ _ (nT _ (List.mem_cons_of_mem _ (List.mem_map_of_mem hx))) (fun x => by cases x) (fun x => by cases x)]
        exact row.key x hx
    · intro x hx
      rcases List.mem_cons.1 hx with rfl | hx
      · rw [pushW_cell _ _ _ _ _ _ _ _ (fun x => hTp x.symm) (fun x => by cases x) (fun x => by cases x)]
        exact val
      · rw [pushW_cell _ _ _ _ _ _ _ _ (nT _ (List.mem_cons_of_mem _ (List.mem_map_of_mem hx))) (fun x => by cases x) (fun x => by cases x)]
        exact row.val x hx
  · unfold pushW
    have sF : F = E ∨ F ∈ bs L := by simpa using mF
    exact ((((((Kp.refl _ _).set (.inl (.inr (.inr (.inr rfl)))) _).set (.inl (.inr (.inr (.inr rfl)))) _).set (.inl (.inr (.inl rfl))) _).set (.inl (sF.elim (fun h => .inr (.inl h)) (fun h => .inr (.inr (.inl h))))) _).set (.inl (.inl rfl)) _).drew.drew

theorem mem_bs_mid {X Y : List Ent} {e : Ent} {b : Nat} : b ∈ bs (X ++ e :: Y) ↔ b ∈ bs X ∨ b = e.b ∨ b ∈ bs Y := by simp [bs]
theorem mem_bs_app {X Y : List Ent} {b : Nat} : b ∈ bs (X ++ Y) ↔ b ∈ bs X ∨ b ∈ bs Y := by simp [bs]
theorem Tab.notIn {w : World} {T E M : Nat} {most : Int} {n : Nat} {X Y : List Ent} {e : Ent} (h : Tab w T E M most n (X ++ e :: Y)) : e.b ∉ E :: bs (X ++ Y) := by
  have nd := h.row.nd
  have : (E :: bs (X ++ e :: Y)).Perm (e.b :: E :: bs (X ++ Y)) := by
    have h1 : (bs (X ++ e :: Y)).Perm (e.b :: bs (X ++ Y)) := by
      rw [show bs (X ++ e :: Y) = bs X ++ e.b :: bs Y by simp [bs], show bs (X ++ Y) = bs X ++ bs Y by simp [bs]]
      exact List.perm_middle
    exact (h1.cons E).trans (List.Perm.swap _ _ _)
  exact (List.nodup_cons.1 (this.nodup_iff.1 nd)).1

theorem renew_tab {w : World} {T E M : Nat} {most : Int} {n : Nat} {X Y : List Ent} {e : Ent} (h : Tab w T E M most n (X ++ e :: Y)) :
    Calls Try.prog 24 #[.pointer (some ⟨T, 1, none⟩), pt e.b] w fun r w' => r = .returned (.tuple #[]) ∧ Tab w' T E M most n (e :: (X ++ Y)) ∧ Kp (tS T E M (X ++ e :: Y)) w w' := by
  have HT := Hid.mk (take_tab h)
  go_enter Try.func24, Try.ntmps24
  go_wp2_with fail
  refine HT.out.mono ?_
  rintro r w1 ⟨rfl, t⟩
  have hlen := h.len
  have HP := Hid.mk (push_tab t.tb t.row t.plc t.key t.val h.notIn (by simp at hlen ⊢; omega))
  clear hlen
  go_wp2_with fail
  refine HP.out.mono ?_
  rintro r w2 ⟨rfl, p⟩
  go_wp2
  go_end0
  refine ⟨rfl, ⟨?_, p.row, ?_, ?_, ?_, ?_⟩, ?_⟩
  · exact p.tb
  · refine MapAt.perm (MapAt.same t.mp (p.kp.same M (t.mp.lt) ?_)) (fun k b => ?_)
    · rintro (x | x | x | x)
      · exact h.tm x.symm
      · exact h.noMap (h.row.plc E (by simp)) x
      · exact h.noMap (h.row.plc M (by rcases mem_bs_app.1 x with x | x <;> exact List.mem_cons_of_mem _ (mem_bs_mid.2 (by simp [x])))) rfl
      · exact h.noMap (h.row.plc e.b (List.mem_cons_of_mem _ (mem_bs_mid.2 (by simp)))) x
    · constructor
      · rintro ⟨y, hy, h1⟩
        exact ⟨y, by simp at hy ⊢; rcases hy with h | h | h <;> simp [h], h1⟩
      · rintro ⟨y, hy, h1⟩
        exact ⟨y, by simp at hy ⊢; rcases hy with h | h | h <;> simp [h], h1⟩
  · have := h.kn
    rw [show ks (X ++ e :: Y) = ks X ++ e.k :: ks Y by simp [ks]] at this
    show (e.k :: ks (X ++ Y)).Nodup
    rw [show ks (X ++ Y) = ks X ++ ks Y by simp [ks]]
    exact List.perm_middle.nodup_iff.1 this
  · have := h.len
    simp at this ⊢; omega
  · intro x hx
    exact h.sz x (by simp at hx ⊢; rcases hx with h | h | h <;> simp [h])
  · refine t.kp.trans p.kp (fun b _ hb => ?_)
    rcases hb with x | x | x | x
    · exact .inl x
    · exact .inr (.inr (.inl x))
    · exact .inr (.inr (.inr (by rcases mem_bs_app.1 x with x | x <;> exact mem_bs_mid.2 (by simp [x]))))
    · exact .inr (.inr (.inr (mem_bs_mid.2 (by simp [x]))))

end Go.Proofs.Ytcebljcofkohiaa
