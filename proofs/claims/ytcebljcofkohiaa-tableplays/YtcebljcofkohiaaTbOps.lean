/- Layer 11: what the calls of a row and of a table do to a table. -/
import Derived.Test.YtcebljcofkohiaaTbTab
import Derived.Deep.RegionLaw
namespace Go.Proofs.Ytcebljcofkohiaa
set_option linter.unusedVariables false
open Go.RowKit
open Go.MapKept Go.WideMaps

theorem chain_mid (E : Nat) (X Y : List Nat) (p : Nat) : ∃ A n o C, E :: ((X ++ p :: Y) ++ [E]) = A ++ n :: p :: o :: C ∧ E :: ((X ++ Y) ++ [E]) = A ++ n :: o :: C ∧ E :: X = A ++ [n] ∧ Y ++ [E] = o :: C := by
  obtain ⟨A, n, h1⟩ : ∃ A n, E :: X = A ++ [n] := ⟨_, _, (List.dropLast_concat_getLast (by simp)).symm⟩
  obtain ⟨o, C, h2⟩ : ∃ o C, Y ++ [E] = o :: C := by
    cases Y with
    | nil => exact ⟨E, [], rfl⟩
    | cons y Y => exact ⟨y, Y ++ [E], rfl⟩
  refine ⟨A, n, o, C, ?_, ?_, h1, h2⟩
  · rw [List.append_assoc, List.cons_append, ← List.cons_append, h1, h2]; simp
  · rw [List.append_assoc, ← List.cons_append, h1, h2]; simp

/-- the table's own cell of how many there are. -/
theorem Tab.setCount {w : World} {T E M : Nat} {most : Int} {n : Nat} {L : List Ent} (h : Tab w T E M most n L) (c : Int) : (w.setCell ⟨T, 2, none⟩ (.int .i64 c)).heap[T]? = some (.cells #[.int .i64 most, pt E, .int .i64 c, .map (some M)] 58 (0, 0)) :=
  heap_set_same h.tb 2 _

theorem drew_heap (w : World) : w.drew.heap = w.heap := rfl
theorem drew_cell (w : World) (a : Addr) : w.drew.cell? a = w.cell? a := rfl
theorem Plc.drew {w : World} {b : Nat} (h : Plc w b) : Plc w.drew b := h
/-- a place taken out of the row: the world behind it. -/
def takeW (w : World) (T N O p : Nat) (c : Int) : World := (((((w.setCell ⟨N, 3, none⟩ (pt O)).setCell ⟨O, 2, none⟩ (pt N)).setCell ⟨p, 2, none⟩ nilP).setCell ⟨p, 3, none⟩ nilP).setCell ⟨T, 2, none⟩ (.int .i64 (c - 1))).drew
theorem takeW_other (w : World) (T N O p : Nat) (c : Int) (b : Nat) (hT : b ≠ T) (hN : b ≠ N) (hO : b ≠ O) (hp : b ≠ p) : (takeW w T N O p c).heap[b]? = w.heap[b]? := by
  unfold takeW
  rw [drew_heap, Below.heap_setCell _ _ _ _ hT, Below.heap_setCell _ _ _ _ hp, Below.heap_setCell _ _ _ _ hp, Below.heap_setCell _ _ _ _ hO, Below.heap_setCell _ _ _ _ hN]
theorem takeW_plc {w : World} {T N O p : Nat} {c : Int} {b : Nat} (h : Plc w b) : Plc (takeW w T N O p c) b := by
  unfold takeW
  exact (((((h.set _ _).set _ _).set _ _).set _ _).set _ _).drew
theorem takeW_cell (w : World) (T N O p : Nat) (c : Int) (b i : Nat) (hT : b ≠ T) (h3 : i = 3 → b ≠ N ∧ b ≠ p) (h2 : i = 2 → b ≠ O ∧ b ≠ p) : (takeW w T N O p c).cell? ⟨b, i, none⟩ = w.cell? ⟨b, i, none⟩ := by
  unfold takeW
  rw [drew_cell, cell_set_o (fun e => absurd e.symm hT), cell_set_o (fun e e' => (h3 e'.symm).2 e.symm), cell_set_o (fun e e' => (h2 e'.symm).2 e.symm), cell_set_o (fun e e' => (h2 e'.symm).1 e.symm), cell_set_o (fun e e' => (h3 e'.symm).1 e.symm)]

/-- behind a place was taken out. -/
structure Took (w w' : World) (T E M : Nat) (most : Int) (n : Nat) (X Y : List Ent) (e : Ent) : Prop where
  tb : w'.heap[T]? = some (.cells #[.int .i64 most, pt E, .int .i64 ((X ++ Y).length : Int), .map (some M)] 58 (0, 0))
  row : Row w' E (X ++ Y)
  mp : MapAt w' M n (X ++ e :: Y)
  key : w'.cell? ⟨e.b, 0, none⟩ = some (.string e.k)
  val : w'.cell? ⟨e.b, 1, none⟩ = some (.int .i64 e.v)
  c2 : w'.cell? ⟨e.b, 2, none⟩ = some nilP
  c3 : w'.cell? ⟨e.b, 3, none⟩ = some nilP
  plc : Plc w' e.b
  kp : Kp (tS T E M (X ++ e :: Y)) w w'

set_option maxHeartbeats 1000000 in
theorem take_tab {w : World} {T E M : Nat} {most : Int} {n : Nat} {X Y : List Ent} {e : Ent} (h : Tab w T E M most n (X ++ e :: Y)) :
    Calls Try.prog 36 #[.pointer (some ⟨T, 1, none⟩), pt e.b] w fun r w' => r = .returned (.tuple #[]) ∧ Took w w' T E M most n X Y e := by
  obtain ⟨A, N, O, C, h1, h2, h3, h4⟩ := chain_mid E (bs X) (bs Y) e.b
  have hb : bs (X ++ e :: Y) = bs X ++ e.b :: bs Y := by simp [bs]
  have hb' : bs (X ++ Y) = bs X ++ bs Y := by simp [bs]
  have hl := h.row.links
  rw [hb, h1, Links.split] at hl
  obtain ⟨l1, l2, l3, l4, l5, l6⟩ := hl
  have nd := h.row.nd
  rw [hb] at nd
  -- two rows without repeats
  have nd1 : (A ++ N :: e.b :: bs Y).Nodup := by
    have : E :: (bs X ++ e.b :: bs Y) = A ++ N :: e.b :: bs Y := by rw [← List.cons_append, h3]; simp
    rw [← this]; exact nd
  have nd2 : (bs X ++ e.b :: O :: C).Nodup := by
    rw [← h4]
    have : (bs X ++ e.b :: (bs Y ++ [E])).Perm (E :: (bs X ++ e.b :: bs Y)) := by
      rw [show bs X ++ e.b :: (bs Y ++ [E]) = (bs X ++ e.b :: bs Y) ++ [E] by simp]
      exact (List.perm_append_singleton _ _)
    exact this.nodup_iff.2 nd
  have mN : N ∈ E :: bs X := by rw [h3]; simp
  have mO : O ∈ bs Y ++ [E] := by rw [h4]; simp
  have pp := h.row.plc e.b (by rw [hb]; simp)
  have pN := h.row.plc N (by rw [hb]; simp at mN ⊢; rcases mN with h | h <;> simp [h])
  have pO := h.row.plc O (by rw [hb]; simp at mO ⊢; rcases mO with h | h <;> simp [h])
  have hpN : ¬ e.b = N := fun x => by simp [List.nodup_append, x] at nd1
  have hpO : ¬ e.b = O := fun x => by simp [List.nodup_append, x] at nd2
  have hTp := h.noPlc pp
  have hTN := h.noPlc pN
  have hTO := h.noPlc pO
  obtain ⟨x, hx⟩ := pN.cell 3 (by decide)
  obtain ⟨y, hy⟩ := pO.cell 2 (by decide)
  have hlen := h.len
  refine (take_in w T N O e.b _ x y h.c2 l3 l4 hx hy (frozen_of h.tb 2) (pN.frozen _) (pO.frozen _) (pp.frozen _) (pp.frozen _) hpN hpO (fun x => hTp x.symm) hTN hTO (by omega) (by simp; omega)).mono ?_
  rintro r w' ⟨rfl, hw'⟩
  refine ⟨rfl, ?_⟩
  obtain rfl : w' = takeW w T N O e.b ((X ++ e :: Y).length : Int) := hw'
  have eC : bs Y ++ [E] = O :: C := h4
  have sN : N ∈ E :: bs (X ++ e :: Y) := by rw [hb]; simp at mN ⊢; rcases mN with h | h <;> simp [h]
  have sO : O ∈ E :: bs (X ++ e :: Y) := by rw [hb]; simp at mO ⊢; rcases mO with h | h <;> simp [h]
  have se : e.b ∈ E :: bs (X ++ e :: Y) := by rw [hb]; simp
  have inS : ∀ b, b ∈ E :: bs (X ++ e :: Y) → tS T E M (X ++ e :: Y) b := fun b h => (List.mem_cons.1 h).elim (fun e => .inr (.inr (.inl e))) (fun e => .inr (.inr (.inr e)))
  have up : ∀ b, b ∈ E :: (bs X ++ bs Y) → b ∈ E :: bs (X ++ e :: Y) := fun b h => by
    rw [hb]; simp at h ⊢; rcases h with h | h | h <;> simp [h]
  have nT : ∀ b, b ∈ E :: (bs X ++ bs Y) → b ≠ T := fun b hb' x => h.noPlc (h.row.plc b (up b hb')) x.symm
  have a3 : ∀ a, a ∈ A → a ≠ N ∧ a ≠ e.b := fun a ha => by
    constructor <;> intro x <;> subst x <;> simp [List.nodup_append] at nd1
    · have := nd1.2.2 _ ha; simp at this
    · have := nd1.2.2 _ ha; simp at this
  have y3 : ∀ a, a ∈ bs Y → a ≠ N ∧ a ≠ e.b := fun a ha => by
    constructor <;> intro x <;> subst x <;> simp [List.nodup_append, ha] at nd1
  have x2 : ∀ b, b ∈ bs X → b ≠ O ∧ b ≠ e.b := fun a ha => by
    constructor <;> intro x <;> subst x <;> simp [List.nodup_append] at nd2
    · have := nd2.2.2 _ ha; simp at this
    · have := nd2.2.2 _ ha; simp at this
  have c2 : ∀ b, b ∈ C → b ≠ O ∧ b ≠ e.b := fun a ha => by
    constructor <;> intro x <;> subst x <;> simp [List.nodup_append, ha] at nd2
  have cIn : ∀ b, b ∈ C → b ∈ E :: (bs X ++ bs Y) := fun b hbC => by
    have : b ∈ bs Y ++ [E] := by rw [h4]; simp [hbC]
    simp at this ⊢; rcases this with h | h <;> simp [h]
  have aIn : ∀ b, b ∈ A → b ∈ E :: (bs X ++ bs Y) := fun b hbA => by
    have : b ∈ E :: bs X := by rw [h3]; simp [hbA]
    simp at this ⊢; rcases this with h | h <;> simp [h]
  have ek : ∀ x ∈ X ++ Y, x.b ≠ e.b := fun x hx => by
    simp at hx
    rcases hx with hx | hx
    · exact (x2 _ (List.mem_map_of_mem hx)).2
    · exact (y3 _ (List.mem_map_of_mem hx)).2
  have kIn : ∀ x ∈ X ++ Y, x.b ∈ E :: (bs X ++ bs Y) := fun x hx => by
    rw [← hb']
    exact List.mem_cons_of_mem _ (List.mem_map_of_mem hx)
  have old : ∀ x ∈ X ++ Y, x ∈ X ++ e :: Y := fun x hx => by
    simp at hx ⊢; rcases hx with h | h <;> simp [h]
  constructor
  · unfold takeW
    rw [drew_heap, heap_set_same (c := #[.int .i64 most, pt E, .int .i64 ((X ++ e :: Y).length : Int), .map (some M)]) (t := 58) (f := (0, 0)) ((Below.heap_setCell _ _ _ _ hTp).trans ((Below.heap_setCell _ _ _ _ hTp).trans ((Below.heap_setCell _ _ _ _ hTO).trans ((Below.heap_setCell _ _ _ _ hTN).trans h.tb))))]
    have : ((X ++ e :: Y).length : Int) - 1 = ((X ++ Y).length : Int) := by simp; omega
    rw [this]
    rfl
  · refine ⟨?_, ?_, ?_, ?_, ?_⟩
    · rw [hb', h2, Links.split]
      refine ⟨l1.frame _ (fun a ha => ?_) (fun b hb => ?_), ?_, ?_, l6.frame _ (fun a ha => ?_) (fun b hb => ?_)⟩
      · rw [List.dropLast_concat] at ha
        exact takeW_cell _ _ _ _ _ _ _ _ (nT a (aIn a ha)) (fun _ => a3 a ha) (fun x => by cases x)
      · rw [← h3] at hb
        exact takeW_cell _ _ _ _ _ _ _ _ (nT b (by simp at hb ⊢; simp [hb])) (fun x => by cases x) (fun _ => x2 b hb)
      · unfold takeW
        rw [drew_cell, cell_set_o (fun x => absurd x hTN), cell_set_o (fun x => absurd x hpN), cell_set_o (fun x => absurd x hpN), cell_set_o (fun _ => by decide)]
        exact World.cell?_setCell_same _ _ _ hx
      · unfold takeW
        rw [drew_cell, cell_set_o (fun x => absurd x hTO), cell_set_o (fun x => absurd x hpO), cell_set_o (fun x => absurd x hpO)]
        exact World.cell?_setCell_same _ _ _ ((cell_set_o (fun _ => by decide)).trans hy)
      · rw [← h4, List.dropLast_concat] at ha
        exact takeW_cell _ _ _ _ _ _ _ _ (nT a (by simp [ha])) (fun _ => y3 a ha) (fun x => by cases x)
      · exact takeW_cell _ _ _ _ _ _ _ _ (nT b (cIn b hb)) (fun x => by cases x) (fun _ => c2 b hb)
    · rw [hb']
      exact nd.sublist (List.Sublist.cons_cons _ (List.Sublist.append_left (List.sublist_cons_self _ _) _))
    · intro b hbb
      rw [hb'] at hbb
      exact takeW_plc (h.row.plc b (up b hbb))
    · intro x hx
      rw [takeW_cell _ _ _ _ _ _ _ _ (nT _ (kIn x hx)) (fun x => by cases x) (fun x => by cases x)]
      exact h.row.key x (old x hx)
    · intro x hx
      rw [takeW_cell _ _ _ _ _ _ _ _ (nT _ (kIn x hx)) (fun x => by cases x) (fun x => by cases x)]
      exact h.row.val x (old x hx)
  · exact h.mp.same (takeW_other _ _ _ _ _ _ _ (fun x => h.tm x.symm) (h.noMap pN) (h.noMap pO) (h.noMap pp))
  · rw [takeW_cell _ _ _ _ _ _ _ _ (fun x => hTp x.symm) (fun x => by cases x) (fun x => by cases x)]
    exact h.row.key e (by simp)
  · rw [takeW_cell _ _ _ _ _ _ _ _ (fun x => hTp x.symm) (fun x => by cases x) (fun x => by cases x)]
    exact h.row.val e (by simp)
  · unfold takeW
    rw [drew_cell, cell_set_o (fun x => absurd x hTp), cell_set_o (fun _ => by decide)]
    exact World.cell?_setCell_same _ _ _ (u := pt N) (((cell_set_o (fun x => absurd x.symm hpO)).trans (cell_set_o (fun _ => by decide))).trans l3)
  · unfold takeW
    rw [drew_cell, cell_set_o (fun x => absurd x hTp)]
    exact World.cell?_setCell_same _ _ _ (u := pt O) (((cell_set_o (fun _ => by decide)).trans ((cell_set_o (fun _ => by decide)).trans (cell_set_o (fun x => absurd x.symm hpN)))).trans l4)
  · exact takeW_plc pp
  · unfold takeW
    exact ((((((Kp.refl _ _).set (.inl (inS _ sN)) _).set (.inl (inS _ sO)) _).set (.inl (inS _ se)) _).set (.inl (inS _ se)) _).set (.inl (.inl rfl)) _).drew
end Go.Proofs.Ytcebljcofkohiaa
