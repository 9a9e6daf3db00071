/- Layer 13: add: a rule is laid into a tree. -/
import Derived.Test.YtpognbkdafnfjaaDoorAcNf
namespace Go.Proofs.YtpognbkdafnfjaaDoor
set_option linter.unusedVariables false
set_option linter.unusedSimpArgs false
open Go.RowKit

abbrev rlO (v : Bool) (h l : Nat) (n act : Int) : Obj := .cells #[.bool v, .int .u64 h, .int .u64 l, .int .i64 n, .int .i64 act] 36 (0, 0)
theorem rl_cells (W : World) (v : Bool) (h l : Nat) (n act : Int) : (W.alloc (rlO v h l n act)).cell? ⟨W.heap.size, 0, none⟩ = some (.bool v) ∧ (W.alloc (rlO v h l n act)).cell? ⟨W.heap.size, 1, none⟩ = some (.int .u64 h) ∧ (W.alloc (rlO v h l n act)).cell? ⟨W.heap.size, 2, none⟩ = some (.int .u64 l) ∧ (W.alloc (rlO v h l n act)).cell? ⟨W.heap.size, 3, none⟩ = some (.int .i64 n) ∧ (W.alloc (rlO v h l n act)).cell? ⟨W.heap.size, 4, none⟩ = some (.int .i64 act) := by
  have hh := heap_alloc_last W (rlO v h l n act)
  exact ⟨cell_of_heap hh rfl, cell_of_heap hh rfl, cell_of_heap hh rfl, cell_of_heap hh rfl, cell_of_heap hh rfl⟩
/-- the box of the rule is none of the tree's. -/
def NaRel (N : Nat) (W V : World) (D0 : Nd) (X : Nat) (A : Bool → List Bool → Int) (a : Ad) (n : Nat) (p i : Value) (wr : World) : Prop :=
  ∃ (m : Nat) (D : Nd) (P O : Nat), i = .int .i64 (m : Int) ∧ m ≤ n ∧ p = .pointer (some ⟨P, O, none⟩) ∧ D a.v6 (pth a m) = some (P, O) ∧ Tr N wr X D A ∧ (∀ v q p, D v q = some p → D0 v q = some p ∨ V.heap.size ≤ p.1) ∧ Below N W wr ∧ V.heap.size ≤ wr.heap.size ∧ (∀ b, b < V.heap.size → (∀ v q p, D0 v q = some p → p.1 ≠ b) → wr.heap[b]? = V.heap[b]?)
def NaPost (N : Nat) (W : World) (D0 : Nd) (X : Nat) (A : Bool → List Bool → Int) (a : Ad) (n : Nat) (act : Int) (e : Ending) (w' : World) : Prop :=
  Below N W w' ∧ (∀ b, b < W.heap.size → (∀ v q p, D0 v q = some p → p.1 ≠ b) → w'.heap[b]? = W.heap[b]?) ∧ ((A a.v6 (pth a n) ≠ 0 ∧ e = .returned (.bool false)) ∨ (A a.v6 (pth a n) = 0 ∧ e = .returned (.bool true) ∧ ∃ D, Tr N w' X D (fun v q => if v = a.v6 ∧ q = pth a n then act else A v q)))

set_option maxRecDepth 100000 in
set_option maxHeartbeats 4000000 in
theorem nadd_in {N : Nat} {W : World} {X : Nat} {D : Nd} {A : Bool → List Bool → Int} (hN : N ≤ W.heap.size) (T : Tr N W X D A) (v : Bool) (h l n : Nat) (act : Int) (hh : h < 2 ^ 64) (hl : l < 2 ^ 64) (hn : n ≤ Ad.wd ⟨v, h, l⟩) :
    Calls Tryd.prog 22 #[pO (D v []), rlV v h l (n : Int) act] W fun e w' => NaPost N W D X A ⟨v, h, l⟩ n act e w' := by
  obtain ⟨a, ha⟩ : ∃ a : Ad, (⟨v, h, l⟩ : Ad) = a := ⟨_, rfl⟩
  have haok : a.ok := by rw [← ha]; exact ⟨hh, hl⟩
  have hav : a.v6 = v := by rw [← ha]
  rw [ha] at hn ⊢
  have HP : Hid (∀ w (m : Nat), m < n → Calls Tryd.prog 30 #[adV v h l, .int .i64 (m : Int), .int .i64 1] w fun e w' => e = .returned (.int .u64 (((a.bt m).toNat : Nat) : Int)) ∧ Below w.heap.size w w') := fun w m hm => by
    have := piece_in w v h l m 1 hh hl (by rw [ha]; omega) (by omega)
    rw [ha, pcs_bit haok (by omega)] at this
    exact this
  have hwd : a.wd ≤ 128 := by unfold Ad.wd; split <;> omega
  have hn8 : n ≤ 128 := by omega
  obtain ⟨V, hV⟩ : ∃ V, W.alloc (rlO v h l (n : Int) act) = V := ⟨_, rfl⟩
  have hbV : Below W.heap.size W V := by rw [← hV]; go_grown
  have hVs : W.heap.size < V.heap.size := by rw [← hV]; simp
  have HS : Hid (∀ w : World, w.heap[W.heap.size]? = V.heap[W.heap.size]? → w.cell? ⟨W.heap.size, 0, none⟩ = some (.bool v) ∧ w.cell? ⟨W.heap.size, 1, none⟩ = some (.int .u64 (h : Int)) ∧ w.cell? ⟨W.heap.size, 2, none⟩ = some (.int .u64 (l : Int)) ∧ w.cell? ⟨W.heap.size, 3, none⟩ = some (.int .i64 (n : Int)) ∧ w.cell? ⟨W.heap.size, 4, none⟩ = some (.int .i64 act)) := fun w hw => by
    have hh := heap_alloc_last W (rlO v h l (n : Int) act)
    rw [hV, ← hw] at hh
    exact ⟨cell_of_heap hh rfl, cell_of_heap hh rfl, cell_of_heap hh rfl, cell_of_heap hh rfl, cell_of_heap hh rfl⟩
  have HST : Hid (NaRel N W V D X A a n (pO (D v [])) (.int .i64 0) V) := by
    have hr := T.root v
    exact ⟨0, D, X, if v then 3 else 0, rfl, Nat.zero_le _, by rw [hr]; rfl, by rw [hav]; exact hr, T.blk hbV, fun v' q' p' hp' => .inl hp', hbV.mono hN, Nat.le_refl _, fun b _ _ => rfl⟩
  have HOLD : Hid (∀ v q p, D v q = some p → p.1 < W.heap.size) := fun v q p hp => (T.old v q p hp).2
  have HBV := Hid.mk hbV
  have hs0 := HS.out V rfl
  clear T hh hl ha hbV haok hn hwd
  obtain ⟨p0, hp0⟩ : ∃ p0, pO (D v []) = p0 := ⟨_, rfl⟩
  rw [hp0] at HST ⊢
  clear hp0
  go_enter Tryd.func22, Tryd.ntmps22
  go_wp2
  try rw [hV]
  clear hV hs0
  go_loopw [0, 10] (fun p i wr => NaRel N W V D X A a n p i wr) (fun _ i _ => n + 1 - (intOf i).toNat)
  case atStart => exact HST.out
  case round =>
    obtain ⟨m, D', P, O, rfl, hm, rfl, hD, T, hapart, hbel, hsz, hbox⟩ := hrel
    have hs1 := HS.out _ (hbox _ hVs (fun v q p hp => by have := HOLD.out v q p hp; omega))
    have hND := Nat.le_trans hN (Nat.le_of_lt hVs)
    by_cases hlt : m < n
    · go_wp2_with fail
      refine (HP.out _ m hlt).mono ?_
      rintro e w1 ⟨rfl, hb1⟩
      have T1 := T.blk hb1
      have hbox1 : ∀ b, b < V.heap.size → (∀ v q p, D v q = some p → p.1 ≠ b) → w1.heap[b]? = V.heap[b]? := fun b h1 h2 => (hb1.block _ (by omega)).trans (hbox b h1 h2)
      have hb1' : Below N W w1 := hbel.trans (hb1.mono (by have := hbel.size; omega))
      have hsz1 : V.heap.size ≤ w1.heap.size := Nat.le_trans hsz hb1.size
      have hc1 := (T1.cel _ _ _ hD).1 (a.bt m)
      have hf1 := T1.fro _ _ _ (O + (a.bt m).toNat) hD
      have ho1 := T1.old _ _ _ hD
      have hap := hapart _ _ _ hD
      simp only at hc1 hf1 ho1 hap
      have hps := pth_succ a m
      generalize a.bt m = bt at *
      have hbl : bt.toNat < 2 := by cases bt <;> decide
      have hbz : ((bt.toNat : Nat) : Int) < 2 := by omega
      clear T hs1 hb1 hbel hsz hbox
      cases hch : D' a.v6 (pth a m ++ [bt]) with
      | none =>
        have HE : Hid (NaRel N W V D X A a n (.pointer (some ⟨w1.heap.size, 0, none⟩)) (.int .i64 ((m : Int) + 1)) ((w1.alloc nodeO).setCell ⟨P, O + bt.toNat, none⟩ (.pointer (some ⟨w1.heap.size, 0, none⟩)))) := by
          refine ⟨m + 1, _, w1.heap.size, 0, by go_num, by omega, rfl, ?_, T1.grow (by omega) hD bt hch, fun v' q' p' hp' => ?_, ?_, ?_, ?_⟩
          · rw [if_pos ⟨rfl, hps⟩]
          · split at hp'
            · cases hp'
              right
              simp only
              omega
            · exact hapart v' q' p' hp'
          · exact (hb1'.alloc (by omega) _).setCell (p := ⟨P, O + bt.toNat, none⟩) ho1.1 _
          · rw [size_set]
            simp
            omega
          · intro b h1 h2
            have hPb : b ≠ P := by
              rcases hap with h | h
              · exact fun e => h2 _ _ _ h e.symm
              · omega
            rw [Below.heap_setCell _ _ _ _ hPb, ((Below.refl w1.heap.size w1).alloc (Nat.le_refl _) nodeO).block _ (by omega)]
            exact hbox1 b h1 h2
        rw [hch] at hc1
        simp only [pO] at hc1
        have hPn : ¬ P = w1.heap.size := by omega
        have hal : (w1.alloc nodeO).cell? ⟨P, O + bt.toNat, none⟩ = some (.pointer none) := (((Below.refl w1.heap.size w1).alloc (Nat.le_refl _) nodeO).cell (p := ⟨P, O + bt.toNat, none⟩) ho1.2).trans hc1
        have hfl : (w1.alloc nodeO).frozen? ⟨P, O + bt.toNat, none⟩ = false := (((Below.refl w1.heap.size w1).alloc (Nat.le_refl _) nodeO).frozen (p := ⟨P, O + bt.toNat, none⟩) ho1.2).trans hf1
        rw [World.setCell_alloc_past _ _ _ _ ho1.2] at HE
        clear T1 hapart hD hch hps
        go_wp2
        exact ⟨HE.out, by simp [intOf]; omega⟩
      | some p2 =>
        obtain ⟨P2, O2⟩ := p2
        have HE : Hid (NaRel N W V D X A a n (.pointer (some ⟨P2, O2, none⟩)) (.int .i64 ((m : Int) + 1)) w1) :=
          ⟨m + 1, D', P2, O2, by go_num, by omega, rfl, by rw [hps]; exact hch, T1, hapart, hb1', hsz1, hbox1⟩
        rw [hch] at hc1
        simp only [pO] at hc1
        clear T1 hapart hD hch hps
        go_wp2
        exact ⟨HE.out, by simp [intOf]; omega⟩
    · obtain rfl : m = n := by omega
      have hc1 := (T.cel _ _ _ hD).2
      have hf1 := T.fro _ _ _ (O + 2) hD
      have ho1 := T.old _ _ _ hD
      simp only at hc1 hf1 ho1
      by_cases hz : A a.v6 (pth a m) = 0
      · have HE : Hid (NaPost N W D X A a m act (.returned (.bool true)) (wr.setCell ⟨P, O + 2, none⟩ (.int .i64 act))) :=
          ⟨hbel.setCell (p := ⟨P, O + 2, none⟩) ho1.1 _, fun b h1 h2 => by
            have hPb : b ≠ P := by
              rcases hapart _ _ _ hD with h | h
              · exact fun e => h2 _ _ _ h e.symm
              · simp only at h
                omega
            rw [Below.heap_setCell _ _ _ _ hPb, hbox b (by omega) h2]
            exact HBV.out.block b h1, .inr ⟨hz, rfl, D', T.act hD act⟩⟩
        rw [hz] at hc1
        clear T hD hapart
        go_wp2
        go_ret
        exact HE.out
      · have HE : Hid (NaPost N W D X A a m act (.returned (.bool false)) wr) := ⟨hbel, fun b h1 h2 => (hbox b (by omega) h2).trans (HBV.out.block b h1), .inl ⟨hz, rfl⟩⟩
        generalize A a.v6 (pth a m) = y at hc1 hz
        clear T hD hapart
        go_wp2
        go_ret
        exact HE.out
end Go.Proofs.YtpognbkdafnfjaaDoor
