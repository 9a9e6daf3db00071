/- Layer 13: find: the way of an address down a tree. -/
import Derived.Test.YtpognbkdafnfjaaDoorAcRp
import Derived.Test.YtpognbkdafnfjaaDoorAcPc
import Derived.Test.YtpognbkdafnfjaaDoorAcTr
namespace Go.Proofs.YtpognbkdafnfjaaDoor
set_option linter.unusedVariables false
set_option linter.unusedSimpArgs false
open Go.RowKit

theorem ad_cells (W : World) (v : Bool) (h l : Nat) : (W.alloc (adO v h l)).cell? ⟨W.heap.size, 0, none⟩ = some (.bool v) ∧ (W.alloc (adO v h l)).cell? ⟨W.heap.size, 1, none⟩ = some (.int .u64 h) ∧ (W.alloc (adO v h l)).cell? ⟨W.heap.size, 2, none⟩ = some (.int .u64 l) := by
  have hh := heap_alloc_last W (adO v h l)
  exact ⟨cell_of_heap hh rfl, cell_of_heap hh rfl, cell_of_heap hh rfl⟩
def NfRel (V : World) (D : Nd) (A : Bool → List Bool → Int) (a : Ad) (p act bits i : Value) (wr : World) : Prop :=
  ∃ (m : Nat) (x : Int) (b : Nat), i = .int .i64 (m : Int) ∧ m ≤ a.wd ∧ p = pO (D a.v6 (pth a m)) ∧ act = .int .i64 x ∧ bits = .int .i64 (b : Int) ∧ Best A a m x b ∧ Kp V wr
def NfPost (W : World) (A : Bool → List Bool → Int) (a : Ad) (e : Ending) (w' : World) : Prop :=
  ∃ (x : Int) (b : Nat), e = .returned (.tuple #[.int .i64 x, .int .i64 (b : Int)]) ∧ Best A a (a.wd + 1) x b ∧ Below W.heap.size W w'

set_option maxRecDepth 100000 in
set_option maxHeartbeats 4000000 in
theorem nfind_in {N : Nat} {W : World} {X : Nat} {D : Nd} {A : Bool → List Bool → Int} (T : Tr N W X D A) (v : Bool) (h l : Nat) (hh : h < 2 ^ 64) (hl : l < 2 ^ 64) :
    Calls Tryd.prog 24 #[pO (D v []), adV v h l] W fun e w' => NfPost W A ⟨v, h, l⟩ e w' := by
  obtain ⟨a, ha⟩ : ∃ a : Ad, (⟨v, h, l⟩ : Ad) = a := ⟨_, rfl⟩
  have haok : a.ok := by rw [← ha]; exact ⟨hh, hl⟩
  have hav : a.v6 = v := by rw [← ha]
  have HW : Hid (∀ w, Calls Tryd.prog 33 #[adV v h l] w fun e w' => e = .returned (.int .i64 (a.wd : Nat)) ∧ Below w.heap.size w w') := fun w => by rw [← ha]; exact width_b w v h l
  have HP : Hid (∀ w (m : Nat), m < a.wd → Calls Tryd.prog 30 #[adV v h l, .int .i64 (m : Int), .int .i64 1] w fun e w' => e = .returned (.int .u64 (((a.bt m).toNat : Nat) : Int)) ∧ Below w.heap.size w w') := fun w m hm => by
    have := piece_in w v h l m 1 hh hl (by rw [ha]; omega) (by omega)
    rw [ha, pcs_bit haok hm] at this
    exact this
  rw [ha]
  have hwd : a.wd ≤ 128 := by unfold Ad.wd; split <;> omega
  obtain ⟨V, hV, F, HB⟩ : ∃ V, W.alloc (adO v h l) = V ∧ Kp V V ∧ Hid (Below W.heap.size W V) := ⟨_, rfl, Kp.refl _, by unfold Hid; go_grown⟩
  have HT : Hid (∀ w, Kp V w → Tr N w X D A) := fun w k => T.blk (k.bel HB.out)
  have HS : Hid (∀ w, Kp V w → w.cell? ⟨W.heap.size, 0, none⟩ = some (.bool v) ∧ w.cell? ⟨W.heap.size, 1, none⟩ = some (.int .u64 (h : Int)) ∧ w.cell? ⟨W.heap.size, 2, none⟩ = some (.int .u64 (l : Int))) := fun w k => by
    have hc := ad_cells W v h l
    rw [hV] at hc
    have hb : W.heap.size < V.heap.size := by rw [← hV]; simp
    exact ⟨k.cell hc.1 hb, k.cell hc.2.1 hb, k.cell hc.2.2 hb⟩
  clear T hh hl ha
  have hstart : NfRel V D A a (pO (D v [])) (.int .i64 0) (.int .i64 0) (.int .i64 0) V := ⟨0, 0, 0, rfl, Nat.zero_le _, by rw [hav]; rfl, rfl, rfl, Best.zero _ _, F⟩
  have HST := Hid.mk hstart
  clear hstart F
  obtain ⟨p0, hp0⟩ : ∃ p0, pO (D v []) = p0 := ⟨_, rfl⟩
  rw [hp0] at HST ⊢
  clear hp0
  go_enter Tryd.func24, Tryd.ntmps24
  go_wp2
  try rw [hV]
  clear hV
  go_loopw [0, 4, 5, 6] (fun p x b i wr => NfRel V D A a p x b i wr) (fun _ _ _ i _ => a.wd + 1 - (intOf i).toNat)
  case atStart => exact HST.out
  case round =>
    obtain ⟨m, x, b, rfl, hm, rfl, rfl, rfl, hbest, K⟩ := hrel
    cases hD : D a.v6 (pth a m) with
    | none =>
      simp only [pO]
      go_wp2
      go_ret2
      exact ⟨_, _, rfl, hbest.far (by omega) (fun k hk _ => (HT.out _ K).none_pth hD k hk), K.bel HB.out⟩
    | some p =>
      obtain ⟨P, O⟩ := p
      simp only [pO]
      have hc1 := HS.out _ K
      have hc2 := ((HT.out _ K).cel _ _ _ hD).2
      simp only at hc2
      by_cases hy : A a.v6 (pth a m) = 0
      · have HBE := Hid.mk (hbest.none hy)
        rw [hy] at hc2
        go_wp2_with fail
        refine (HW.out _).mono ?_
        rintro e w1 ⟨rfl, hb1⟩
        have K1 := K.blk hb1
        clear K hc1 hc2
        by_cases hlt : m < a.wd
        · have hne : ¬ (m : Int) = (a.wd : Int) := by omega
          have hT1 := (HT.out _ K1).cel _ _ _ hD
          have hs1 := HS.out _ K1
          obtain ⟨bt, hbt⟩ : ∃ bt, a.bt m = bt := ⟨_, rfl⟩
          have hP := fun w => HP.out w m hlt
          rw [hbt] at hP
          have HP1 := Hid.mk hP
          have hch : ∀ w, Kp V w → w.cell? ⟨P, O + bt.toNat, none⟩ = some (pO (D a.v6 (pth a (m + 1)))) := fun w k => by
            rw [pth_succ, hbt]
            exact ((HT.out _ k).cel _ _ _ hD).1 bt
          have HCH := Hid.mk hch
          have hbl : bt.toNat < 2 := by cases bt <;> decide
          have hbz : ((bt.toNat : Nat) : Int) < 2 := by omega
          obtain ⟨NP, hNP⟩ : ∃ NP, pO (D a.v6 (pth a (m + 1))) = NP := ⟨_, rfl⟩
          rw [hNP] at HCH
          have HNP := Hid.mk hNP
          clear hNP hP hch hT1
          go_wp2
          clear hs1
          have HS2 : Hid (∀ w, Kp V w → Kp V w ∧ w.cell? ⟨W.heap.size, 0, none⟩ = some (.bool v) ∧ w.cell? ⟨W.heap.size, 1, none⟩ = some (.int .u64 (h : Int)) ∧ w.cell? ⟨W.heap.size, 2, none⟩ = some (.int .u64 (l : Int)) ∧ w.cell? ⟨P, O + bt.toNat, none⟩ = some NP) := fun w k => ⟨k, (HS.out w k).1, (HS.out w k).2.1, (HS.out w k).2.2, HCH.out w k⟩
          have hS0 := HS2.out _ K1
          go_region_held3 (fun w => Kp V w ∧ w.cell? ⟨W.heap.size, 0, none⟩ = some (.bool v) ∧ w.cell? ⟨W.heap.size, 1, none⟩ = some (.int .u64 (h : Int)) ∧ w.cell? ⟨W.heap.size, 2, none⟩ = some (.int .u64 (l : Int)) ∧ w.cell? ⟨P, O + bt.toNat, none⟩ = some NP)
            (first | assumption | (apply HS2.out; repeat (first | assumption | apply Kp.drew)))
            ((go_at_call 30; refine (HP1.out _).mono ?_; rintro e w2 ⟨rfl, hb2⟩; have K2 := Kp.blk (V := V) (by repeat (first | assumption | apply Kp.drew)) hb2; have hs2 := HS2.out _ K2))
          go_wp2
          exact ⟨⟨m + 1, _, _, by go_num, by omega, HNP.out.symm, rfl, rfl, HBE.out, K2⟩, by simp [intOf]; omega⟩
        · obtain rfl : m = a.wd := by omega
          go_wp2
          go_ret2
          exact ⟨_, _, rfl, HBE.out, K1.bel HB.out⟩
      · have HBE := Hid.mk (Best.some hy)
        generalize A a.v6 (pth a m) = y at hc2 hy HBE
        go_wp2_with fail
        refine (HW.out _).mono ?_
        rintro e w1 ⟨rfl, hb1⟩
        have K1 := K.blk hb1
        clear K hc1 hc2
        by_cases hlt : m < a.wd
        · have hne : ¬ (m : Int) = (a.wd : Int) := by omega
          have hT1 := (HT.out _ K1).cel _ _ _ hD
          have hs1 := HS.out _ K1
          obtain ⟨bt, hbt⟩ : ∃ bt, a.bt m = bt := ⟨_, rfl⟩
          have hP := fun w => HP.out w m hlt
          rw [hbt] at hP
          have HP1 := Hid.mk hP
          have hch : ∀ w, Kp V w → w.cell? ⟨P, O + bt.toNat, none⟩ = some (pO (D a.v6 (pth a (m + 1)))) := fun w k => by
            rw [pth_succ, hbt]
            exact ((HT.out _ k).cel _ _ _ hD).1 bt
          have HCH := Hid.mk hch
          have hbl : bt.toNat < 2 := by cases bt <;> decide
          have hbz : ((bt.toNat : Nat) : Int) < 2 := by omega
          obtain ⟨NP, hNP⟩ : ∃ NP, pO (D a.v6 (pth a (m + 1))) = NP := ⟨_, rfl⟩
          rw [hNP] at HCH
          have HNP := Hid.mk hNP
          clear hNP hP hch hT1
          go_wp2
          clear hs1
          have HS2 : Hid (∀ w, Kp V w → Kp V w ∧ w.cell? ⟨W.heap.size, 0, none⟩ = some (.bool v) ∧ w.cell? ⟨W.heap.size, 1, none⟩ = some (.int .u64 (h : Int)) ∧ w.cell? ⟨W.heap.size, 2, none⟩ = some (.int .u64 (l : Int)) ∧ w.cell? ⟨P, O + bt.toNat, none⟩ = some NP) := fun w k => ⟨k, (HS.out w k).1, (HS.out w k).2.1, (HS.out w k).2.2, HCH.out w k⟩
          have hS0 := HS2.out _ K1
          go_region_held3 (fun w => Kp V w ∧ w.cell? ⟨W.heap.size, 0, none⟩ = some (.bool v) ∧ w.cell? ⟨W.heap.size, 1, none⟩ = some (.int .u64 (h : Int)) ∧ w.cell? ⟨W.heap.size, 2, none⟩ = some (.int .u64 (l : Int)) ∧ w.cell? ⟨P, O + bt.toNat, none⟩ = some NP)
            (first | assumption | (apply HS2.out; repeat (first | assumption | apply Kp.drew)))
            ((go_at_call 30; refine (HP1.out _).mono ?_; rintro e w2 ⟨rfl, hb2⟩; have K2 := Kp.blk (V := V) (by repeat (first | assumption | apply Kp.drew)) hb2; have hs2 := HS2.out _ K2))
          go_wp2
          exact ⟨⟨m + 1, _, _, by go_num, by omega, HNP.out.symm, rfl, rfl, HBE.out, K2⟩, by simp [intOf]; omega⟩
        · obtain rfl : m = a.wd := by omega
          go_wp2
          go_ret2
          exact ⟨_, _, rfl, HBE.out, K1.bel HB.out⟩
end Go.Proofs.YtpognbkdafnfjaaDoor
