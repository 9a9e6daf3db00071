/- Layer 13: read. -/
import Derived.Test.YtpognbkdafnfjaaDoorAcRd
namespace Go.Proofs.YtpognbkdafnfjaaDoor
set_option linter.unusedVariables false
set_option linter.unusedSimpArgs false
open Go.RowKit

theorem results_ab {fn : Func} {p j : Tmp} (h : fn.results = #[.cell p 32, .tmp j]) {tmps : Array Value} {W : World} {b : Nat} {x y z : Value} {t : Value} (hp : tmps.getD p undef = .pointer (some ⟨b, 0, none⟩)) (ht : tmps.getD j undef = t) (hb : W.heap[b]? = some (.cells #[x, y, z] 32 (0, 0))) : (results fn tmps).run Tryd.prog W = .ok (.tuple #[.agg #[x, y, z], t]) W := by
  have ht' : tmps[j]?.getD undef = t := by simpa using ht
  have hp' : tmps[p]?.getD undef = .pointer (some ⟨b, 0, none⟩) := by simpa using hp
  have hl : (loadVar 32 ⟨b, 0, none⟩).run Tryd.prog W = .ok (.agg #[x, y, z]) W := run_loadVar_row W b _ _ _ (0, 0) _ hb Tryd.underlying32 rfl sizeAd
  simp only [results, h]
  simp [hp', ht', asAddr, hl]
theorem heap_set_a {w : World} {b : Nat} {c : Array Value} {t : TypeId} {f : Nat × Nat} (h : w.heap[b]? = some (.cells c t f)) (i : Nat) (v : Value) : (w.setCell ⟨b, i, none⟩ v).heap[b]? = some (.cells (c.setIfInBounds i v) t f) := by
  simp only [World.setCell, Array.getElem?_modify, if_true, h]
  rfl
theorem frozen_a {w : World} {b : Nat} {c : Array Value} {t : TypeId} (h : w.heap[b]? = some (.cells c t (0, 0))) (i : Nat) : w.frozen? ⟨b, i, none⟩ = false := by
  unfold World.frozen?
  rw [show (⟨b, i, none⟩ : Addr).block = b from rfl, h]
  simp
theorem ad_three {w : World} {b : Nat} {x0 x1 x2 : Value} (h : w.heap[b]? = some (.cells #[x0, x1, x2] 32 (0, 0))) (x y z : Value) : (((w.setCell ⟨b, 0, none⟩ x).setCell ⟨b, 1, none⟩ y).setCell ⟨b, 2, none⟩ z).heap[b]? = some (.cells #[x, y, z] 32 (0, 0)) :=
  heap_set_a (heap_set_a (heap_set_a h 0 x) 1 y) 2 z
theorem Ko.set3 {V u : World} {P : Nat} (h : Ko V P u) (x y z : Value) : Ko V P (((u.setCell ⟨P, 0, none⟩ x).setCell ⟨P, 1, none⟩ y).setCell ⟨P, 2, none⟩ z) := ((h.set 0 x).set 1 y).set 2 z
theorem heap_four (w : World) (a b c d : Obj) : ((((w.alloc a).alloc b).alloc c).alloc d).heap[w.heap.size]? = some a ∧ ((((w.alloc a).alloc b).alloc c).alloc d).heap[w.heap.size + 1]? = some b ∧ ((((w.alloc a).alloc b).alloc c).alloc d).heap[w.heap.size + 1 + 1 + 1]? = some d := by
  refine ⟨?_, ?_, ?_⟩
  · have hb : Below (w.alloc a).heap.size (w.alloc a) ((((w.alloc a).alloc b).alloc c).alloc d) := by go_grown
    exact (hb.block w.heap.size (by simp)).trans (heap_alloc_last _ _)
  · show ((((w.heap.push a).push b).push c).push d)[w.heap.size + 1]? = _
    simp [Array.getElem_push]
  · show ((((w.heap.push a).push b).push c).push d)[w.heap.size + 1 + 1 + 1]? = _
    simp [Array.getElem_push]
def RdRel (V : World) (P : Nat) (s : Sh) (L : List (List UInt8)) (v : Bool) (i : Value) (wr : World) : Prop :=
  ∃ (k : Nat) (x : Ad), i = .int .i64 (k : Int) ∧ k ≤ L.length ∧ Ko V P wr ∧ wr.heap[P]? = some (adO x.v6 x.hi x.lo) ∧ x.ok ∧ x.v6 = v ∧ rdG s ⟨v, 0, 0⟩ L = rdG s x (L.drop k)
def RdPost (R : Option Ad) (ok : Bool) (e : Ending) : Prop := (R = none ∧ e = .returned (.tuple #[adV false 0 0, .bool false])) ∨ ∃ a, R = some a ∧ a.ok ∧ e = .returned (.tuple #[adV a.v6 a.hi a.lo, .bool ok])

set_option maxRecDepth 100000 in
set_option maxHeartbeats 4000000 in
theorem read_in (t : ByteArray) (ht : t.size ≤ 140737488355328) (W : World) (hG : AG W) :
    Calls Tryd.prog 32 #[.string t] W fun e w' => RdPost (rdT t.data.toList) (decide ((cutT t.data.toList).length = (shp (six t.data.toList)).parts)) e ∧ Below W.heap.size W w' := by
  have HC : Hid (∀ w, Calls Tryd.prog 41 #[.string t, .string ⟨#[58]⟩] w fun e w' => e = .returned (.bool (six t.data.toList)) ∧ w' = w) := fun w => Tryd.strings_Contains_one t 58 w
  have HCS : Hid (∀ p ∈ cutT t.data.toList, p.length ≤ t.size) := fun p hp => spl_mem _ _ _ p hp
  unfold rdT
  obtain ⟨v, hv⟩ : ∃ v, six t.data.toList = v := ⟨_, rfl⟩
  obtain ⟨N, hN⟩ : ∃ N, (shp v).parts = N := ⟨_, rfl⟩
  obtain ⟨B, hB⟩ : ∃ B, (shp v).bits = B := ⟨_, rfl⟩
  obtain ⟨Q, hQ⟩ : ∃ Q, (shp v).base = Q := ⟨_, rfl⟩
  obtain ⟨m, hm⟩ : ∃ m, (shp v).mark = m := ⟨_, rfl⟩
  have hN8 : N = 4 ∨ N = 8 := by rw [← hN]; cases v <;> simp [shp]
  have HB16 : Hid (B ≤ 16) := by rw [← hB]; cases v <;> simp [shp, Hid]
  have HSP : Hid (∀ w, Calls Tryd.prog 42 #[.string t, .string ⟨#[m]⟩, .int .i64 ((N : Int) + 1)] w fun e w' => SpPost w (cutT t.data.toList) e w') := fun w => by
    have := splitn_in t m N (by omega) (by omega) w
    unfold cutT
    rw [hv, hm, hN]
    exact this
  rw [hv] at HC ⊢
  clear hv
  generalize cutT t.data.toList = L at *
  have HPU : Hid (∀ (p : List UInt8) w, p ∈ L → Below W.heap.size W w → Calls Tryd.prog 43 #[.string ⟨p.toArray⟩, .int .i64 (Q : Int), .int .i64 (B : Int)] w fun e w' => PupPost (puR Q (2 ^ B - 1) p) e ∧ Below w.heap.size w w') := fun p w hp hb => by
    have h1 : (⟨p.toArray⟩ : ByteArray).size = p.length := rfl
    have := HCS.out p hp
    rw [← hQ, ← hB]
    exact pup_in v ⟨p.toArray⟩ (by omega) w (hG.below hb)
  have HMV : Hid (∀ (x : Ad) (n : Nat) w, x.ok → x.v6 = v → n ≤ 2 ^ B - 1 → Calls Tryd.prog 44 #[adV x.v6 x.hi x.lo, .int .i64 (B : Int), .int .u64 (n : Int)] w fun e w' => e = .returned (adV (mvd x B n).v6 (mvd x B n).hi (mvd x B n).lo) ∧ Below w.heap.size w w') := fun x n w hx hxv hn => by
    subst hxv
    have hp := Nat.two_pow_pos B
    rw [← hB]
    rw [← hB] at hn hp
    exact moved_in x.v6 x.hi x.lo n hx.1 hx.2 (by omega) w
  have HSH : Hid (∀ w, Calls Tryd.prog 28 #[.bool v] w fun e w' => e = .returned (.agg #[.string ⟨#[m]⟩, .int .i64 (N : Int), .int .i64 (B : Int), .int .i64 (Q : Int)]) ∧ w' = w.alloc (.cells #[.string ⟨#[m]⟩, .int .i64 (N : Int), .int .i64 (B : Int), .int .i64 (Q : Int)] 66 (0, 0))) := fun w => by
    rw [← hN, ← hB, ← hQ, ← hm]
    exact shape_in w v
  have HR0 : Hid (∀ (x : Ad) (p : List UInt8) (r : List (List UInt8)), puR Q (2 ^ B - 1) p = none → rdG (shp v) x (p :: r) = none) := fun x p r h => by rw [rdG, hQ, hB, h]
  have HR1 : Hid (∀ (x : Ad) (p : List UInt8) (r : List (List UInt8)) (n : Nat), puR Q (2 ^ B - 1) p = some n → rdG (shp v) x (p :: r) = rdG (shp v) (mvd x B n) r) := fun x p r n h => by rw [rdG, hQ, hB, h]
  rw [hN]
  generalize shp v = S0 at *
  clear hG HCS hN hB hQ hm
  go_enter Tryd.func32, Tryd.ntmps32
  go_wp2_with fail
  refine (HC.out _).mono ?_
  rintro e w1 ⟨rfl, rfl⟩
  go_wp2_with fail
  refine (HSH.out _).mono ?_
  rintro e w1 ⟨rfl, rfl⟩
  go_wp2_with fail
  refine (HSP.out _).mono ?_
  rintro e w1 ⟨cap, M, rfl, hc1, hc2, hbx, hb1⟩
  obtain ⟨g0, g1, g2⟩ := heap_four W (.cells #[.bool false, .int .u64 0, .int .u64 0] 32 (0, 0)) (.cells #[.bool v, .int .u64 0, .int .u64 0] 32 (0, 0)) (.cells #[.string ⟨#[m]⟩, .int .i64 (N : Int), .int .i64 (B : Int), .int .i64 (Q : Int)] 66 (0, 0)) (.cells #[.string ⟨#[m]⟩, .int .i64 (N : Int), .int .i64 (B : Int), .int .i64 (Q : Int)] 66 (0, 0))
  replace g0 := (hb1.block W.heap.size (by first | (simp; done) | (simp; omega))).trans g0
  replace g1 := (hb1.block (W.heap.size + 1) (by first | (simp; done) | (simp; omega))).trans g1
  replace g2 := (hb1.block (W.heap.size + 1 + 1 + 1) (by first | (simp; done) | (simp; omega))).trans g2
  have HBV : Hid (Below W.heap.size W w1) := by
    have h0 : Below W.heap.size W ((((W.alloc (.cells #[.bool false, .int .u64 0, .int .u64 0] 32 (0, 0))).alloc (.cells #[.bool v, .int .u64 0, .int .u64 0] 32 (0, 0))).alloc (.cells #[.string ⟨#[m]⟩, .int .i64 (N : Int), .int .i64 (B : Int), .int .i64 (Q : Int)] 66 (0, 0))).alloc (.cells #[.string ⟨#[m]⟩, .int .i64 (N : Int), .int .i64 (B : Int), .int .i64 (Q : Int)] 66 (0, 0))) := by go_grown
    exact h0.trans (hb1.mono (by simp; omega))
  have hsz : W.heap.size + 1 + 1 + 1 + 1 < w1.heap.size := by
    have := (Array.getElem?_eq_some_iff.1 hbx).1
    simpa using this
  have hbx' : w1.heap[W.heap.size + 1 + 1 + 1 + 1]? = some (.cells (spR L M) 9 (0, 0)) := by simpa using hbx
  clear hb1 hbx
  go_wp2
  obtain ⟨b0, hb0⟩ : ∃ b0, W.heap.size = b0 := ⟨_, rfl⟩
  obtain ⟨P, hP⟩ : ∃ P, b0 + 1 = P := ⟨_, rfl⟩
  obtain ⟨Sb, hSb⟩ : ∃ Sb, P + 1 + 1 = Sb := ⟨_, rfl⟩
  obtain ⟨G, hGG⟩ : ∃ G, Sb + 1 = G := ⟨_, rfl⟩
  rw [hb0] at g0 g1 g2 hbx' hsz ⊢
  rw [hP] at g1 g2 hbx' hsz ⊢
  rw [hSb] at g2 hbx' hsz ⊢
  rw [hGG] at hbx' hsz ⊢
  have HST : Hid (RdRel w1 P S0 L v (.int .i64 0) w1) := ⟨0, ⟨v, 0, 0⟩, rfl, Nat.zero_le _, Ko.refl _ _, g1, zero_ok v, rfl, by rw [List.drop_zero]⟩
  have HS : Hid (∀ w, Ko w1 P w → w.heap[b0]? = some (.cells #[.bool false, .int .u64 0, .int .u64 0] 32 (0, 0)) ∧ w.cell? ⟨Sb, 1, none⟩ = some (.int .i64 (N : Int)) ∧ w.cell? ⟨Sb, 2, none⟩ = some (.int .i64 (B : Int)) ∧ w.cell? ⟨Sb, 3, none⟩ = some (.int .i64 (Q : Int)) ∧ w.heap[G]? = some (.cells (spR L M) 9 (0, 0))) := fun w k => by
    have e0 := (k.same b0 (by omega) (by omega)).trans g0
    have e2 := (k.same Sb (by omega) (by omega)).trans g2
    have e3 := (k.same G (by omega) (by omega)).trans hbx'
    exact ⟨e0, cell_of_heap e2 rfl, cell_of_heap e2 rfl, cell_of_heap e2 rfl, e3⟩
  have HWP : Hid (W.heap.size ≤ P) := by unfold Hid; omega
  have HW0 : Hid (W.heap.size ≤ b0) := by unfold Hid; omega
  have hbP : ¬ b0 = P := by omega
  have hPb : ¬ P = b0 := by omega
  have hbS : ¬ b0 = Sb := by omega
  have hSB : ¬ Sb = b0 := by omega
  clear g0 g1 g2 hbx' hsz hP hSb hGG
  go_loopw [26] (fun i wr => RdRel w1 P S0 L v i wr) (fun i _ => L.length + 1 - (intOf i).toNat)
  case atStart => exact HST.out
  case round =>
    obtain ⟨k, x, rfl, hk, K, hax, hxo, hxv, hrd⟩ := hrel
    have HXV := Hid.mk hxv
    clear hxv
    obtain ⟨s0, s1, s2, s3, s4⟩ := HS.out _ K
    have c0 := cell_of_heap (i := 0) hax rfl
    have c1 := cell_of_heap (i := 1) hax rfl
    have c2 := cell_of_heap (i := 2) hax rfl
    by_cases hlt : k < L.length
    · have hp : wr.cell? ⟨G, k, none⟩ = some (.string ⟨L[k].toArray⟩) := by
        refine cell_of_heap s4 ?_
        unfold spR
        rw [List.getElem?_toArray, List.getElem?_append_left (by rw [sv_len]; exact hlt)]
        unfold sv
        rw [List.getElem?_map, List.getElem?_eq_getElem hlt]
        rfl
      have hdr : L.drop k = L[k] :: L.drop (k + 1) := List.drop_eq_getElem_cons hlt
      have HPU1 := Hid.mk (fun w => HPU.out L[k] w (List.getElem_mem hlt))
      rw [hdr] at hrd
      generalize L[k] = p at hp HPU1 hrd
      have hki : (k : Int) < (L.length : Int) := by omega
      have HRD := Hid.mk hrd
      clear hdr hrd
      go_wp2_with fail
      refine (HPU1.out _ (K.bel HBV.out HWP.out)).mono ?_
      rintro e w2 ⟨hpp, hb2⟩
      have K2 := K.blk hb2
      have hax2 : w2.heap[P]? = some (adO x.v6 x.hi x.lo) := (hb2.block P (Array.getElem?_eq_some_iff.1 hax).1).trans hax
      obtain ⟨s0', s1', s2', s3', s4'⟩ := HS.out _ K2
      rcases hpp with ⟨n, hpn, rfl⟩ | ⟨hpn, y, te, pe, rfl⟩
      · have d0 := cell_of_heap (i := 0) hax2 rfl
        have d1 := cell_of_heap (i := 1) hax2 rfl
        have d2 := cell_of_heap (i := 2) hax2 rfl
        have hn := puR_le hpn
        have HMV1 := Hid.mk (fun w => HMV.out x n w hxo HXV.out hn)
        have HNX : Hid (RdRel w1 P S0 L v (.int .i64 ((k : Int) + 1)) = RdRel w1 P S0 L v (.int .i64 ((k : Int) + 1))) := rfl
        have hxo2 := mvd_ok (n := n) hxo HB16.out (by have := Nat.two_pow_pos B; omega)
        have hxv2 := (mvd_v6 x B n).trans HXV.out
        have hr2 := HRD.out.trans (HR1.out x p (L.drop (k + 1)) n hpn)
        have HX := Hid.mk (And.intro hxo2 (And.intro hxv2 hr2))
        clear hxo2 hxv2 hr2 hpn hn s4 s4' c0 c1 c2 hp
        generalize mvd x B n = x2 at HMV1 HX
        go_wp2_with fail
        refine (HMV1.out _).mono ?_
        rintro e w3 ⟨rfl, hb3⟩
        have K3 := K2.blk hb3
        have hax3 : w3.heap[P]? = some (adO x.v6 x.hi x.lo) := (hb3.block P (Array.getElem?_eq_some_iff.1 hax2).1).trans hax2
        have e0 := cell_of_heap (i := 0) hax3 rfl
        have e1 := cell_of_heap (i := 1) hax3 rfl
        have e2 := cell_of_heap (i := 2) hax3 rfl
        have f0 := frozen_a hax3 0
        have f1 := frozen_a hax3 1
        have f2 := frozen_a hax3 2
        have HE : Hid (RdRel w1 P S0 L v (.int .i64 ((k : Int) + 1)) (((w3.setCell ⟨P, 0, none⟩ (.bool x2.v6)).setCell ⟨P, 1, none⟩ (.int .u64 (x2.hi : Int))).setCell ⟨P, 2, none⟩ (.int .u64 (x2.lo : Int)))) :=
          ⟨k + 1, x2, by go_num, by omega, K3.set3 _ _ _, ad_three hax3 _ _ _, HX.out.1, HX.out.2.1, HX.out.2.2⟩
        clear d0 d1 d2 hax hax2 hax3 s0 s0'
        go_wp2
        exact ⟨HE.out, by simp [intOf]; omega⟩
      · have HE : Hid (rdG S0 ⟨v, 0, 0⟩ L = none) := HRD.out.trans (HR0.out x p _ hpn)
        have e0 := cell_of_heap (i := 0) s0' rfl
        have e1 := cell_of_heap (i := 1) s0' rfl
        have e2 := cell_of_heap (i := 2) s0' rfl
        have f0 := frozen_a s0' 0
        have f1 := frozen_a s0' 1
        have f2 := frozen_a s0' 2
        have HS0 := Hid.mk s0'
        clear s0 s4 s4' s0' hax hax2 hp hpn
        go_wp2
        refine bodyPost_ret (results_ab Tryd.results32 rfl rfl (ad_three HS0.out _ _ _)) rfl ⟨.inl ⟨HE.out, rfl⟩, ?_⟩
        exact (((K2.bel HBV.out HWP.out).setCell (p := ⟨b0, 0, none⟩) HW0.out _).setCell (p := ⟨b0, 1, none⟩) HW0.out _).setCell (p := ⟨b0, 2, none⟩) HW0.out _
    · obtain rfl : k = L.length := by omega
      have HE : Hid (rdG S0 ⟨v, 0, 0⟩ L = some x) := by rw [List.drop_eq_nil_of_le (Nat.le_refl _)] at hrd; exact hrd
      have e0 := cell_of_heap (i := 0) s0 rfl
      have e1 := cell_of_heap (i := 1) s0 rfl
      have e2 := cell_of_heap (i := 2) s0 rfl
      have f0 := frozen_a s0 0
      have f1 := frozen_a s0 1
      have f2 := frozen_a s0 2
      have HS0 := Hid.mk s0
      have HXO := Hid.mk hxo
      clear s0 s4 hax hrd hxo
      go_wp2
      go_region
      go_wp2
      refine bodyPost_ret (results_ab Tryd.results32 rfl rfl (ad_three (w := wr) HS0.out _ _ _)) rfl ⟨.inr ⟨x, HE.out, HXO.out, ?_⟩, ?_⟩
      · have e : ((L.length : Int) == (N : Int)) = decide (L.length = N) := by
          rw [Bool.eq_iff_iff]
          simp
          omega
        rw [← e]
        rfl
      · exact ((((K.bel HBV.out HWP.out).setCell (p := ⟨b0, 0, none⟩) HW0.out _).setCell (p := ⟨b0, 1, none⟩) HW0.out _).setCell (p := ⟨b0, 2, none⟩) HW0.out _).drew
end Go.Proofs.YtpognbkdafnfjaaDoor
