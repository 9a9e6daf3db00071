/- Texts of this proof, joined: NPow, NInvF, NInv, NIv, CMod. -/
import Derived.Test.YtpimliebiapnfaaGreatDoorJ8
import Derived.Deep.RegionHeld3
import Derived.Deep.LoopGhost
import Derived.Test.YtpimliebiapnfaaGreatDoorJ7
/- Pow. -/
namespace Go.Proofs.YtpimliebiapnfaaGreatDoor.N
set_option linter.unusedVariables false
open Go.RowKit
attribute [local go_sem ↓] loadAt_nat storeAt_nat build_nat build_nat'
attribute [local go_sem] st1 st2a st2b natBuild_run
theorem flt_ok (M : Nat) : flt M = 0 ↔ M ≠ 0 ∧ btl M ≤ 2048 := by
  unfold flt
  split
  · simp_all
  · split
    · simp_all
    · simp_all
end Go.Proofs.YtpimliebiapnfaaGreatDoor.N
/- Facts on Euclid's steps: what stands while a number's inverse is looked for. -/
namespace Go.Proofs.YtpimliebiapnfaaGreatDoor.N
set_option linter.unusedVariables false
open Go.RowKit
theorem mod_cancel {x y c M : Nat} (h : (x + c) % M = (y + c) % M) : x % M = y % M := by
  have h1 : ((x : Int) + (c : Int)) % (M : Int) = ((y : Int) + (c : Int)) % (M : Int) := by exact_mod_cast congrArg (Nat.cast : Nat → Int) h
  have h2 := (Int.emod_add_cancel_right (c : Int)).1 h1
  exact_mod_cast h2
structure Euc (A M g l f n : Nat) (b : Bool) : Prop where
  gpos : 0 < g
  gcd : Nat.gcd g l = Nat.gcd M A
  tot : f * l + n * g = M
  less : l < g
  npos : 0 < n
  pos : b = true → (g + f * A) % M = 0 ∧ n * A % M = l % M
  neg : b = false → f * A % M = g % M ∧ (l + n * A) % M = 0
theorem euc_start (A M : Nat) (hM : M ≠ 0) : Euc A M M (A % M) 0 1 true where
  gpos := by omega
  gcd := by rw [Nat.gcd_comm M (A % M), ← Nat.gcd_rec]
  tot := by omega
  less := Nat.mod_lt _ (by omega)
  npos := by omega
  pos := fun _ => ⟨by simp, by simp⟩
  neg := fun h => by cases h
theorem euc_step (A M g l f n : Nat) (b : Bool) (h : Euc A M g l f n b) (hl : 0 < l) : Euc A M l (g % l) n (g / l * n + f) (!b) where
  gpos := hl
  gcd := by rw [← h.gcd, Nat.gcd_comm l (g % l), ← Nat.gcd_rec, Nat.gcd_comm]
  tot := by
    have e := Nat.div_add_mod g l
    have t := h.tot
    have : (g / l * n + f) * l = n * (l * (g / l)) + f * l := by
      rw [Nat.add_mul, Nat.mul_comm (g / l) n, Nat.mul_assoc, Nat.mul_comm (g / l) l]
    rw [this, ← Nat.add_assoc, ← Nat.mul_add, Nat.add_comm (g % l), e]
    omega
  less := Nat.mod_lt _ hl
  npos := by
    have h1 : 0 < g / l := Nat.div_pos (Nat.le_of_lt h.less) hl
    have h2 := Nat.mul_pos h1 h.npos
    omega
  pos := fun hb => by
    have hb' : b = false := by cases b <;> simp_all
    obtain ⟨p1, p2⟩ := h.neg hb'
    refine ⟨p2, ?_⟩
    have e := Nat.div_add_mod g l
    -- (q n + f) A ≡ g - q l
    generalize g / l = q at *
    generalize g % l = r at *
    have a1 : (q * n + f) * A + q * l = q * (l + n * A) + f * A := by
      rw [Nat.add_mul, Nat.mul_add, Nat.mul_assoc]; omega
    have a2 : (q * (l + n * A) + f * A) % M = g % M := by
      rw [Nat.add_mod, Nat.mul_mod, p2, Nat.mul_zero, Nat.zero_mod, Nat.zero_add, Nat.mod_mod, p1]
    rw [← a1, ← e, Nat.mul_comm l q, Nat.add_comm (q * l) r] at a2
    have a3 : ((q * n + f) * A + q * l) % M = (r + q * l) % M := a2
    exact mod_cancel a3
  neg := fun hb => by
    have hb' : b = true := by cases b <;> simp_all
    obtain ⟨p1, p2⟩ := h.pos hb'
    refine ⟨p2, ?_⟩
    have e := Nat.div_add_mod g l
    generalize g / l = q at *
    generalize g % l = r at *
    have a1 : r + (q * n + f) * A + q * l = (g + f * A) + q * (n * A) := by
      rw [Nat.add_mul, Nat.mul_assoc, ← e, Nat.mul_comm l q]; omega
    have a2 : ((g + f * A) + q * (n * A)) % M = (0 + q * l) % M := by
      rw [Nat.add_mod, p1, Nat.mul_mod, p2, ← Nat.mul_mod, Nat.zero_add, Nat.zero_add, Nat.mod_mod]
    rw [← a1] at a2
    have a3 := mod_cancel a2
    have a4 : (r + (q * n + f) * A) % M = 0 % M := a3
    rw [a4, Nat.zero_mod]
theorem Euc.le {A M g l f n : Nat} {b : Bool} (h : Euc A M g l f n b) : n ≤ M ∧ (0 < l → f ≤ M) := by
  have t := h.tot
  have g0 := h.gpos
  constructor
  · have : n * 1 ≤ n * g := Nat.mul_le_mul_left _ g0
    omega
  · intro hl
    have : f * 1 ≤ f * l := Nat.mul_le_mul_left _ hl
    omega
theorem Euc.gle {A M g l f n : Nat} {b : Bool} (h : Euc A M g l f n b) : g ≤ M ∧ l < M := by
  have t := h.tot
  have : 1 * g ≤ n * g := Nat.mul_le_mul_right _ h.npos
  have := h.less
  omega
theorem euc_more (A M g l f n : Nat) (b : Bool) (h : Euc A M g l f n b) (hl : 0 < l) : g / l * n + f ≤ M ∧ n ≤ M := ⟨(euc_step A M g l f n b h hl).le.1, h.le.1⟩
def InvIs (A M I : Nat) (v : Int) : Prop := (v = 0 ∧ I < M ∧ A * I % M = 1 % M) ∨ (v = 13 ∧ I = 0 ∧ Nat.gcd M A ≠ 1)
theorem euc_none (A M g f n : Nat) (b : Bool) (h : Euc A M g 0 f n b) (h1 : g ≠ 1) : InvIs A M 0 13 := by
  refine Or.inr ⟨rfl, rfl, ?_⟩
  rw [← h.gcd, Nat.gcd_zero_right]
  exact h1
theorem euc_above (A M f n : Nat) (h : Euc A M 1 0 f n false) (hM : M ≠ 0) : InvIs A M (f % M) 0 := by
  obtain ⟨p1, p2⟩ := h.neg rfl
  refine Or.inl ⟨rfl, Nat.mod_lt _ (by omega), ?_⟩
  rw [Nat.mul_mod, Nat.mod_mod, ← Nat.mul_mod, Nat.mul_comm]
  exact p1
theorem euc_below (A M f n : Nat) (h : Euc A M 1 0 f n true) (hf : f ≤ M) (hM : M ≠ 0) : InvIs A M ((M - f) % M) 0 := by
  obtain ⟨p1, p2⟩ := h.pos rfl
  refine Or.inl ⟨rfl, Nat.mod_lt _ (by omega), ?_⟩
  rw [Nat.mul_mod, Nat.mod_mod, ← Nat.mul_mod, Nat.mul_comm]
  refine mod_cancel (c := f * A) ?_
  rw [← Nat.add_mul, Nat.sub_add_cancel hf, Nat.mul_comm, Nat.mul_mod_left, p1]
theorem inv_one {A M I : Nat} {v : Int} (h : InvIs A M I v) : ∀ {J : Nat} {u : Int}, InvIs A M J u → (v = u ∧ I = J) := by
  intro J u k
  have cop : ∀ K, A * K % M = 1 % M → Nat.gcd M A = 1 := fun K hK => by
    have d1 : Nat.gcd M A ∣ M := Nat.gcd_dvd_left _ _
    have d2 : Nat.gcd M A ∣ A * K := Nat.dvd_trans (Nat.gcd_dvd_right _ _) (Nat.dvd_mul_right _ _)
    have d3 : Nat.gcd M A ∣ A * K % M := (Nat.dvd_mod_iff d1).2 d2
    rw [hK] at d3
    have d4 := (Nat.dvd_mod_iff d1).1 d3
    exact Nat.dvd_one.1 d4
  rcases h with ⟨a1, a2, a3⟩ | ⟨a1, a2, a3⟩ <;> rcases k with ⟨b1, b2, b3⟩ | ⟨b1, b2, b3⟩
  · refine ⟨by rw [a1, b1], ?_⟩
    have e : ∀ x y, x < M → A * x % M = 1 % M → A * y % M = 1 % M → x = y % M := fun x y hx h1 h2 => by
      have q : x * (A * y) % M = y * (A * x) % M := by rw [Nat.mul_left_comm, Nat.mul_left_comm y, Nat.mul_comm x y]
      rw [Nat.mul_mod, h2, Nat.mul_mod y, h1, ← Nat.mul_mod, ← Nat.mul_mod, Nat.mul_one, Nat.mul_one, Nat.mod_eq_of_lt hx] at q
      exact q
    have := e I J a2 a3 b3
    rw [Nat.mod_eq_of_lt b2] at this
    exact this
  · exact absurd (cop I a3) b3
  · exact absurd (cop J b3) a3
  · exact ⟨by rw [a1, b1], by rw [a2, b2]⟩
end Go.Proofs.YtpimliebiapnfaaGreatDoor.N
/- inverse. -/
namespace Go.Proofs.YtpimliebiapnfaaGreatDoor.N
set_option linter.unusedVariables false
open Go.RowKit
attribute [local go_sem ↓] loadAt_nat storeAt_nat build_nat build_nat'
attribute [local go_sem] st1 st2a st2b st1d st2ad st2bd natBuild_run
theorem blk {w w' : World} {b : Nat} {o : Obj} (hb : Below w.heap.size w w') (h : w.heap[b]? = some o) : w'.heap[b]? = some o := (hb.block _ (box_lt h)).trans h
set_option maxRecDepth 100000 in
set_option maxHeartbeats 1000000 in
theorem inverse_in (A M : Nat) (hA : A < Lim) (hM : M < Lim) (hM0 : M ≠ 0) (hMM : M * M ≤ Lim) (W : World) : Calls Tryz.prog 125 #[.agg (natL A).toArray, .agg (natL M).toArray] W fun e w' => ∃ I v, InvIs A M I v ∧ e = .returned (.tuple #[.agg (natL I).toArray, .int .i64 v]) ∧ Below W.heap.size W w' := by
  obtain ⟨V, hV, b0, b1, b2, hBl, hsz⟩ := three_new W (natL A) (natL M) (natL 0) 38 38 38
  have hz := zero26
  have HMA := Hid.mk (modulo_in A M hA hM hM0)
  have HE0 := Hid.mk (euc_start A M hM0)
  obtain ⟨A', hA'⟩ : ∃ A', A % M = A' := ⟨_, rfl⟩
  rw [hA'] at HMA HE0
  clear hA'
  obtain ⟨K, hK⟩ : ∃ K : World → Prop, K = fun w => w.heap[W.heap.size]? = some (.cells (natL A).toArray 38 (0, 0)) ∧ w.heap[W.heap.size + 1]? = some (.cells (natL M).toArray 38 (0, 0)) ∧ w.heap[W.heap.size + 2]? = some (.cells (natL 0).toArray 38 (0, 0)) ∧ Below W.heap.size W w := ⟨_, rfl⟩
  have kV : K V := by rw [hK]; exact ⟨b0, b1, b2, hBl⟩
  have kd : ∀ w, K w → K w.drew := by rw [hK]; exact fun w h => ⟨h.1, h.2.1, h.2.2.1, h.2.2.2.drew⟩
  have kb : ∀ w w', K w → Below w.heap.size w w' → K w' := by
    rw [hK]
    exact fun w w' h hb => ⟨(hb.block _ (box_lt h.1)).trans h.1, (hb.block _ (box_lt h.2.1)).trans h.2.1, (hb.block _ (box_lt h.2.2.1)).trans h.2.2.1, bthen h.2.2.2 hb⟩
  have ka : ∀ w o, K w → K (w.alloc o) := fun w o h => kb w _ h ((Below.refl _ _).alloc (Nat.le_refl _) _)
  have ksz : ∀ w, K w → W.heap.size + 3 ≤ w.heap.size := by rw [hK]; exact fun w h => box_lt h.2.2.1
  have ks : ∀ w b (x : Array Value), K w → W.heap.size + 3 ≤ b → K (w.setRow b x) := by
    rw [hK]
    exact fun w b x h hb => ⟨(setRow_other _ _ _ _ (by omega)).trans h.1, (setRow_other _ _ _ _ (by omega)).trans h.2.1, (setRow_other _ _ _ _ (by omega)).trans h.2.2.1, below_row h.2.2.2 (by omega) _⟩
  have HKe : Hid (∀ w, K w → w.heap[W.heap.size]? = some (.cells (natL A).toArray 38 (0, 0)) ∧ w.heap[W.heap.size + 1]? = some (.cells (natL M).toArray 38 (0, 0)) ∧ w.heap[W.heap.size + 2]? = some (.cells (natL 0).toArray 38 (0, 0)) ∧ Below W.heap.size W w) := by rw [hK]; exact fun w h => h
  have HS : Hid (∀ w, K w → K w ∧ (natLoad (.pointer (some ⟨W.heap.size, 0, none⟩))).run Tryz.prog w = .ok (.agg (natL A).toArray) w ∧ (natLoad (.pointer (some ⟨W.heap.size + 1, 0, none⟩))).run Tryz.prog w = .ok (.agg (natL M).toArray) w) := fun w h => ⟨h, natLoad_run (HKe.out _ h).1, natLoad_run (HKe.out _ h).2.1⟩
  have KB := Hid.mk kb
  have ksw : ∀ u, K u → ∀ w (x : Array Value), K w → K (w.setRow u.heap.size x) := fun u hu w x h => ks w _ x h (ksz u hu)
  have ksw1 : ∀ u, K u → ∀ w (x : Array Value), K w → K (w.setRow (u.heap.size + 1) x) := fun u hu w x h => ks w _ x h (Nat.le_succ_of_le (ksz u hu))
  clear b0 b1 b2 hBl kb hK hsz
  go_enter Tryz.func125, Tryz.ntmps125
  go_upto_region 1 with fail
  simp only [Nat.add_assoc, Nat.reduceAdd]
  clear hV
  have hS0 := HS.out _ kV
  go_cut [6, 7] (fun s6 s7 wx => ∃ b c, s6 = .pointer (some ⟨b, 0, none⟩) ∧ s7 = .pointer (some ⟨c, 0, none⟩) ∧ K wx ∧ wx.heap[b]? = some (.cells (natL M).toArray 38 (0, 0)) ∧ wx.heap[c]? = some (.cells (natL A').toArray 38 (0, 0)) ∧ W.heap.size + 3 ≤ b ∧ W.heap.size + 3 ≤ c ∧ b ≠ c)
  case first =>
    go_region_held3 (fun w => K w ∧ (natLoad (.pointer (some ⟨W.heap.size, 0, none⟩))).run Tryz.prog w = .ok (.agg (natL A).toArray) w ∧ (natLoad (.pointer (some ⟨W.heap.size + 1, 0, none⟩))).run Tryz.prog w = .ok (.agg (natL M).toArray) w)
      (first | assumption | (apply HS.out; repeat (first | assumption | apply kd | apply ka | apply ksw | apply ksw1)))
      (first
        | (go_at_call 143; refine (HMA.out _).mono ?_; rintro e w2 ⟨rfl, hb2⟩; have k2 := KB.out _ _ (by repeat (first | assumption | apply kd | apply ka)) hb2; have hs2 := HS.out _ k2
           first
             | (refine wk2 hb2 ?_; rintro ⟨g1, g2, s1, s2, s12, s21⟩)
             | (refine wk1 hb2 ?_; rintro ⟨g1, lt1, s1, s12⟩)
             | skip))
    all_goals go_wp2
    all_goals go_meet
    all_goals have hk2 := ksz _ k2
    all_goals have hkV := ksz _ kV
    all_goals (first
      | exact ⟨w2.heap.size, w2.heap.size + 1, rfl, rfl, ka _ _ (ka _ _ k2), (two_new _ _ _ _ _).1, (two_new _ _ _ _ _).2.1, hk2, Nat.le_succ_of_le hk2, by omega⟩
      | exact ⟨w2.heap.size + 1, w2.heap.size, rfl, rfl, ka _ _ (ka _ _ k2), (two_new _ _ _ _ _).2.1, (two_new _ _ _ _ _).1, Nat.le_succ_of_le hk2, hk2, by omega⟩
      | exact ⟨V.heap.size, w2.heap.size, rfl, rfl, ksw _ k2 _ _ (ksw _ kV _ _ (ka _ _ k2)), (setRow_other _ _ _ _ (by omega)).trans (setRow_heap _ _ _ _ _ _ ((heap_alloc_old w2 _ lt1).trans g1)), setRow_heap _ _ _ _ _ _ ((setRow_other _ _ _ _ (by omega)).trans (heap_new w2 _)), hkV, hk2, by omega⟩
      | exact ⟨w2.heap.size, V.heap.size, rfl, rfl, ksw _ kV _ _ (ka _ _ k2), (setRow_other _ _ _ _ (by omega)).trans (heap_new w2 _), setRow_heap _ _ _ _ _ _ ((heap_alloc_old w2 _ lt1).trans g1), hk2, hkV, by omega⟩
      | exact ⟨V.heap.size, V.heap.size + 1, rfl, rfl, ksw1 _ kV _ _ (ksw _ kV _ _ k2), (setRow_other _ _ _ _ (by omega)).trans (setRow_heap _ _ _ _ _ _ g1), setRow_heap _ _ _ _ _ _ ((setRow_other _ _ _ _ (by omega)).trans g2), hkV, Nat.le_succ_of_le hkV, by omega⟩
      | exact ⟨V.heap.size + 1, V.heap.size, rfl, rfl, ksw _ kV _ _ (ksw1 _ kV _ _ k2), (setRow_other _ _ _ _ (by omega)).trans (setRow_heap _ _ _ _ _ _ g2), setRow_heap _ _ _ _ _ _ ((setRow_other _ _ _ _ (by omega)).trans g1), Nat.le_succ_of_le hkV, hkV, by omega⟩)
  case rest =>
    obtain ⟨bg, bl, rfl, rfl, kR, hbg, hbl, hbg3, hbl3, hne⟩ := hcut
    clear hS0 kV
    have HS0 := Hid.mk (small_in 0 (by omega))
    have HS1 := Hid.mk (small_in 1 (by omega))
    go_wp2_with fail
    refine (HS0.out _).mono ?_
    rintro e w3 ⟨rfl, hb3⟩
    have k3 := KB.out _ _ kR hb3
    have c1 := (hb3.block _ (box_lt hbg)).trans hbg
    have c2 := (hb3.block _ (box_lt hbl)).trans hbl
    clear hb3 hbg hbl kR
    go_wp2_with fail
    refine (HS1.out _).mono ?_
    rintro e w4 ⟨rfl, hb4⟩
    have k4 := KB.out _ _ k3 hb4
    have d1 := (hb4.block _ (box_lt c1)).trans c1
    have d2 := (hb4.block _ (box_lt c2)).trans c2
    clear hb4 c1 c2 k3
    go_upto_region 3 with fail
    obtain ⟨t0, t1, tB, tS⟩ := two_new w4 (natL 0) (natL 1) 38 38
    have e1 := (tB.block _ (box_lt d1)).trans d1
    have e2 := (tB.block _ (box_lt d2)).trans d2
    have k5 := KB.out _ _ k4 tB
    have n1 : bg < w4.heap.size := box_lt d1
    have n2 : bl < w4.heap.size := box_lt d2
    have n3 := ksz _ k4
    generalize ((w4.alloc (.cells (natL 0).toArray 38)).alloc (.cells (natL 1).toArray 38)) = U at t0 t1 e1 e2 k5 ⊢
    generalize w4.heap.size = bf at *
    clear tB tS d1 d2 k4
    go_wp2_with fail
    go_loopg [10] A' (fun k bv wr => ∃ g f n b, bv = .bool b ∧ Hid (Euc A M g k f n b) ∧ Hid (f ≤ M) ∧ K wr ∧ wr.heap[bg]? = some (.cells (natL g).toArray 38 (0, 0)) ∧ wr.heap[bl]? = some (.cells (natL k).toArray 38 (0, 0)) ∧ wr.heap[bf]? = some (.cells (natL f).toArray 38 (0, 0)) ∧ wr.heap[bf + 1]? = some (.cells (natL n).toArray 38 (0, 0)))
    case atStart => exact ⟨M, 0, 1, true, rfl, HE0, Nat.zero_le _, k5, e1, e2, t0, t1⟩
    case round =>
      obtain ⟨g, f, n, b, rfl, HEU, HFM, kr, h1, h2, h3, h4⟩ := hrel
      clear k5 e1 e2 t0 t1 HE0
      have cl : wr.cell? ⟨bl, 128, none⟩ = some (.int .i64 (mny gk : Int)) := (cells_at h2 (nat_many gk)).1
      obtain ⟨hgM, hlM⟩ := HEU.out.gle
      have hg0 := HEU.out.gpos
      have hgL : g < Lim := by omega
      have hlL : gk < Lim := by omega
      by_cases hl : gk = 0
      · subst hl
        have cl' : wr.cell? ⟨bl, 128, none⟩ = some (.int .i64 0) := cl
        clear cl hlM hlL
        go_upto_region 11 with fail
        have HC := Hid.mk (cmp_in g 1 hgL (lim_big 1 1 (by omega) (by omega)))
        obtain ⟨K2, hK2⟩ : ∃ K2 : World → Prop, K2 = fun w => K w ∧ w.heap[bg]? = some (.cells (natL g).toArray 38 (0, 0)) ∧ w.heap[bf]? = some (.cells (natL f).toArray 38 (0, 0)) := ⟨_, rfl⟩
        have k2r : K2 wr := by rw [hK2]; exact ⟨kr, h1, h3⟩
        have k2d : ∀ w, K2 w → K2 w.drew := by rw [hK2]; exact fun w h => ⟨kd _ h.1, h.2.1, h.2.2⟩
        have K2B : Hid (∀ w w', K2 w → Below w.heap.size w w' → K2 w') := by
          rw [Hid, hK2]
          exact fun w w' h hb => ⟨KB.out _ _ h.1 hb, (hb.block _ (box_lt h.2.1)).trans h.2.1, (hb.block _ (box_lt h.2.2)).trans h.2.2⟩
        have HK2 : Hid (∀ w, K2 w → K w ∧ w.heap[bg]? = some (.cells (natL g).toArray 38 (0, 0)) ∧ w.heap[bf]? = some (.cells (natL f).toArray 38 (0, 0))) := by rw [hK2]; exact fun w h => h
        have HS2 : Hid (∀ w, K2 w → K2 w ∧ (natLoad (.pointer (some ⟨bg, 0, none⟩))).run Tryz.prog w = .ok (.agg (natL g).toArray) w) := fun w h => ⟨h, natLoad_run (HK2.out _ h).2.1⟩
        have hS2 := HS2.out _ k2r
        clear hK2 h1 h2 h3 h4 kr cl'
        go_region_held3 (fun w => K2 w ∧ (natLoad (.pointer (some ⟨bg, 0, none⟩))).run Tryz.prog w = .ok (.agg (natL g).toArray) w)
          (first | assumption | (apply HS2.out; repeat (first | assumption | apply k2d)))
          (first
            | (go_at_call 45; refine (HS1.out _).mono ?_; rintro e w6 ⟨rfl, hb6⟩; have k26 := K2B.out _ _ (by repeat (first | assumption | apply k2d)) hb6; have hs6 := HS2.out _ k26)
            | (go_at_call 103; refine (HC.out _).mono ?_; rintro e w7 ⟨rfl, hb7⟩; have k27 := K2B.out _ _ (by repeat (first | assumption | apply k2d)) hb7; have hs7 := HS2.out _ k27))
        obtain ⟨k7, j1, j3⟩ := HK2.out _ k27
        clear hS2 hs6 hs7 k26 k27 k2r k2d hb6 hb7
        have hres := (HKe.out _ k7).2.2.1
        have hBW := (HKe.out _ k7).2.2.2
        by_cases hg1 : g = 1
        · subst hg1
          have hcz : cmpI 1 1 = 0 := cmpI_eq 1
          have lM := natLoad_run (HKe.out _ k7).2.1
          have lf := natLoad_run j3
          rw [hcz]
          cases b with
          | true =>
            have HIV := Hid.mk (euc_below A M f n HEU.out HFM.out hM0)
            have HSB := Hid.mk (sub_in M f hM (by have := HFM.out; omega))
            rw [show subR M f = .returned (.tuple #[.agg (natL (M - f)).toArray, .int .i64 0]) from if_pos HFM.out] at HSB
            have HMD := Hid.mk (modulo_in (M - f) M (by omega) hM hM0)
            obtain ⟨RR, hRR⟩ : ∃ RR, (M - f) % M = RR := ⟨_, rfl⟩
            rw [hRR] at HMD HIV
            clear hRR
            generalize M - f = D at HSB HMD
            go_wp2_with fail
            refine (HSB.out _).mono ?_
            rintro e w8 ⟨rfl, hb8⟩
            have k8 := KB.out _ _ k7 hb8
            have j8 := (hb8.block _ (box_lt j3)).trans j3
            have s8 := natStore_run (N := D) j8
            have k9 := ks _ bf (natL D).toArray k8 (by omega)
            have j9 := setRow_heap _ _ _ (natL D).toArray _ _ j8
            clear lM lf hb8
            go_upto_region 15 with fail
            generalize w8.setRow bf (natL D).toArray = w9 at k9 j9 ⊢
            clear s8 j8 k8
            have lM := natLoad_run (HKe.out _ k9).2.1
            have lf := natLoad_run j9
            go_wp2_with fail
            refine (HMD.out _).mono ?_
            rintro e w10 ⟨rfl, hb10⟩
            have k10 := KB.out _ _ k9 hb10
            have s10 := natStore_run (N := RR) (HKe.out _ k10).2.2.1
            have r10 := setRow_heap _ _ _ (natL RR).toArray _ _ (HKe.out _ k10).2.2.1
            have hB10 := below_row (HKe.out _ k10).2.2.2 (show W.heap.size ≤ W.heap.size + 2 by omega) (natL RR).toArray
            clear lM lf hb10
            go_wp2
            exact bodyPost_ret (results_nat_tmp Tryz.results125 rfl rfl r10 (natL_len RR)) rfl ⟨RR, 0, HIV.out, rfl, hB10⟩
          | false =>
            have HIV := Hid.mk (euc_above A M f n HEU.out hM0)
            have HMD := Hid.mk (modulo_in f M (by have := HFM.out; omega) hM hM0)
            obtain ⟨RR, hRR⟩ : ∃ RR, f % M = RR := ⟨_, rfl⟩
            rw [hRR] at HMD HIV
            clear hRR
            go_wp2_with fail
            refine (HMD.out _).mono ?_
            rintro e w10 ⟨rfl, hb10⟩
            have k10 := KB.out _ _ k7 hb10
            have s10 := natStore_run (N := RR) (HKe.out _ k10).2.2.1
            have r10 := setRow_heap _ _ _ (natL RR).toArray _ _ (HKe.out _ k10).2.2.1
            have hB10 := below_row (HKe.out _ k10).2.2.2 (show W.heap.size ≤ W.heap.size + 2 by omega) (natL RR).toArray
            clear lM lf hb10
            go_wp2
            exact bodyPost_ret (results_nat_tmp Tryz.results125 rfl rfl r10 (natL_len RR)) rfl ⟨RR, 0, HIV.out, rfl, hB10⟩
        · have HIV := Hid.mk (euc_none A M g f n b HEU.out hg1)
          have hcz : (cmpI g 1 != 0) = true := by rw [cmpI_gt g 1 (by omega)]; rfl
          have s10 := natStore_run (N := 0) hres
          have r10 := setRow_heap _ _ _ (natL 0).toArray _ _ hres
          have hB10 := below_row hBW (show W.heap.size ≤ W.heap.size + 2 by omega) (natL 0).toArray
          rw [cmpI_gt g 1 (by omega)]
          go_wp2
          exact bodyPost_ret (results_nat_tmp Tryz.results125 rfl rfl r10 (natL_len 0)) rfl ⟨0, 13, HIV.out, rfl, hB10⟩
      · have hl0 : 0 < gk := by omega
        have hml := (mny_ge gk hl).1
        obtain ⟨ml, hml'⟩ : ∃ ml, mny gk = ml := ⟨_, rfl⟩
        rw [hml'] at cl hml
        have hmi : (0 : Int) < (ml : Int) := by omega
        clear hml'
        have HD := Hid.mk (divided_in g gk hgL hlL hl)
        have HEN := Hid.mk (euc_step A M g gk f n b HEU.out hl0)
        obtain ⟨hmo1, hmo2⟩ := euc_more A M g gk f n b HEU.out hl0
        have hrl : g % gk < gk := Nat.mod_lt _ hl0
        obtain ⟨QQ, hQQ⟩ : ∃ QQ, g / gk = QQ := ⟨_, rfl⟩
        obtain ⟨RR, hRR⟩ : ∃ RR, g % gk = RR := ⟨_, rfl⟩
        rw [hQQ] at HD HEN hmo1
        rw [hRR] at HD HEN hrl
        have hQg : QQ ≤ g := by rw [← hQQ]; exact Nat.div_le_self _ _
        clear hQQ hRR
        have HMU := Hid.mk (mul_in QQ n (by omega) (by omega))
        rw [natR_ok _ (by omega)] at HMU
        have HAD := Hid.mk (add_in (QQ * n) f (by omega) (by omega))
        rw [natR_ok _ (by omega)] at HAD
        have HNM := Hid.mk hmo2
        obtain ⟨P, hP⟩ : ∃ P, QQ * n = P := ⟨_, rfl⟩
        rw [hP] at HMU HAD HEN hmo1
        obtain ⟨S, hS⟩ : ∃ S, P + f = S := ⟨_, rfl⟩
        rw [hS] at HAD HEN hmo1
        clear hP hS hQg hmo2
        have lg := natLoad_run h1
        have ll := natLoad_run h2
        go_wp2_with fail
        refine (HD.out _).mono ?_
        rintro e w2 ⟨rfl, hb2⟩
        have k2 := KB.out _ _ kr hb2
        have i1 := blk hb2 h1
        have i2 := blk hb2 h2
        have i3 := blk hb2 h3
        have i4 := blk hb2 h4
        clear lg ll cl hb2 h1 h2 h3 h4 kr
        go_upto_region 6 with fail
        obtain ⟨t0, t1, tB, tS⟩ := two_new w2 (natL QQ) (natL RR) 38 38
        have k3 := KB.out _ _ k2 tB
        replace i1 := blk tB i1
        replace i2 := blk tB i2
        replace i3 := blk tB i3
        have q4 : bf + 1 < w2.heap.size := box_lt i4
        replace i4 := blk tB i4
        generalize ((w2.alloc (.cells (natL QQ).toArray 38)).alloc (.cells (natL RR).toArray 38)) = U2 at t0 t1 i1 i2 i3 i4 k3 ⊢
        generalize w2.heap.size = bq at t0 t1 q4 ⊢
        clear tB tS k2
        have lq := natLoad_run t0
        have ln := natLoad_run i4
        go_wp2_with fail
        refine (HMU.out _).mono ?_
        rintro e w3 ⟨rfl, hb3⟩
        replace k3 := KB.out _ _ k3 hb3
        replace i1 := blk hb3 i1
        replace i2 := blk hb3 i2
        replace i3 := blk hb3 i3
        replace i4 := blk hb3 i4
        replace t1 := blk hb3 t1
        clear lq ln hb3 t0
        go_upto_region 7 with fail
        have tB : Below w3.heap.size w3 (w3.alloc (.cells (natL P).toArray 38)) := (Below.refl _ _).alloc (Nat.le_refl _) _
        have t2 := heap_new w3 (.cells (natL P).toArray 38)
        have q5 : bq + 1 < w3.heap.size := box_lt t1
        replace k3 := KB.out _ _ k3 tB
        replace i1 := blk tB i1
        replace i2 := blk tB i2
        replace i3 := blk tB i3
        replace i4 := blk tB i4
        replace t1 := blk tB t1
        generalize w3.alloc (.cells (natL P).toArray 38) = U3 at t1 t2 i1 i2 i3 i4 k3 ⊢
        generalize w3.heap.size = bp at t2 q5 ⊢
        clear tB
        have lp := natLoad_run t2
        have lf := natLoad_run i3
        go_wp2_with fail
        refine (HAD.out _).mono ?_
        rintro e w4 ⟨rfl, hb4⟩
        replace k3 := KB.out _ _ k3 hb4
        replace i1 := blk hb4 i1
        replace i2 := blk hb4 i2
        replace i3 := blk hb4 i3
        replace i4 := blk hb4 i4
        replace t1 := blk hb4 t1
        replace t2 := blk hb4 t2
        clear lp lf hb4
        have s4 := natStore_run (N := S) t2
        go_upto_region 8 with fail
        have k4 := ks _ bp (natL S).toArray k3 (by omega)
        have u2 := setRow_heap _ _ _ (natL S).toArray _ _ t2
        have v1 := (setRow_other w4 bp bg (natL S).toArray (by omega)).trans i1
        have v2 := (setRow_other w4 bp bl (natL S).toArray (by omega)).trans i2
        have v3 := (setRow_other w4 bp bf (natL S).toArray (by omega)).trans i3
        have v4 := (setRow_other w4 bp (bf + 1) (natL S).toArray (by omega)).trans i4
        have v5 := (setRow_other w4 bp (bq + 1) (natL S).toArray (by omega)).trans t1
        generalize w4.setRow bp (natL S).toArray = U4 at k4 u2 v1 v2 v3 v4 v5 ⊢
        clear s4 i1 i2 i3 i4 t1 t2 k3
        obtain ⟨x1, x2, x3, x4, x5, x6, x7, x8⟩ := swap_f v2 v5 v1 v2 (by omega) (by omega)
        have y3 := (x8 bf (by omega) (by omega)).trans v3
        have y4 := (x8 (bf + 1) (by omega) (by omega)).trans v4
        have y5 := (x8 bp (by omega) (by omega)).trans u2
        have k5 := ks _ bl (natL RR).toArray (ks _ bg (natL gk).toArray (kd _ k4) (by omega)) (by omega)
        clear x8
        go_region
        generalize (U4.drew.setRow bg (natL gk).toArray).setRow bl (natL RR).toArray = U5 at x6 x7 y3 y4 y5 k5 ⊢
        clear x1 x2 x3 x4 x5 v1 v2 v3 v4 v5 u2 k4
        obtain ⟨z1, z2, z3, z4, z5, z6, z7, z8⟩ := swap_f y4 y5 y3 y4 (by omega) (by omega)
        have o1 := (z8 bg (by omega) (by omega)).trans x6
        have o2 := (z8 bl (by omega) (by omega)).trans x7
        have k6 := ks _ (bf + 1) (natL S).toArray (ks _ bf (natL n).toArray (kd _ k5) (by omega)) (by omega)
        clear z8
        go_upto_region 9 with fail
        go_region
        generalize (U5.drew.setRow bf (natL n).toArray).setRow (bf + 1) (natL S).toArray = U6 at z6 z7 o1 o2 k6 ⊢
        clear z1 z2 z3 z4 z5 y3 y4 y5 k5 x6 x7
        go_wp2
        go_roundg RR
        case measure => exact hrl
        case rel => exact ⟨gk, n, S, !b, rfl, HEN, HNM, k6, o1, o2, z6, z7⟩
end Go.Proofs.YtpimliebiapnfaaGreatDoor.N
/- Inv. -/
namespace Go.Proofs.YtpimliebiapnfaaGreatDoor.N
set_option linter.unusedVariables false
open Go.RowKit
attribute [local go_sem ↓] loadAt_nat storeAt_nat build_nat build_nat'
attribute [local go_sem] st1 st2a st2b natBuild_run
set_option maxRecDepth 100000 in
set_option maxHeartbeats 400000 in
theorem inv_in (A M : Nat) (hA : A < Lim) (hM : M < Lim) (W : World) : Calls Tryz.prog 105 #[.agg (natL A).toArray, .agg (natL M).toArray] W fun e w' => ∃ I v, (flt M = 0 → InvIs A M I v) ∧ (flt M ≠ 0 → I = 0 ∧ v = flt M) ∧ I < Lim ∧ e = .returned (.tuple #[.agg (natL I).toArray, .int .i64 v]) ∧ Below W.heap.size W w' := by
  obtain ⟨V, hV, b0, b1, b2, hBl, hsz⟩ := three_new W (natL A) (natL M) (natL 0) 38 38 38
  have hz := zero26
  have HF := Hid.mk (fault_in M hM)
  have l1 := natLoad_run b1
  by_cases h0 : flt M = 0
  · obtain ⟨h1, h2⟩ := (flt_ok M).1 h0
    have HI := Hid.mk (inverse_in A M hA hM h1 (lim_sq M h2))
    have HF0 := Hid.mk h0
    rw [h0] at HF
    clear h0 h1 h2
    go_enter Tryz.func105, Tryz.ntmps105
    go_wp2_with fail
    refine (HF.out _).mono ?_
    rintro e w1 ⟨rfl, hb1⟩
    have c0 := natLoad_run (blk hb1 b0)
    have c1 := natLoad_run (blk hb1 b1)
    have c2 := blk hb1 b2
    have hBW : Below W.heap.size W w1 := bthen hBl hb1
    clear b0 b1 b2 hV l1 hBl hb1 hsz
    go_wp2_with fail
    refine (HI.out _).mono ?_
    rintro e w2 ⟨I, v, hI, rfl, hb2⟩
    have HIV := Hid.mk hI
    have hIL : I < Lim := by
      rcases hI with ⟨_, h, _⟩ | ⟨_, h, _⟩
      · omega
      · rw [h]; exact Nat.pow_pos (by omega)
    have d2 := blk hb2 c2
    have s2 := natStore_run (N := I) d2
    have r2 := setRow_heap _ _ _ (natL I).toArray _ _ d2
    have hB2 := below_row (bthen hBW hb2) (show W.heap.size ≤ W.heap.size + 2 by omega) (natL I).toArray
    clear c0 c1 c2 hI
    go_wp2
    exact bodyPost_ret (results_nat_tmp Tryz.results105 rfl rfl r2 (natL_len I)) rfl ⟨I, v, fun _ => HIV.out, fun h => absurd HF0.out h, hIL, rfl, hB2⟩
  · have hf0 : ((flt M) == 0) = false := by rw [beq_eq_false_iff_ne]; exact h0
    have HF0 := Hid.mk h0
    obtain ⟨fv, hfv⟩ : ∃ fv, flt M = fv := ⟨_, rfl⟩
    have HFV := Hid.mk hfv
    rw [hfv] at HF hf0
    clear h0 hfv
    go_enter Tryz.func105, Tryz.ntmps105
    go_wp2_with fail
    refine (HF.out _).mono ?_
    rintro e w1 ⟨rfl, hb1⟩
    have c2 := blk hb1 b2
    have hBW : Below W.heap.size W w1 := bthen hBl hb1
    clear b0 b1 b2 hV l1 hBl hb1 hsz
    have s2 := natStore_run (N := 0) c2
    have r2 := setRow_heap _ _ _ (natL 0).toArray _ _ c2
    have hB2 := below_row hBW (show W.heap.size ≤ W.heap.size + 2 by omega) (natL 0).toArray
    go_wp2
    exact bodyPost_ret (results_nat_tmp Tryz.results105 rfl rfl r2 (natL_len 0)) rfl ⟨0, fv, fun h => absurd h HF0.out, fun _ => ⟨rfl, HFV.out.symm⟩, Nat.pow_pos (by omega), rfl, hB2⟩
end Go.Proofs.YtpimliebiapnfaaGreatDoor.N
/- What a modulus does: below, rest, plus, minus, times, inverse. -/
namespace Go.Proofs.YtpimliebiapnfaaGreatDoor
set_option linter.unusedVariables false
set_option linter.unusedSimpArgs false
open Go.RowKit N
attribute [local go_sem ↓] N.loadAt_nat N.storeAt_nat N.build_nat N.build_nat' loadAt_pt storeAt_pt build_pt0 build_pt0' build_pt'
attribute [local go_sem] N.st1 N.st2a N.st2b N.st1d N.st2ad N.st2bd N.natBuild_run ptst1 ptst1d ptBuild0_run build_pt ptBuild_run
theorem cmpI_iff (a b : Nat) : (N.cmpI a b < 0) ↔ a < b := by
  unfold N.cmpI Lib.compareInt
  split
  · constructor <;> intro <;> omega
  · split <;> constructor <;> intro h <;> omega
def Fz (W : World) (b : Nat) (l : List (Nat × Obj)) (w : World) : Prop := ∃ z, Fm W ((b, .cells (N.natL z).toArray 38 (0, 0)) :: l) w
theorem Fz.drew {W w : World} {b : Nat} {l : List (Nat × Obj)} (h : Fz W b l w) : Fz W b l w.drew := h.elim fun z h => ⟨z, h.drew⟩
theorem Fz.blk {W w w' : World} {b : Nat} {l : List (Nat × Obj)} (h : Fz W b l w) (hb : Below w.heap.size w w') : Fz W b l w' := h.elim fun z h => ⟨z, h.blk hb⟩
theorem Fz.set {W w : World} {b : Nat} {l : List (Nat × Obj)} (h : Fz W b l w) (v : Nat) : Fz W b l (w.setRow b (N.natL v).toArray) := h.elim fun z h => ⟨v, h.put 0 (N.natL v).toArray rfl⟩
theorem Fz.st {W w : World} {b : Nat} {l : List (Nat × Obj)} (h : Fz W b l w) (v : Nat) : (N.natStore (.pointer (some ⟨b, 0, none⟩)) (.agg (N.natL v).toArray)).run Tryz.prog w = .ok () (w.setRow b (N.natL v).toArray) := h.elim fun z h => N.natStore_run (h.get 0 rfl)
theorem Fz.fin {W w : World} {b : Nat} {l : List (Nat × Obj)} (h : Fz W b l w) (v : Nat) : Fm W ((b, .cells (N.natL v).toArray 38 (0, 0)) :: l) (w.setRow b (N.natL v).toArray) := h.elim fun z h => h.put 0 (N.natL v).toArray rfl
theorem Fz.old {W w : World} {b : Nat} {l : List (Nat × Obj)} (h : Fz W b l w) {c : Nat} {o : Obj} (e : W.heap[c]? = some o) : w.heap[c]? = some o := h.elim fun z h => h.old e
theorem Fz.get {W w : World} {b : Nat} {l : List (Nat × Obj)} (h : Fz W b l w) (i : Nat) {c : Nat} {o : Obj} (e : l[i]? = some (c, o)) : w.heap[c]? = some o := h.elim fun z h => h.get (i + 1) (by simpa using e)
def Fq (W : World) (b : Nat) (l : List (Nat × Obj)) (w : World) : Prop := ∃ z, Fm W ((b, .cells (ptL z).toArray 40 (0, 0)) :: l) w
theorem Fq.drew {W w : World} {b : Nat} {l : List (Nat × Obj)} (h : Fq W b l w) : Fq W b l w.drew := h.elim fun z h => ⟨z, h.drew⟩
theorem Fq.blk {W w w' : World} {b : Nat} {l : List (Nat × Obj)} (h : Fq W b l w) (hb : Below w.heap.size w w') : Fq W b l w' := h.elim fun z h => ⟨z, h.blk hb⟩
theorem Fq.set {W w : World} {b : Nat} {l : List (Nat × Obj)} (h : Fq W b l w) (v : T3) : Fq W b l (w.setRow b (ptL v).toArray) := h.elim fun z h => ⟨v, h.put 0 (ptL v).toArray rfl⟩
theorem Fq.st {W w : World} {b : Nat} {l : List (Nat × Obj)} (h : Fq W b l w) (v : T3) : (ptStore (.pointer (some ⟨b, 0, none⟩)) (.agg (ptL v).toArray)).run Tryz.prog w = .ok () (w.setRow b (ptL v).toArray) := h.elim fun z h => ptStore_run (h.get 0 rfl)
theorem Fq.fin {W w : World} {b : Nat} {l : List (Nat × Obj)} (h : Fq W b l w) (v : T3) : Fm W ((b, .cells (ptL v).toArray 40 (0, 0)) :: l) (w.setRow b (ptL v).toArray) := h.elim fun z h => h.put 0 (ptL v).toArray rfl
theorem Fq.old {W w : World} {b : Nat} {l : List (Nat × Obj)} (h : Fq W b l w) {c : Nat} {o : Obj} (e : W.heap[c]? = some o) : w.heap[c]? = some o := h.elim fun z h => h.old e
theorem Fq.get {W w : World} {b : Nat} {l : List (Nat × Obj)} (h : Fq W b l w) (i : Nat) {c : Nat} {o : Obj} (e : l[i]? = some (c, o)) : w.heap[c]? = some o := h.elim fun z h => h.get (i + 1) (by simpa using e)
theorem Fm.newA {W w : World} {l : List (Nat × Obj)} (h : Fm W l w) (o1 o2 : Obj) : Fm W ((w.heap.size + 1, o2) :: l) ((w.alloc o1).alloc o2) := by
  have h := (h.alloc o1).new o2
  rwa [show (w.alloc o1).heap.size = w.heap.size + 1 by simp] at h
theorem Fm.late1 {W V w : World} {l : List (Nat × Obj)} (hV : Fm W l V) (h : Fm W l w) {A x : Array Value} {t : TypeId} (e : w.heap[V.heap.size + 1]? = some (.cells A t (0, 0))) : Fm W ((V.heap.size + 1, .cells x t (0, 0)) :: l) (w.setRow (V.heap.size + 1) x) := by
  have := (hV.alloc (.cells A t (0, 0))).late h (x := x) (A := A) (t := t) (by rw [show (V.alloc (.cells A t (0, 0))).heap.size = V.heap.size + 1 by simp]; exact e)
  rwa [show (V.alloc (.cells A t (0, 0))).heap.size = V.heap.size + 1 by simp] at this
theorem Fm.setO {W V w : World} {l : List (Nat × Obj)} (hV : Fm W l V) (h : Fm W l w) (x : Array Value) : Fm W l (w.setRow V.heap.size x) where
  has := fun i b o e => by
    have := hV.lt i e
    exact (setRow_other _ _ _ _ (by omega)).trans (h.get i e)
  own := h.own
  nd := h.nd
  bel := N.below_row h.bel hV.bel.size _
theorem Fm.setO1 {W V w : World} {l : List (Nat × Obj)} (hV : Fm W l V) (h : Fm W l w) (x : Array Value) : Fm W l (w.setRow (V.heap.size + 1) x) where
  has := fun i b o e => by
    have := hV.lt i e
    exact (setRow_other _ _ _ _ (by omega)).trans (h.get i e)
  own := h.own
  nd := h.nd
  bel := N.below_row h.bel (Nat.le_succ_of_le hV.bel.size) _
theorem kpN {p : Prop} {V w2 : World} {M : Nat} (hb : Below (V.alloc (.cells (N.natL M).toArray 38)).drew.heap.size (V.alloc (.cells (N.natL M).toArray 38)).drew w2) (k : (w2.heap[V.heap.size]? = some (.cells (N.natL M).toArray 38 (0, 0)) ∧
    (∀ v, (N.natStore (.pointer (some ⟨V.heap.size, 0, none⟩)) (.agg (N.natL v).toArray)).run Tryz.prog w2 = .ok () (w2.setRow V.heap.size (N.natL v).toArray))) → p) : p := by
  have g : w2.heap[V.heap.size]? = some (.cells (N.natL M).toArray 38 (0, 0)) := (hb.block V.heap.size (by simp)).trans (N.heap_new V _)
  exact k ⟨g, fun v => N.natStore_run g⟩
abbrev boxM (m : Nat) : Value := .pointer (some ⟨m, 0, none⟩)
set_option maxRecDepth 100000 in
set_option maxHeartbeats 1000000 in
theorem below_in (m P A : Nat) (W : World) (hm : W.heap[m]? = some (.cells (N.natL P).toArray 117 (0, 0))) (hP : P < N.Lim) (hA : A < N.Lim) :
    Calls Tryz.prog 81 #[boxM m, .agg (N.natL A).toArray] W fun e w' => e = .returned (.bool (decide (A < P))) ∧ Below W.heap.size W w' := by
  have HC := Hid.mk (N.cmp_in A P hA hP)
  have hcv := cmpI_iff A P
  generalize N.cmpI A P = q at HC hcv
  obtain ⟨D, hD⟩ : ∃ D, decide (A < P) = D := ⟨_, rfl⟩
  have hqD : decide (q < 0) = D := by rw [← hD]; exact decide_eq_decide.2 hcv
  rw [hD]
  clear hD hcv
  obtain ⟨V, hV, F⟩ : ∃ V, (W.alloc (Obj.cells (N.natL A).toArray 38 (0, 0))) = V ∧ Fm W [(W.heap.size, Obj.cells (N.natL A).toArray 38 (0, 0))] V := ⟨_, rfl, Fm.box1 W _⟩
  obtain ⟨L, hL⟩ : ∃ L : List (Nat × Obj), [(W.heap.size, Obj.cells (N.natL A).toArray 38 (0, 0))] = L := ⟨_, rfl⟩
  rw [hL] at F
  have HS : Hid (∀ w, Fm W L w → Fm W L w ∧ (N.natLoad (.pointer (some ⟨W.heap.size, 0, none⟩))).run Tryz.prog w = .ok (.agg (N.natL A).toArray) w ∧ (N.natLoad (.pointer (some ⟨m, 0, none⟩))).run Tryz.prog w = .ok (.agg (N.natL P).toArray) w) := fun w h => ⟨h, N.natLoad_run (h.get 0 (by rw [← hL]; rfl)), natLoad_any (h.old hm)⟩
  clear hL hm
  go_enter Tryz.func81, Tryz.ntmps81
  go_upto_region 1 with fail
  clear hV
  have hS0 := HS.out _ F
  go_region_held3 (fun w => Fm W L w ∧ (N.natLoad (.pointer (some ⟨W.heap.size, 0, none⟩))).run Tryz.prog w = .ok (.agg (N.natL A).toArray) w ∧ (N.natLoad (.pointer (some ⟨m, 0, none⟩))).run Tryz.prog w = .ok (.agg (N.natL P).toArray) w)
    (first | assumption | (apply HS.out; repeat (first | assumption | apply Fm.drew | apply Fz.drew | apply Fq.drew)))
    (first
      | (go_at_call 103; refine (HC.out _).mono ?_; rintro e w2 ⟨rfl, hb2⟩; have F2 := Fm.blk (by repeat (first | assumption | apply Fm.drew | apply Fz.drew | apply Fq.drew)) hb2; have hs2 := HS.out _ F2))
  go_wp2
  go_ret
  subst hqD
  exact ⟨rfl, F2.bel⟩
set_option maxRecDepth 100000 in
set_option maxHeartbeats 1000000 in
theorem rest_in (m P A : Nat) (W : World) (hm : W.heap[m]? = some (.cells (N.natL P).toArray 117 (0, 0))) (hP : P < N.Lim) (hA : A < N.Lim) (hP0 : P ≠ 0) :
    Calls Tryz.prog 82 #[boxM m, .agg (N.natL A).toArray] W fun e w' => e = .returned (.agg (N.natL (A % P)).toArray) ∧ Below W.heap.size W w' := by
  have hz := N.zero26
  have HC := Hid.mk (N.div_in A P hA hP hP0)
  generalize A / P = Q at HC
  generalize A % P = R at HC ⊢
  obtain ⟨V, hV, F⟩ : ∃ V, ((W.alloc (Obj.cells (N.natL A).toArray 38 (0, 0))).alloc (Obj.cells (N.natL 0).toArray 38 (0, 0))) = V ∧ Fm W [(W.heap.size + 1, Obj.cells (N.natL 0).toArray 38 (0, 0)), (W.heap.size, Obj.cells (N.natL A).toArray 38 (0, 0))] V := ⟨_, rfl, Fm.box2 W _ _⟩
  obtain ⟨L, hL⟩ : ∃ L : List (Nat × Obj), [(W.heap.size + 1, Obj.cells (N.natL 0).toArray 38 (0, 0)), (W.heap.size, Obj.cells (N.natL A).toArray 38 (0, 0))] = L := ⟨_, rfl⟩
  rw [hL] at F
  have HS : Hid (∀ w, Fm W L w → Fm W L w ∧ (N.natLoad (.pointer (some ⟨W.heap.size, 0, none⟩))).run Tryz.prog w = .ok (.agg (N.natL A).toArray) w ∧ (N.natLoad (.pointer (some ⟨m, 0, none⟩))).run Tryz.prog w = .ok (.agg (N.natL P).toArray) w) := fun w h => ⟨h, N.natLoad_run (h.get 1 (by rw [← hL]; rfl)), natLoad_any (h.old hm)⟩
  have HR : Hid (∀ w, Fm W L w → w.heap[W.heap.size + 1]? = some (.cells (N.natL 0).toArray 38 (0, 0))) := fun w h => h.get 0 (by rw [← hL]; rfl)
  have HX : Hid (∀ b x w, Fm W ((b, x) :: L) w → Fm W ((b, x) :: (W.heap.size + 1, .cells (N.natL 0).toArray 38 (0, 0)) :: [(W.heap.size, .cells (N.natL A).toArray 38 (0, 0))]) w) := fun b x w h => by rw [← hL] at h; exact h
  clear hL hm
  go_enter Tryz.func82, Tryz.ntmps82
  go_upto_region 1 with fail
  clear hV
  have hS0 := HS.out _ F
  go_cut [6] (fun s6 wx => ∃ b, s6 = .pointer (some ⟨b, 0, none⟩) ∧ Fm W ((b, .cells (N.natL R).toArray 38 (0, 0)) :: L) wx)
  case first =>
    go_region_held3 (fun w => Fm W L w ∧ (N.natLoad (.pointer (some ⟨W.heap.size, 0, none⟩))).run Tryz.prog w = .ok (.agg (N.natL A).toArray) w ∧ (N.natLoad (.pointer (some ⟨m, 0, none⟩))).run Tryz.prog w = .ok (.agg (N.natL P).toArray) w)
      (first | assumption | (apply HS.out; repeat (first | assumption | apply Fm.drew | apply Fm.alloc | (apply Fm.setO (V := _); assumption) | (apply Fm.setO1 (V := _); assumption))))
      (first
        | (go_at_call 104; refine (HC.out _).mono ?_; rintro e w2 ⟨rfl, hb2⟩; have F2 := Fm.blk (by repeat (first | assumption | apply Fm.drew | apply Fm.alloc)) hb2; have hs2 := HS.out _ F2
           first
             | (refine N.wk2 hb2 ?_; rintro ⟨g1, g2, s1, s2, s12, s21⟩)
             | (refine N.wk1 hb2 ?_; rintro ⟨g1, lt1, s1, s12⟩)
             | skip))
    all_goals go_wp2
    all_goals go_meet
    all_goals (first
      | exact ⟨_, rfl, F2.newA _ _⟩
      | exact ⟨_, rfl, (F2.new _).alloc _⟩
      | exact ⟨_, rfl, Fm.late1 F (F.setO F2 _) ((setRow_other _ _ _ _ (by omega)).trans g2)⟩
      | exact ⟨_, rfl, F.late (F.setO1 F2 _) ((setRow_other _ _ _ _ (by omega)).trans g1)⟩
      | exact ⟨_, rfl, F2.late (F.setO (F2.alloc _) _) ((setRow_other _ _ _ _ (by omega)).trans (N.heap_new w2 _))⟩
      | exact ⟨_, rfl, F.late (F2.alloc _) ((heap_alloc_old w2 _ lt1).trans g1)⟩)
  case rest =>
    obtain ⟨b, rfl, F3⟩ := hcut
    replace F3 := HX.out _ _ _ F3
    have l3 := N.natLoad_run (F3.get 0 rfl)
    have s3 := N.natStore_run (N := R) (F3.get 1 rfl)
    have F4 := F3.put 1 (N.natL R).toArray rfl
    clear hS0 F
    go_wp2
    exact bodyPost_ret (N.results_nat Tryz.results82 rfl (F4.get 1 rfl) (N.natL_len R)) rfl ⟨rfl, F4.bel⟩
def plN (P A B : Nat) : Nat := if A + B < P then A + B else A + B - P
def miN (P A B : Nat) : Nat := if B ≤ A then A - B else P - (B - A)
set_option maxRecDepth 100000 in
set_option maxHeartbeats 1000000 in
theorem plus_in (m P A B : Nat) (W : World) (hm : W.heap[m]? = some (.cells (N.natL P).toArray 117 (0, 0))) (hP : P < N.Lim) (hA : A < P) (hB : B < P) (hPP : P + P ≤ N.Lim) :
    Calls Tryz.prog 84 #[boxM m, .agg (N.natL A).toArray, .agg (N.natL B).toArray] W fun e w' => e = .returned (.agg (N.natL (plN P A B)).toArray) ∧ Below W.heap.size W w' := by
  have hz := N.zero26
  have hAL : A < N.Lim := Nat.lt_trans hA hP
  have hBL : B < N.Lim := Nat.lt_trans hB hP
  have hSL : A + B < N.Lim := by omega
  have HA := Hid.mk (N.add_in A B hAL hBL)
  rw [N.natR_ok _ hSL] at HA
  have HB : Hid (∀ w, w.heap[m]? = some (.cells (N.natL P).toArray 117 (0, 0)) → Calls Tryz.prog 81 #[boxM m, .agg (N.natL (A + B)).toArray] w fun e w' => e = .returned (.bool (decide (A + B < P))) ∧ Below w.heap.size w w') := fun w h => below_in m P _ w h hP hSL
  have hSub : ¬ A + B < P → Hid (∀ w, Calls Tryz.prog 107 #[.agg (N.natL (A + B)).toArray, .agg (N.natL P).toArray] w fun e w' => e = .returned (.tuple #[.agg (N.natL (A + B - P)).toArray, .int .i64 0]) ∧ Below w.heap.size w w') := fun h w => by
    have := N.sub_in (A + B) P hSL hP w
    rwa [show N.subR (A + B) P = .returned (.tuple #[.agg (N.natL (A + B - P)).toArray, .int .i64 0]) from if_pos (by omega)] at this
  unfold plN
  obtain ⟨D, hD⟩ : ∃ D, A + B - P = D := ⟨_, rfl⟩
  rw [hD] at hSub ⊢
  obtain ⟨Q, hQ⟩ : ∃ Q, A + B = Q := ⟨_, rfl⟩
  rw [hQ] at HA HB hSub ⊢
  obtain ⟨V, hV, F⟩ : ∃ V, (((W.alloc (Obj.cells (N.natL A).toArray 38 (0, 0))).alloc (Obj.cells (N.natL B).toArray 38 (0, 0))).alloc (Obj.cells (N.natL 0).toArray 38 (0, 0))) = V ∧ Fm W [(W.heap.size + 2, Obj.cells (N.natL 0).toArray 38 (0, 0)), (W.heap.size + 1, Obj.cells (N.natL B).toArray 38 (0, 0)), (W.heap.size, Obj.cells (N.natL A).toArray 38 (0, 0))] V := ⟨_, rfl, Fm.box3 W _ _ _⟩
  by_cases hlt : Q < P
  · rw [if_pos hlt]
    rw [decide_eq_true hlt] at HB
    clear hSub hD hQ hA hB hPP hlt hSL hAL hBL
    have l4 := N.natLoad_run (F.get 2 rfl)
    have l5 := N.natLoad_run (F.get 1 rfl)
    go_enter Tryz.func84, Tryz.ntmps84
    go_wp2_with fail
    refine (HA.out _).mono ?_
    rintro e u1 ⟨rfl, hb⟩
    replace F := F.blk hb
    clear hb l4 l5 hV
    go_upto_region 2 with fail
    replace F := F.new (Obj.cells (N.natL Q).toArray 38 (0, 0))
    generalize u1.alloc (Obj.cells (N.natL Q).toArray 38 (0, 0)) = v1 at F ⊢
    generalize u1.heap.size = b7 at F ⊢
    have l7 := N.natLoad_run (F.get 0 rfl)
    go_wp2_with fail
    refine (HB.out _ (F.old hm)).mono ?_
    rintro e u2 ⟨rfl, hb⟩
    replace F := F.blk hb
    clear hb l7
    have l7 := N.natLoad_run (F.get 0 rfl)
    have s6 := N.natStore_run (N := Q) (F.get 1 rfl)
    have F4 := F.put 1 (N.natL Q).toArray rfl
    go_wp2
    exact bodyPost_ret (N.results_nat Tryz.results84 rfl (F4.get 1 rfl) (N.natL_len Q)) rfl ⟨rfl, F4.bel⟩
  · rw [if_neg hlt]
    rw [decide_eq_false hlt] at HB
    have HSB := hSub hlt
    clear hSub hD hQ hA hB hPP hlt hSL hAL hBL
    have l4 := N.natLoad_run (F.get 2 rfl)
    have l5 := N.natLoad_run (F.get 1 rfl)
    go_enter Tryz.func84, Tryz.ntmps84
    go_wp2_with fail
    refine (HA.out _).mono ?_
    rintro e u1 ⟨rfl, hb⟩
    replace F := F.blk hb
    clear hb l4 l5 hV
    go_upto_region 2 with fail
    replace F := F.new (Obj.cells (N.natL Q).toArray 38 (0, 0))
    generalize u1.alloc (Obj.cells (N.natL Q).toArray 38 (0, 0)) = v1 at F ⊢
    generalize u1.heap.size = b7 at F ⊢
    have l7 := N.natLoad_run (F.get 0 rfl)
    go_wp2_with fail
    refine (HB.out _ (F.old hm)).mono ?_
    rintro e u2 ⟨rfl, hb⟩
    replace F := F.blk hb
    clear hb l7
    go_upto_region 4 with fail
    have l7 : (N.natLoad (.pointer (some ⟨b7, 0, none⟩))).run Tryz.prog u2.drew = .ok (.agg (N.natL Q).toArray) u2.drew := N.natLoad_run (F.get 0 rfl)
    have lm : (N.natLoad (.pointer (some ⟨m, 0, none⟩))).run Tryz.prog u2.drew = .ok (.agg (N.natL P).toArray) u2.drew := natLoad_any (F.old hm)
    go_region_with (first
      | (go_at_call 107; refine (HSB.out _).mono ?_; rintro e w2 ⟨rfl, hb2⟩; have F2 := Fm.blk (Fm.drew F) hb2; have s7 := fun v => N.natStore_run (N := v) (F2.get 0 rfl); have F3 := F2.put 0 (N.natL D).toArray rfl; have l8 := N.natLoad_run (F3.get 0 rfl); have s6 := N.natStore_run (N := D) (F3.get 1 rfl); have F4 := F3.put 1 (N.natL D).toArray rfl))
    all_goals go_wp2
    all_goals exact bodyPost_ret (N.results_nat Tryz.results84 rfl (F4.get 1 rfl) (N.natL_len D)) rfl ⟨rfl, F4.bel⟩
set_option maxRecDepth 100000 in
set_option maxHeartbeats 1000000 in
theorem times_in (m P A B : Nat) (W : World) (hm : W.heap[m]? = some (.cells (N.natL P).toArray 117 (0, 0))) (hP : P < N.Lim) (hA : A < N.Lim) (hB : B < N.Lim) (hAB : A * B < N.Lim) (hP0 : P ≠ 0) :
    Calls Tryz.prog 86 #[boxM m, .agg (N.natL A).toArray, .agg (N.natL B).toArray] W fun e w' => e = .returned (.agg (N.natL (A * B % P)).toArray) ∧ Below W.heap.size W w' := by
  have hz := N.zero26
  have HA := Hid.mk (N.mul_in A B hA hB)
  rw [N.natR_ok _ hAB] at HA
  have HB : Hid (∀ w, w.heap[m]? = some (.cells (N.natL P).toArray 117 (0, 0)) → Calls Tryz.prog 82 #[boxM m, .agg (N.natL (A * B)).toArray] w fun e w' => e = .returned (.agg (N.natL (A * B % P)).toArray) ∧ Below w.heap.size w w') := fun w h => rest_in m P _ w h hP hAB hP0
  obtain ⟨R, hR⟩ : ∃ R, A * B % P = R := ⟨_, rfl⟩
  rw [hR] at HB ⊢
  obtain ⟨Q, hQ⟩ : ∃ Q, A * B = Q := ⟨_, rfl⟩
  rw [hQ] at HA HB
  clear hR hQ hAB
  obtain ⟨V, hV, F⟩ : ∃ V, (((W.alloc (Obj.cells (N.natL A).toArray 38 (0, 0))).alloc (Obj.cells (N.natL B).toArray 38 (0, 0))).alloc (Obj.cells (N.natL 0).toArray 38 (0, 0))) = V ∧ Fm W [(W.heap.size + 2, Obj.cells (N.natL 0).toArray 38 (0, 0)), (W.heap.size + 1, Obj.cells (N.natL B).toArray 38 (0, 0)), (W.heap.size, Obj.cells (N.natL A).toArray 38 (0, 0))] V := ⟨_, rfl, Fm.box3 W _ _ _⟩
  have l4 := N.natLoad_run (F.get 2 rfl)
  have l5 := N.natLoad_run (F.get 1 rfl)
  go_enter Tryz.func86, Tryz.ntmps86
  go_wp2_with fail
  refine (HA.out _).mono ?_
  rintro e u1 ⟨rfl, hb⟩
  replace F := F.blk hb
  clear hb l4 l5 hV
  go_upto_region 2 with fail
  replace F := F.new (Obj.cells (N.natL Q).toArray 38 (0, 0))
  generalize u1.alloc (Obj.cells (N.natL Q).toArray 38 (0, 0)) = v1 at F ⊢
  generalize u1.heap.size = b7 at F ⊢
  have l7 := N.natLoad_run (F.get 0 rfl)
  go_wp2_with fail
  refine (HB.out _ (F.old hm)).mono ?_
  rintro e u2 ⟨rfl, hb⟩
  replace F := F.blk hb
  clear hb l7
  have s6 := N.natStore_run (N := R) (F.get 1 rfl)
  have F4 := F.put 1 (N.natL R).toArray rfl
  go_wp2
  exact bodyPost_ret (N.results_nat Tryz.results86 rfl (F4.get 1 rfl) (N.natL_len R)) rfl ⟨rfl, F4.bel⟩
set_option maxRecDepth 100000 in
set_option maxHeartbeats 1000000 in
theorem minus_in (m P A B : Nat) (W : World) (hm : W.heap[m]? = some (.cells (N.natL P).toArray 117 (0, 0))) (hP : P < N.Lim) (hA : A < P) (hB : B < P) :
    Calls Tryz.prog 85 #[boxM m, .agg (N.natL A).toArray, .agg (N.natL B).toArray] W fun e w' => e = .returned (.agg (N.natL (miN P A B)).toArray) ∧ Below W.heap.size W w' := by
  have hz := N.zero26
  have hAL : A < N.Lim := Nat.lt_trans hA hP
  have hBL : B < N.Lim := Nat.lt_trans hB hP
  have HA := Hid.mk (N.sub_in A B hAL hBL)
  unfold miN
  obtain ⟨V, hV, F⟩ : ∃ V, (((W.alloc (Obj.cells (N.natL A).toArray 38 (0, 0))).alloc (Obj.cells (N.natL B).toArray 38 (0, 0))).alloc (Obj.cells (N.natL 0).toArray 38 (0, 0))) = V ∧ Fm W [(W.heap.size + 2, Obj.cells (N.natL 0).toArray 38 (0, 0)), (W.heap.size + 1, Obj.cells (N.natL B).toArray 38 (0, 0)), (W.heap.size, Obj.cells (N.natL A).toArray 38 (0, 0))] V := ⟨_, rfl, Fm.box3 W _ _ _⟩
  by_cases hle : B ≤ A
  · rw [if_pos hle]
    rw [show N.subR A B = .returned (.tuple #[.agg (N.natL (A - B)).toArray, .int .i64 0]) from if_pos hle] at HA
    obtain ⟨Q, hQ⟩ : ∃ Q, A - B = Q := ⟨_, rfl⟩
    rw [hQ] at HA ⊢
    clear hQ hA hB hle hAL hBL
    have l4 := N.natLoad_run (F.get 2 rfl)
    have l5 := N.natLoad_run (F.get 1 rfl)
    go_enter Tryz.func85, Tryz.ntmps85
    go_wp2_with fail
    refine (HA.out _).mono ?_
    rintro e u1 ⟨rfl, hb⟩
    replace F := F.blk hb
    clear hb l4 l5 hV
    go_upto_region 2 with fail
    replace F := F.new (Obj.cells (N.natL Q).toArray 38 (0, 0))
    generalize u1.alloc (Obj.cells (N.natL Q).toArray 38 (0, 0)) = v1 at F ⊢
    generalize u1.heap.size = b7 at F ⊢
    have l7 := N.natLoad_run (F.get 0 rfl)
    have s6 := N.natStore_run (N := Q) (F.get 1 rfl)
    have F4 := F.put 1 (N.natL Q).toArray rfl
    go_wp2
    exact bodyPost_ret (N.results_nat Tryz.results85 rfl (F4.get 1 rfl) (N.natL_len Q)) rfl ⟨rfl, F4.bel⟩
  · rw [if_neg hle]
    rw [show N.subR A B = .returned (.tuple #[.agg (N.natL 0).toArray, .int .i64 1]) from if_neg hle] at HA
    have HB := Hid.mk (N.sub_in B A hBL hAL)
    rw [show N.subR B A = .returned (.tuple #[.agg (N.natL (B - A)).toArray, .int .i64 0]) from if_pos (by omega)] at HB
    have HC := Hid.mk (N.sub_in P (B - A) hP (by omega))
    rw [show N.subR P (B - A) = .returned (.tuple #[.agg (N.natL (P - (B - A))).toArray, .int .i64 0]) from if_pos (by omega)] at HC
    obtain ⟨D, hD⟩ : ∃ D, P - (B - A) = D := ⟨_, rfl⟩
    rw [hD] at HC ⊢
    obtain ⟨Q, hQ⟩ : ∃ Q, B - A = Q := ⟨_, rfl⟩
    rw [hQ] at HB HC
    clear hQ hD hA hB hle hAL hBL
    have l4 := N.natLoad_run (F.get 2 rfl)
    have l5 := N.natLoad_run (F.get 1 rfl)
    go_enter Tryz.func85, Tryz.ntmps85
    go_wp2_with fail
    refine (HA.out _).mono ?_
    rintro e u1 ⟨rfl, hb⟩
    replace F := F.blk hb
    clear hb l4 l5 hV
    go_upto_region 2 with fail
    replace F := F.new (Obj.cells (N.natL 0).toArray 38 (0, 0))
    generalize u1.alloc (Obj.cells (N.natL 0).toArray 38 (0, 0)) = v1 at F ⊢
    generalize u1.heap.size = b7 at F ⊢
    have l4 := N.natLoad_run (F.get 3 rfl)
    have l5 := N.natLoad_run (F.get 2 rfl)
    go_wp2_with fail
    refine (HB.out _).mono ?_
    rintro e u2 ⟨rfl, hb⟩
    replace F := F.blk hb
    clear hb l4 l5
    have s7 := N.natStore_run (N := Q) (F.get 0 rfl)
    go_upto_region 5 with fail
    replace F := F.put 0 (N.natL Q).toArray rfl
    clear s7
    generalize u2.setRow b7 (N.natL Q).toArray = v2 at F ⊢
    simp only [List.set_cons_zero] at F
    have l7 : (N.natLoad (.pointer (some ⟨b7, 0, none⟩))).run Tryz.prog v2.drew = .ok (.agg (N.natL Q).toArray) v2.drew := N.natLoad_run (F.get 0 rfl)
    have lm : (N.natLoad (.pointer (some ⟨m, 0, none⟩))).run Tryz.prog v2.drew = .ok (.agg (N.natL P).toArray) v2.drew := natLoad_any (F.old hm)
    go_region_with (first
      | (go_at_call 107; refine (HC.out _).mono ?_; rintro e w2 ⟨rfl, hb2⟩; have F2 := Fm.blk (Fm.drew F) hb2; have s7 := fun v => N.natStore_run (N := v) (F2.get 0 rfl); have F3 := F2.put 0 (N.natL D).toArray rfl; have l8 := N.natLoad_run (F3.get 0 rfl); have s6 := N.natStore_run (N := D) (F3.get 1 rfl); have F4 := F3.put 1 (N.natL D).toArray rfl))
    all_goals go_wp2
    all_goals exact bodyPost_ret (N.results_nat Tryz.results85 rfl (F4.get 1 rfl) (N.natL_len D)) rfl ⟨rfl, F4.bel⟩
noncomputable def ivN (P A : Nat) : Nat := open Classical in if h : ∃ I, N.InvIs A P I 0 then Classical.choose h else 0
theorem ivN_is {P A : Nat} (h : ∃ I, N.InvIs A P I 0) : N.InvIs A P (ivN P A) 0 := by
  unfold ivN
  rw [dif_pos h]
  exact Classical.choose_spec h
theorem inv_det {P A : Nat} (hA : A < N.Lim) (hP : P < N.Lim) (hf : N.flt P = 0) (hg : Nat.gcd P A = 1) (W : World) : Calls Tryz.prog 105 #[.agg (N.natL A).toArray, .agg (N.natL P).toArray] W fun e w' => e = .returned (.tuple #[.agg (N.natL (ivN P A)).toArray, .int .i64 0]) ∧ N.InvIs A P (ivN P A) 0 ∧ Below W.heap.size W w' :=
  (N.inv_in A P hA hP W).mono fun e w' ⟨I, v, h1, h2, h3, h4, h5⟩ => by
    have hi := h1 hf
    have hv : v = 0 := by
      rcases hi with ⟨hv, _⟩ | ⟨_, _, hn⟩
      · exact hv
      · exact absurd hg hn
    subst hv
    have := ivN_is ⟨I, hi⟩
    have e2 := (N.inv_one hi this).2
    subst e2
    exact ⟨h4, this, h5⟩
set_option maxRecDepth 100000 in
set_option maxHeartbeats 1000000 in
theorem inverse_in (m P A : Nat) (W : World) (hm : W.heap[m]? = some (.cells (N.natL P).toArray 117 (0, 0))) (hP : P < N.Lim) (hA : A < N.Lim) (hf : N.flt P = 0) (hg : Nat.gcd P A = 1) :
    Calls Tryz.prog 83 #[boxM m, .agg (N.natL A).toArray] W fun e w' => e = .returned (.agg (N.natL (ivN P A)).toArray) ∧ Below W.heap.size W w' := by
  have hz := N.zero26
  have HC := Hid.mk (inv_det hA hP hf hg)
  generalize ivN P A = R at HC ⊢
  clear hf hg
  obtain ⟨V, hV, F⟩ : ∃ V, ((W.alloc (Obj.cells (N.natL A).toArray 38 (0, 0))).alloc (Obj.cells (N.natL 0).toArray 38 (0, 0))) = V ∧ Fm W [(W.heap.size + 1, Obj.cells (N.natL 0).toArray 38 (0, 0)), (W.heap.size, Obj.cells (N.natL A).toArray 38 (0, 0))] V := ⟨_, rfl, Fm.box2 W _ _⟩
  obtain ⟨L, hL⟩ : ∃ L : List (Nat × Obj), [(W.heap.size + 1, Obj.cells (N.natL 0).toArray 38 (0, 0)), (W.heap.size, Obj.cells (N.natL A).toArray 38 (0, 0))] = L := ⟨_, rfl⟩
  rw [hL] at F
  have HS : Hid (∀ w, Fm W L w → Fm W L w ∧ (N.natLoad (.pointer (some ⟨W.heap.size, 0, none⟩))).run Tryz.prog w = .ok (.agg (N.natL A).toArray) w ∧ (N.natLoad (.pointer (some ⟨m, 0, none⟩))).run Tryz.prog w = .ok (.agg (N.natL P).toArray) w) := fun w h => ⟨h, N.natLoad_run (h.get 1 (by rw [← hL]; rfl)), natLoad_any (h.old hm)⟩
  have HX : Hid (∀ b x w, Fm W ((b, x) :: L) w → Fm W ((b, x) :: (W.heap.size + 1, .cells (N.natL 0).toArray 38 (0, 0)) :: [(W.heap.size, .cells (N.natL A).toArray 38 (0, 0))]) w) := fun b x w h => by rw [← hL] at h; exact h
  clear hL hm
  go_enter Tryz.func83, Tryz.ntmps83
  go_upto_region 1 with fail
  clear hV
  have hS0 := HS.out _ F
  go_cut [5] (fun s5 wx => ∃ b, s5 = .pointer (some ⟨b, 0, none⟩) ∧ Fm W ((b, .cells (N.natL R).toArray 38 (0, 0)) :: L) wx)
  case first =>
    go_region_held3 (fun w => Fm W L w ∧ (N.natLoad (.pointer (some ⟨W.heap.size, 0, none⟩))).run Tryz.prog w = .ok (.agg (N.natL A).toArray) w ∧ (N.natLoad (.pointer (some ⟨m, 0, none⟩))).run Tryz.prog w = .ok (.agg (N.natL P).toArray) w)
      (first | assumption | (apply HS.out; repeat (first | assumption | apply Fm.drew | apply Fm.alloc | (apply Fm.setO (V := _); assumption))))
      (first
        | (go_at_call 105; refine (HC.out _).mono ?_; rintro e w2 ⟨rfl, hiv, hb2⟩; have F2 := Fm.blk (by repeat (first | assumption | apply Fm.drew | apply Fm.alloc)) hb2; have hs2 := HS.out _ F2
           first
             | (refine kpN hb2 ?_; rintro ⟨g1, s1⟩)
             | skip))
    all_goals go_wp2
    all_goals go_meet
    all_goals (first
      | exact ⟨_, rfl, F2.new _⟩
      | exact ⟨_, rfl, F.late F2 g1⟩)
  case rest =>
    obtain ⟨b, rfl, F3⟩ := hcut
    replace F3 := HX.out _ _ _ F3
    have l3 := N.natLoad_run (F3.get 0 rfl)
    have s3 := N.natStore_run (N := R) (F3.get 1 rfl)
    have F4 := F3.put 1 (N.natL R).toArray rfl
    clear hS0 F
    go_wp2
    exact bodyPost_ret (N.results_nat Tryz.results83 rfl (F4.get 1 rfl) (N.natL_len R)) rfl ⟨rfl, F4.bel⟩
end Go.Proofs.YtpimliebiapnfaaGreatDoor