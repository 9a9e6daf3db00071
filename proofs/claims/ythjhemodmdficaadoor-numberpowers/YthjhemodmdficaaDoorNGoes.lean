/- goesIn. -/
import Derived.Test.YthjhemodmdficaaDoorNTimes
namespace Go.Proofs.YthjhemodmdficaaDoor
set_option linter.unusedVariables false
open Go.RowKit
/-- the guess is never too little. -/
theorem guess_ge (X D a b d xl yl P : Nat) (hX : X = xl + P * (b + 4294967296 * a)) (hxl : xl < P) (hD : D = yl + P * d) (hd : 0 < d) (hlt : X < D * 4294967296) : X / D ≤ gs a b d := by
  have hP : 0 < P := by omega
  have hDp : 0 < D := by
    have : P * 1 ≤ P * d := Nat.mul_le_mul_left _ hd
    omega
  unfold gs
  have h1 : X / D ≤ 4294967295 := by
    have := (Nat.div_lt_iff_lt_mul hDp).2 (show X < 4294967296 * D by rw [Nat.mul_comm]; exact hlt)
    omega
  have h2 : X / D ≤ (4294967296 * a + b) / d := by
    rw [Nat.le_div_iff_mul_le hd]
    have h3 : X / D * D ≤ X := Nat.div_mul_le_self X D
    have h4 : X / D * (P * d) ≤ X / D * D := Nat.mul_le_mul_left _ (by omega)
    have h5 : P * (X / D * d) < P * (b + 4294967296 * a + 1) := by
      rw [← Nat.mul_assoc, Nat.mul_comm P (X / D), Nat.mul_assoc, Nat.mul_add, Nat.mul_one]
      omega
    have := Nat.lt_of_mul_lt_mul_left h5
    omega
  omega
/-- .. and at most two too much. -/
theorem guess_le (X D a b d xl yl P : Nat) (hX : X = xl + P * (b + 4294967296 * a)) (hD : D = yl + P * d) (hyl : yl < P) (hd : 2147483648 ≤ d) : gs a b d ≤ X / D + 2 := by
  have hP : 0 < P := by omega
  have hDp : 0 < D := by
    have : P * 1 ≤ P * d := Nat.mul_le_mul_left _ (by omega)
    omega
  obtain ⟨g, hg⟩ : ∃ g, gs a b d = g := ⟨_, rfl⟩
  have hgb : g ≤ 4294967295 := by rw [← hg]; unfold gs; omega
  have hgd : g * d ≤ 4294967296 * a + b := by
    have h1 : g ≤ (4294967296 * a + b) / d := by rw [← hg]; unfold gs; omega
    exact (Nat.le_div_iff_mul_le (by omega)).1 h1
  rw [hg]
  by_cases h2 : g ≤ 2
  · exact Nat.le_trans h2 (Nat.le_add_left 2 _)
  · obtain ⟨k, rfl⟩ : ∃ k, g = k + 2 := ⟨g - 2, by omega⟩
    suffices k ≤ X / D from Nat.add_le_add_right this 2
    rw [Nat.le_div_iff_mul_le hDp]
    have e1 : P * ((k + 2) * d) ≤ P * (4294967296 * a + b) := Nat.mul_le_mul_left _ hgd
    have e2 : (k + 2) * D ≤ (k + 2) * (P * d + P) := Nat.mul_le_mul_left _ (by omega)
    have e3 : (k + 2) * P ≤ 2 * (P * d) := by
      have : P * (k + 2) ≤ P * (2 * d) := Nat.mul_le_mul_left _ (by omega)
      rw [Nat.mul_comm, Nat.mul_left_comm 2 P d]
      exact this
    have e4 : (k + 2) * (P * d) = P * ((k + 2) * d) := Nat.mul_left_comm _ _ _
    rw [Nat.mul_add (k + 2), e4] at e2
    rw [Nat.add_mul] at e2
    have e5 : P * (b + 4294967296 * a) = P * (4294967296 * a + b) := by rw [Nat.add_comm]
    omega
/-- what is left to put right. -/
theorem put_right (Z k D RM Pn s c Z' : Nat) (h : Z + (k + 1) * D = RM + Pn * s) (hc : Z' + Pn * c = Z + D) (hRM : RM < D) (hD : D ≤ Pn) (hZ : Z' < Pn) : c ≤ s ∧ Z' + k * D = RM + Pn * (s - c) := by
  rw [Nat.add_mul, Nat.one_mul] at h
  have h1 : Z' + Pn * c + k * D = RM + Pn * s := by omega
  have hcs : c ≤ s := by
    apply Classical.byContradiction
    intro hn
    have : Pn * (s + 1) ≤ Pn * c := Nat.mul_le_mul_left _ (by omega)
    rw [Nat.mul_add, Nat.mul_one] at this
    omega
  refine ⟨hcs, ?_⟩
  obtain ⟨t, rfl⟩ : ∃ t, s = c + t := ⟨s - c, by omega⟩
  rw [Nat.add_sub_cancel_left]
  rw [Nat.mul_add] at h1
  omega
/-- the first guess taken away. -/
theorem first_take (Z q k D RM XL Pn c a : Nat) (h : Z + (q + k) * D = XL + Pn * c) (hX : XL + Pn * a = q * D + RM) (hRM : RM < D) (hD : D ≤ Pn) (hZ : Z < Pn) (hk : k ≤ 2) : a ≤ c ∧ Z + k * D = RM + Pn * (c - a) ∧ c - a ≤ 2 := by
  rw [Nat.add_mul] at h
  have h1 : Z + k * D + Pn * a = RM + Pn * c := by omega
  have hac : a ≤ c := by
    apply Classical.byContradiction
    intro hn
    have : Pn * (c + 1) ≤ Pn * a := Nat.mul_le_mul_left _ (by omega)
    rw [Nat.mul_add, Nat.mul_one] at this
    omega
  obtain ⟨t, rfl⟩ : ∃ t, c = a + t := ⟨c - a, by omega⟩
  rw [Nat.add_sub_cancel_left]
  rw [Nat.mul_add] at h1
  refine ⟨by omega, by omega, ?_⟩
  apply Classical.byContradiction
  intro hn
  have e1 : Pn * 3 ≤ Pn * t := Nat.mul_le_mul_left _ (by omega)
  have e2 : k * D ≤ 2 * D := Nat.mul_le_mul_right _ hk
  omega
/-- a digit s below 0. -/
def ng (s : Nat) : BitVec 32 := BitVec.ofNat 32 (4294967296 - s)
theorem ng_nat (s : Nat) (h : s ≤ 2) : (ng s).toNat = if s = 0 then 0 else 4294967296 - s := by
  unfold ng
  rw [bv_of]
  split <;> omega
theorem But.drew1 (g : Nat) (w : World) : But g w w.drew := ⟨rfl, rfl, rfl, Nat.le_refl _, fun _ _ _ => rfl⟩
theorem ng_wrap (a c : Nat) (h : a ≤ c) (h2 : c - a ≤ 2) : IntKind.u32.wrap ((a : Int) - (c : Int)) = ((ng (c - a)).toNat : Int) ∧ ((a : Int) - (c : Int)) % 4294967296 = ((ng (c - a)).toNat : Int) := by
  rw [IntKind.wrap_u32, ng_nat _ h2]
  split <;> omega
theorem ng_add (s c : Nat) (h : c ≤ s) (h2 : s ≤ 2) (h0 : s ≠ 0) : IntKind.u32.wrap (((ng s).toNat : Int) + (c : Int)) = ((ng (s - c)).toNat : Int) ∧ (((ng s).toNat : Int) + (c : Int)) % 4294967296 = ((ng (s - c)).toNat : Int) := by
  rw [IntKind.wrap_u32, ng_nat _ h2, ng_nat (s - c) (by omega), if_neg h0]
  split <;> omega
theorem ng_cell (s : Nat) (h : s ≤ 2) : ((ng s).toNat = 0 ↔ s = 0) := by
  rw [ng_nat s h]
  split <;> omega
set_option maxRecDepth 100000 in
set_option maxHeartbeats 800000 in
theorem goesIn_in (W : World) (g h t o c1 c2 n : Nat) (A C : List Value) (xs ys : List (BitVec 32)) (hA : A.length = o) (hx : xs.length = n + 1) (hy : ys.length = n) (hn : n ≤ 500) (hn1 : 1 ≤ n) (ho : o ≤ 500) (hc1 : n + 1 ≤ c1) (hc1b : c1 ≤ 1000)
    (hX : val xs < val ys * 4294967296) (htop : 2147483648 ≤ (ys[n - 1]?.getD 0).toNat)
    (hg : W.heap[g]? = some (.cells (A ++ (wl xs ++ C)).toArray t (0, 0))) (hne : h ≠ g) (hh : ∀ j, j < n → W.cell? ⟨h, 0 + j, none⟩ = some (.int .u32 ((ys[j]?.getD 0).toNat : Int))) :
    Calls Tryd.prog 68 #[.slice (some ⟨g, o, none⟩) (n + 1) c1, .slice (some ⟨h, 0, none⟩) n c2] W fun e w' => ∃ zs : List (BitVec 32), zs.length = n + 1 ∧ val zs = val xs % val ys ∧ e = .returned (.int .u32 ((val xs / val ys : Nat) : Int)) ∧ w'.heap[g]? = some (.cells (A ++ (wl zs ++ C)).toArray t (0, 0)) ∧ But g W w' := by
  obtain ⟨D, hD⟩ : ∃ D, val ys = D := ⟨_, rfl⟩
  obtain ⟨X, hXX⟩ : ∃ X, val xs = X := ⟨_, rfl⟩
  rw [hD, hXX] at hX
  rw [hD, hXX]
  have hDn : D < 4294967296 ^ n := by rw [← hD, ← hy]; exact val_lt ys
  obtain ⟨m, rfl⟩ : ∃ m, n = m + 1 := ⟨n - 1, by omega⟩
  rw [Nat.add_sub_cancel] at htop
  -- the three digits that are looked at
  have s1 := val_split xs (m + 1)
  have s2 := val_take_succ xs m (by omega)
  have s3 := val_take_succ ys m (by omega)
  have hl1 : (xs.take (m + 1)).length = m + 1 := by rw [List.length_take]; omega
  have hdr : xs.drop (m + 1) = [xs[m + 1]?.getD 0] := by
    rw [List.drop_eq_getElem_cons (by omega), List.drop_eq_nil_of_le (by omega), List.getElem?_eq_getElem (by omega)]
    rfl
  rw [hl1, hdr, val_one, s2, hXX] at s1
  rw [List.take_of_length_le (by omega), hD] at s3
  have l1 := val_lt (xs.take m)
  have l2 := val_lt (ys.take m)
  rw [List.length_take, Nat.min_eq_left (by omega)] at l1 l2
  have HXT : Hid (xs = xs.take (m + 1) ++ [xs[m + 1]?.getD 0]) := by rw [Hid, ← hdr, List.take_append_drop]
  have HVT : Hid (val (xs.take (m + 1)) + 4294967296 ^ (m + 1) * (xs[m + 1]?.getD 0).toNat = X) := by rw [Hid, s2]; exact s1.symm
  have hDp : 0 < D := by
    have : 4294967296 ^ m * 1 ≤ 4294967296 ^ m * (ys[m]?.getD 0).toNat := Nat.mul_le_mul_left _ (by omega)
    have : 0 < 4294967296 ^ m := Nat.pow_pos (by omega)
    omega
  have hXe : X = val (xs.take m) + 4294967296 ^ m * ((xs[m]?.getD 0).toNat + 4294967296 * (xs[m + 1]?.getD 0).toNat) := by rw [s1, Nat.pow_succ, Nat.mul_add (4294967296 ^ m), Nat.mul_assoc, Nat.add_assoc]
  have gA := guess_ge X D (xs[m + 1]?.getD 0).toNat (xs[m]?.getD 0).toNat (ys[m]?.getD 0).toNat _ _ _ hXe l1 s3 (by omega) hX
  have gB := guess_le X D (xs[m + 1]?.getD 0).toNat (xs[m]?.getD 0).toNat (ys[m]?.getD 0).toNat _ _ _ hXe s3 l2 htop
  have HQR : Hid (X / D * D + X % D = X) := by rw [Hid, Nat.mul_comm]; exact Nat.div_add_mod X D
  have hRM : X % D < D := Nat.mod_lt _ hDp
  have hqb : X / D < 4294967296 := (Nat.div_lt_iff_lt_mul hDp).2 (by rw [Nat.mul_comm]; exact hX)
  have HCX : Hid (∀ j, j < m + 2 → W.cell? ⟨g, o + j, none⟩ = some (.int .u32 ((xs[j]?.getD 0).toNat : Int)) ∧ W.frozen? ⟨g, o + j, none⟩ = false) := fun j hj => by rw [← hA]; exact cells_at hg (mid_at A C xs j (by omega))
  have e1 := (HCX.out (m + 1) (by omega)).1
  have e2 := (HCX.out m (by omega)).1
  have e3 := hh m (by omega)
  have f1 := (HCX.out (m + 1) (by omega)).2
  have HLT : Hid ((xs.take (m + 1)).length = m + 1) := hl1
  have HGX : Hid (W.heap[g]? = some (.cells (A ++ (wl (xs.take (m + 1)) ++ (wl [xs[m + 1]?.getD 0] ++ C))).toArray t (0, 0))) := by
    have hgg := hg
    rw [HXT.out, wl_app, List.append_assoc] at hgg
    exact hgg
  have HGS := Hid.mk (guess_in (xs[m + 1]?.getD 0) (xs[m]?.getD 0) (ys[m]?.getD 0) (by omega))
  rw [Nat.zero_add] at e3
  have gC : gs (xs[m + 1]?.getD 0).toNat (xs[m]?.getD 0).toNat (ys[m]?.getD 0).toNat ≤ 4294967295 := by unfold gs; omega
  generalize gs (xs[m + 1]?.getD 0).toNat (xs[m]?.getD 0).toNat (ys[m]?.getD 0).toNat = G at gA gB gC HGS
  generalize xs[m + 1]?.getD 0 = a at e1 HVT HGS HGX HXT
  generalize xs[m]?.getD 0 = b at e2 HGS
  generalize ys[m]?.getD 0 = d at e3 HGS
  generalize X / D = Q at gA gB HQR hqb ⊢
  generalize X % D = RM at HQR hRM ⊢
  obtain ⟨k, hk⟩ : ∃ k, G = Q + k := ⟨G - Q, by omega⟩
  have hk2 : k ≤ 2 := by omega
  have HK := Hid.mk hk
  have hDle : D ≤ 4294967296 ^ (m + 1) := by omega
  have HA := Hid.mk hA
  have HHB : Hid (∀ W' : World, (∀ k, k ≠ g → k < W.heap.size → W'.heap[k]? = W.heap[k]?) → ∀ j, j < m + 1 → W'.cell? ⟨h, 0 + j, none⟩ = some (.int .u32 ((ys[j]?.getD 0).toNat : Int))) := fun W' hb j hj =>
    (World.cell?_of_block (w := W) (a := ⟨h, 0 + j, none⟩) (hb h hne (cell_block (hh j hj)))).trans (hh j hj)
  have HTK : Hid (∀ W' : World, W'.heap[g]? = some (.cells (A ++ (wl (xs.take (m + 1)) ++ (wl [a] ++ C))).toArray t (0, 0)) → (∀ k, k ≠ g → k < W.heap.size → W'.heap[k]? = W.heap[k]?) → Calls Tryd.prog 46 #[.slice (some ⟨g, o, none⟩) (m + 1) c1, .slice (some ⟨h, 0, none⟩) (m + 1) c2, .int .u32 (G : Int)] W' fun e w' => ∃ (zs : List (BitVec 32)) (c : BitVec 32), zs.length = m + 1 ∧ a.toNat ≤ c.toNat ∧ val zs + k * D = RM + 4294967296 ^ (m + 1) * (c.toNat - a.toNat) ∧ c.toNat - a.toNat ≤ 2 ∧ e = .returned (.int .u32 (c.toNat : Int)) ∧ w'.heap[g]? = some (.cells (A ++ (wl (zs ++ [a]) ++ C)).toArray t (0, 0)) ∧ But g W' w') := fun W' hg' hb' => by
    have hGb : G < 4294967296 := by omega
    have hGv : (BitVec.ofNat 32 G).toNat = G := by rw [bv_of]; omega
    have h := takeFrom_in W' g h t o 0 c1 c2 (m + 1) A (wl [a] ++ C) (xs.take (m + 1)) ys (BitVec.ofNat 32 G) hA HLT.out hy (by omega) (by omega) (by omega) hg' hne (HHB.out W' hb')
    rw [hGv] at h
    refine h.mono ?_
    rintro e w' ⟨zs, c, a1, a2, a3, a4, a5⟩
    have lz := val_lt zs
    rw [a1] at lz
    rw [hD, HK.out] at a2
    obtain ⟨r1, r2, r3⟩ := first_take _ _ _ _ _ _ _ _ a.toNat a2 (by rw [HVT.out]; exact HQR.out.symm) hRM hDle lz hk2
    refine ⟨zs, c, a1, r1, r2, r3, a3, ?_, a5⟩
    rw [wl_app, List.append_assoc]
    exact a4
  have HAD : Hid (∀ (W' : World) (zs : List (BitVec 32)) (rv : BitVec 32), zs.length = m + 1 → W'.heap[g]? = some (.cells (A ++ (wl (zs ++ [rv]) ++ C)).toArray t (0, 0)) → (∀ k, k ≠ g → k < W.heap.size → W'.heap[k]? = W.heap[k]?) → Calls Tryd.prog 44 #[.slice (some ⟨g, o, none⟩) (m + 1) c1, .slice (some ⟨h, 0, none⟩) (m + 1) c2] W' fun e w' => ∃ (us : List (BitVec 32)) (c : BitVec 32), us.length = m + 1 ∧ val us + 4294967296 ^ (m + 1) * c.toNat = val zs + D ∧ e = .returned (.int .u32 (c.toNat : Int)) ∧ w'.heap[g]? = some (.cells (A ++ (wl (us ++ [rv]) ++ C)).toArray t (0, 0)) ∧ But g W' w') := fun W' zs rv hz hg' hb' => by
    rw [wl_app, List.append_assoc] at hg'
    have h := addTo_in W' g h t o 0 c1 c2 (m + 1) A (wl [rv] ++ C) zs ys hA hz hy (by omega) (by omega) (by omega) hg' hne (HHB.out W' hb')
    refine h.mono ?_
    rintro e w' ⟨us, c, a1, a2, a3, a4, a5⟩
    refine ⟨us, c, a1, by rw [a2, hD], a3, ?_, a5⟩
    rw [wl_app, List.append_assoc]
    exact a4
  have HEN : Hid (∀ (w5 : World) (zs : List (BitVec 32)) (rv : BitVec 32), zs.length = m + 1 → w5.heap[g]? = some (.cells (A ++ (wl (zs ++ [rv]) ++ C)).toArray t (0, 0)) → w5.cell? ⟨g, o + (m + 1), none⟩ = some (.int .u32 (rv.toNat : Int)) ∧ w5.frozen? ⟨g, o + (m + 1), none⟩ = false ∧ ∀ u : BitVec 32, (w5.setCell ⟨g, o + (m + 1), none⟩ (.int .u32 (u.toNat : Int))).heap[g]? = some (.cells (A ++ (wl (zs ++ [u]) ++ C)).toArray t (0, 0))) := fun w5 zs rv hz hr => by
    have hl : m + 1 < (zs ++ [rv]).length := by rw [List.length_append, hz]; simp
    have e0 : (zs ++ [rv])[m + 1]?.getD 0 = rv := by rw [List.getElem?_append_right (by omega), hz, Nat.sub_self]; rfl
    obtain ⟨q1, q2⟩ := cells_at hr (mid_at A C (zs ++ [rv]) (m + 1) hl)
    rw [e0, hA] at q1
    rw [hA] at q2
    refine ⟨q1, q2, fun u => ?_⟩
    have hp := cells_put (j := o + (m + 1)) hr (.int .u32 (u.toNat : Int))
    rw [← hA, mid_set A C (zs ++ [rv]) (m + 1) hl u, List.set_append_right _ _ (by omega), hz, Nat.sub_self, hA] at hp
    exact hp
  have hGb2 : G < 4294967296 := by omega
  have ai := bv_lt a
  have HNB : Hid (∀ W' : World, W'.heap = W.heap → ∀ k, k ≠ g → k < W.heap.size → W'.heap[k]? = W.heap[k]?) := fun W' e k _ _ => by rw [e]
  have HDL := Hid.mk hDle
  clear hD hXX s1 s2 s3 l1 l2 hl1 hdr hXe hX htop hg hh hA hx hy hDle hDn hk gA gB
  have mi0 : (0 : Int) ≤ (m : Int) := by omega
  have mi1 : (m : Int) < (m : Int) + 1 := by omega
  have mi2 : (m : Int) + 1 - 1 = (m : Int) := by omega
  have mi3 : (m : Int) + 1 < (m : Int) + 1 + 1 := by omega
  have mi4 : (0 : Int) ≤ (m : Int) + 1 := by omega
  have mi5 : ((m : Int) + 1).toNat = m + 1 := by omega
  have mi6 : (m : Int) + 1 ≤ (c1 : Int) := by omega
  have mi7 : m + 1 ≤ c1 := by omega
  have mi8 : IntKind.i64.wrap ((m : Int) + 1 - 1) = (m : Int) := by rw [IntKind.wrap_i64]; omega
  go_enter Tryd.func68, Tryd.ntmps68
  go_wp2_with fail
  go_quiet (first
    | (go_at_call 80; exact (HGS.out _).mono fun _ _ hh => ⟨hh.1, _, hh.2⟩))
  have E1 : (W.drewN nq).cell? ⟨g, o + (m + 1), none⟩ = some (.int .u32 (a.toNat : Int)) := e1
  have F1 : (W.drewN nq).frozen? ⟨g, o + (m + 1), none⟩ = false := f1
  have HG1 : Hid ((W.drewN nq).heap[g]? = _) := HGX.out
  have HB1 : Hid (∀ k, k ≠ g → k < W.heap.size → (W.drewN nq).heap[k]? = W.heap[k]?) := fun _ _ _ => rfl
  have hbut1 : But g W (W.drewN nq) := But.drewN _ _ _
  clear e1 e2 e3 f1 HGX HGS HCX HNB
  generalize W.drewN nq = V at E1 F1 HG1 HB1 hbut1 ⊢
  go_wp2_with fail
  go_region_with (first
    | (go_at_call 46; refine (HTK.out _ (by exact HG1.out) (by exact HB1.out)).mono ?_; rintro e w5 ⟨zs, c, hzl, hac, hval, hs2, rfl, hrow5, hbut⟩; obtain ⟨hc5, hf5, hput⟩ := HEN.out w5 zs a hzl hrow5; obtain ⟨hw1, hw2⟩ := ng_wrap a.toNat c.toNat hac hs2; have HPUT := Hid.mk hput; have HBUT := Hid.mk hbut; have HZL := Hid.mk hzl; have HVAL := Hid.mk hval; have HS2 := Hid.mk hs2; clear hput hbut hzl hval hrow5 hac hs2))
  all_goals (
    generalize c.toNat - a.toNat = s at hw1 hw2 HVAL HS2 ⊢
    have HROW := Hid.mk (HPUT.out (ng s))
    have HBW : But g W w5 := hbut1.trans ((But.drew1 g V).trans HBUT.out)
    clear HPUT HBUT
    go_wp2_with fail
    go_loopw [6] (fun iv wr => ∃ (k s : Nat) (zs : List (BitVec 32)), k ≤ 2 ∧ s ≤ 2 ∧ Q + k ≤ 4294967295 ∧ iv = .int .u32 ((Q + k : Nat) : Int) ∧ Hid (zs.length = m + 1) ∧ Hid (val zs + k * D = RM + 4294967296 ^ (m + 1) * s) ∧ wr.heap[g]? = some (.cells (A ++ (wl (zs ++ [ng s]) ++ C)).toArray t (0, 0)) ∧ But g W wr) (fun iv _ => (intOf iv).toNat)
    case atStart => exact ⟨k, s, zs, hk2, HS2.out, by rw [← HK.out]; exact gC, by rw [HK.out], HZL, HVAL, HROW.out, HBW.trans (But.setCell _ _ _ _)⟩
    case round =>
      obtain ⟨k, s, zs, hk2, hs2, hqk, rfl, HZL, HVAL, hrow, hbw⟩ := hrel
      obtain ⟨hcc, hff, hput⟩ := HEN.out wr zs (ng s) HZL.out hrow
      have HROW := Hid.mk hrow
      have HPUT := Hid.mk hput
      clear hrow hput
      have hzl := Hid.mk (val_lt zs)
      by_cases hs0 : s = 0
      · have h0 := (ng_cell s hs2).2 hs0
        rw [h0] at hcc
        have HK0 : Hid (k = 0) := by
          apply Classical.byContradiction
          intro hn
          have e1 := HVAL.out
          rw [hs0, Nat.mul_zero, Nat.add_zero] at e1
          have h3 : 1 * D ≤ k * D := Nat.mul_le_mul_right _ (Nat.one_le_iff_ne_zero.2 hn)
          rw [Nat.one_mul] at h3
          omega
        have HFIN : Hid (val (zs ++ [ng s]) = RM) := by
          rw [Hid, val_snoc, h0, Nat.mul_zero, Nat.add_zero]
          have e1 := HVAL.out
          rw [hs0, HK0.out, Nat.mul_zero, Nat.zero_mul] at e1
          omega
        clear h0
        go_wp2
        go_ret
        refine ⟨zs ++ [ng s], by rw [List.length_append, HZL.out]; rfl, HFIN.out, ?_, HROW.out, hbw⟩
        rw [HK0.out]
        rfl
      · have h0 : (ng s).toNat ≠ 0 := fun e => hs0 ((ng_cell s hs2).1 e)
        have hne2 : (((ng s).toNat : Int) != 0) = true := by rw [bne_iff_ne]; omega
        have HB2 : Hid (∀ k, k ≠ g → k < W.heap.size → wr.heap[k]? = W.heap[k]?) := hbw.block
        obtain ⟨k', hk'⟩ : ∃ k', k = k' + 1 := by
          refine ⟨k - 1, ?_⟩
          apply Classical.byContradiction
          intro hn
          have hk0 : k = 0 := by omega
          have e1 := HVAL.out
          have e2 := hzl.out
          rw [hk0, Nat.zero_mul, Nat.add_zero] at e1
          rw [HZL.out] at e2
          have : 4294967296 ^ (m + 1) * 1 ≤ 4294967296 ^ (m + 1) * s := Nat.mul_le_mul_left _ (by omega)
          omega
        have HPR : Hid (∀ (us : List (BitVec 32)) (c : BitVec 32), us.length = m + 1 → val us + 4294967296 ^ (m + 1) * c.toNat = val zs + D → c.toNat ≤ s ∧ val us + k' * D = RM + 4294967296 ^ (m + 1) * (s - c.toNat)) := fun us c hu hv => by
          have lz := val_lt us
          rw [hu] at lz
          have e1 := HVAL.out
          rw [hk'] at e1
          exact put_right _ _ _ _ _ _ _ _ e1 hv hRM HDL.out lz
        have qk1 : ((Q + k : Nat) : Int) - 1 = ((Q + k' : Nat) : Int) := by omega
        have qk2 : IntKind.u32.wrap (((Q + k : Nat) : Int) - 1) = ((Q + k' : Nat) : Int) := by rw [IntKind.wrap_u32]; omega
        have hqk' : Q + k' ≤ 4294967295 := by omega
        have hk2' : k' ≤ 2 := by omega
        have hlt' : Q + k' < Q + k := by omega
        obtain ⟨K1, hK1⟩ : ∃ K1, Q + k = K1 := ⟨_, rfl⟩
        obtain ⟨K2, hK2⟩ : ∃ K2, Q + k' = K2 := ⟨_, rfl⟩
        rw [hK1, hK2] at qk1 qk2 hlt'
        rw [hK1]
        rw [hK1] at hqk
        have HK2 := Hid.mk hK2
        clear hK1 hK2 hk' HVAL
        go_wp2_with fail
        go_region_with (first
          | (go_at_call 44; refine (HAD.out _ zs (ng s) HZL.out (by exact HROW.out) (by exact HB2.out)).mono ?_; rintro e w5 ⟨us, c, hul, hval, rfl, hrow5, hbut⟩; obtain ⟨hc5, hf5, hput⟩ := HEN.out w5 us (ng s) hul hrow5; obtain ⟨hcs, hv2⟩ := HPR.out us c hul hval; obtain ⟨hw1, hw2⟩ := ng_add s c.toNat hcs hs2 hs0; have HPUT5 := Hid.mk hput; have HBUT5 := Hid.mk hbut; have HUL := Hid.mk hul; have HV2 := Hid.mk hv2; clear hput hbut hul hval hrow5 hcs hv2))
        all_goals (
          have HBW5 : But g W w5 := hbw.trans ((But.drew1 g wr).trans HBUT5.out)
          clear HBUT5
          go_wp2
          go_roundw
          case rel =>
            exact ⟨k', s - c.toNat, us, hk2', by omega, hqk', by rw [HK2.out], HUL, HV2, HPUT5.out _, HBW5.trans (But.setCell _ _ _ _)⟩
          case measure => simp [intOf]; omega))
end Go.Proofs.YthjhemodmdficaaDoor
