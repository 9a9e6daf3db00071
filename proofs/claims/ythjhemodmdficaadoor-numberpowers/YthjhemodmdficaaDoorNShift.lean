/- shiftUp, shiftDown. -/
import Derived.Test.YthjhemodmdficaaDoorNTake
namespace Go.Proofs.YthjhemodmdficaaDoor
set_option linter.unusedVariables false
open Go.RowKit
theorem orS (x k c : Nat) (hx : x < 4294967296) (hk : k < 32) (hc : c < 2 ^ k) : bits .or .u64 ((x : Int) * 2 ^ k) (c : Int) = ((x * 2 ^ k + c : Nat) : Int) ∧ x * 2 ^ k + c < 4294967296 * 2 ^ k ∧ (x : Int) * 2 ^ k = ((x * 2 ^ k : Nat) : Int) := by
  have h1 : 2 ^ k ≤ 2 ^ 31 := Nat.pow_le_pow_right (by omega) (by omega)
  have h0 : 0 < 2 ^ k := Nat.two_pow_pos k
  have h2 : (x + 1) * 2 ^ k ≤ 4294967296 * 2 ^ k := Nat.mul_le_mul_right _ (by omega)
  rw [Nat.add_mul, Nat.one_mul] at h2
  have h3 : 4294967296 * 2 ^ k ≤ 4294967296 * 2 ^ 31 := Nat.mul_le_mul_left _ h1
  have e : x * 2 ^ k ||| c = x * 2 ^ k + c := by
    rw [Nat.mul_comm x]
    exact (Nat.two_pow_add_eq_or_of_lt hc x).symm
  have ei : (x : Int) * 2 ^ k = ((x * 2 ^ k : Nat) : Int) := by rw [Int.natCast_mul, Int.natCast_pow]; rfl
  refine ⟨?_, by omega, ei⟩
  rw [ei, u64_or_nat _ _ (by omega) (by omega), e]
theorem up_step (B V X s c x z c' : Nat) (h : V + B * c = X * s) (hz : z + 4294967296 * c' = x * s + c) : V + B * z + B * 4294967296 * c' = (X + B * x) * s := by
  have h1 : B * (z + 4294967296 * c') = B * (x * s + c) := by rw [hz]
  rw [Nat.mul_add, Nat.mul_add] at h1
  rw [Nat.add_mul, Nat.mul_assoc B, Nat.mul_assoc B]
  omega
set_option maxRecDepth 100000 in
set_option maxHeartbeats 2000000 in
theorem shiftUp_in (W : World) (g t o c1 n k : Nat) (A C : List Value) (xs : List (BitVec 32)) (hA : A.length = o) (hx : xs.length = n) (hn : n ≤ 1000) (ho : o ≤ 1000) (hk : k < 32)
    (hg : W.heap[g]? = some (.cells (A ++ (wl xs ++ C)).toArray t (0, 0))) :
    Calls Tryd.prog 67 #[.slice (some ⟨g, o, none⟩) n c1, .int .i64 (k : Int)] W fun e w' => ∃ (zs : List (BitVec 32)) (c : Nat), zs.length = n ∧ val zs + 4294967296 ^ n * c = val xs * 2 ^ k ∧ e = .returned (.tuple #[]) ∧ w'.heap[g]? = some (.cells (A ++ (wl zs ++ C)).toArray t (0, 0)) ∧ But g W w' := by
  have HA := Hid.mk hA
  have HX := Hid.mk hx
  have HG := Hid.mk hg
  obtain ⟨s, hs⟩ : ∃ s, s = 2 ^ k := ⟨_, rfl⟩
  have HS := Hid.mk hs
  have hs0 : 0 < s := by rw [hs]; exact Nat.two_pow_pos k
  have hs1 : s ≤ 2147483648 := by rw [hs]; exact Nat.pow_le_pow_right (n := 2) (by omega) (show k ≤ 31 by omega)
  rw [← hs]
  clear hA hx hg hs
  go_enter Tryd.func67, Tryd.ntmps67
  go_wp2_with fail
  go_loopw [4, 9] (fun cv i wr => ∃ (m cr : Nat) (zs : List (BitVec 32)), m ≤ n ∧ i = .int .i64 (m : Int) ∧ cv = .int .u64 (cr : Int) ∧ cr < s ∧ Hid (zs.length = m) ∧ Hid (val zs + 4294967296 ^ m * cr = val (xs.take m) * s) ∧ wr.heap[g]? = some (.cells (A ++ (wl (zs ++ xs.drop m) ++ C)).toArray t (0, 0)) ∧ But g W wr) (fun _ i _ => n - (intOf i).toNat)
  case atStart => exact ⟨0, 0, [], by omega, rfl, rfl, hs0, rfl, by rw [Hid, List.take_zero]; simp [val], HG.out, But.refl _ _⟩
  case round =>
    obtain ⟨m, cr, zs, hm, rfl, rfl, hcr, HZL, HV, h1, hbut⟩ := hrel
    have H1 := Hid.mk h1
    by_cases hlt : m < n
    · have hml : m < (zs ++ xs.drop m).length := by rw [List.length_append, List.length_drop, HZL.out, HX.out]; omega
      have hat : (zs ++ xs.drop m)[m]?.getD 0 = xs[m]?.getD 0 := by rw [List.getElem?_append_right (by rw [HZL.out]; omega), HZL.out, Nat.sub_self, List.getElem?_drop, Nat.add_zero]
      obtain ⟨hcx, hfx⟩ := cells_at h1 (mid_at A C _ m hml)
      rw [hat, HA.out] at hcx
      rw [HA.out] at hfx
      have HST := Hid.mk (fun z => mid_set A C (zs ++ xs.drop m) m hml z)
      have HSL : Hid (∀ z : BitVec 32, (zs ++ xs.drop m).set m z = (zs ++ [z]) ++ xs.drop (m + 1)) := fun z => by
        rw [List.set_append_right _ _ (by rw [HZL.out]; omega), HZL.out, Nat.sub_self, List.append_assoc, List.drop_eq_getElem_cons (by rw [HX.out]; exact hlt)]
        rfl
      have HVX := Hid.mk (val_take_succ xs m (by rw [HX.out]; exact hlt))
      generalize xs[m]?.getD 0 = x at hcx HVX
      have hxl := bv_lt x
      obtain ⟨o1, o2, o3⟩ := orS x.toNat k cr hxl hk (by rw [← HS.out]; exact hcr)
      rw [o3] at o1
      rw [← HS.out] at o1 o2 o3
      obtain ⟨X, hX⟩ : ∃ X, x.toNat * s = X := ⟨_, rfl⟩
      rw [hX] at o1 o2 o3
      obtain ⟨T, hT⟩ : ∃ T, T = X + cr := ⟨_, rfl⟩
      rw [← hT] at o1 o2
      have o3' : (x.toNat : Int) * (s : Int) = (X : Int) := by rw [← hX, Int.natCast_mul]
      obtain ⟨z, HZ⟩ : ∃ z, Hid (z = BitVec.ofNat 32 T) := ⟨_, rfl⟩
      have hzn : z.toNat = T % 4294967296 := by rw [HZ.out, bv_of]
      have hz1 : (T : Int) % 4294967296 = (z.toNat : Int) := by omega
      have hz2 : IntKind.u32.wrap (T : Int) = (z.toNat : Int) := by rw [IntKind.wrap_u32]; omega
      obtain ⟨c', hc'⟩ : ∃ c', T / 4294967296 = c' := ⟨_, rfl⟩
      have hs1' : (T : Int) / 4294967296 = (c' : Int) := by omega
      have hcb : c' < s := by omega
      have HEQ : Hid (z.toNat + 4294967296 * c' = x.toNat * s + cr) := by rw [Hid, hX]; omega
      have hTb : T < 18446744073709551616 := by omega
      have hXb : X < 18446744073709551616 := by omega
      have hk0 : (0 : Int) ≤ (k : Int) := by omega
      have w1 : IntKind.u64.wrap (X : Int) = (X : Int) := by rw [IntKind.wrap_u64]; omega
      clear h1 hat hml hT hzn hc' hX
      go_wp2
      go_roundw
      case rel =>
        refine ⟨m + 1, c', zs ++ [z], by omega, by go_num, by go_num, hcb, by rw [Hid, List.length_append, HZL.out]; rfl, ?_, ?_, hbut.trans (But.setCell _ _ _ _)⟩
        · rw [Hid, val_snoc, HZL.out, HVX.out, Nat.pow_succ]
          exact up_step _ _ _ _ _ _ _ _ HV.out HEQ.out
        · have hh := cells_put (j := o + m) H1.out (.int .u32 (z.toNat : Int))
          rw [← HA.out, HST.out z, HSL.out z, HA.out] at hh
          exact hh
      case measure => simp [intOf]; omega
    · obtain rfl : m = n := by omega
      rw [List.drop_eq_nil_of_le (by rw [HX.out]; omega), List.append_nil] at H1
      have HV2 : Hid (val zs + 4294967296 ^ m * cr = val xs * s) := by
        have := HV.out
        rwa [List.take_of_length_le (by rw [HX.out]; omega)] at this
      clear h1
      go_wp2
      refine bodyPost_end (results_none rfl _ _ _) rfl ⟨zs, cr, HZL.out, HV2.out, rfl, H1.out, hbut⟩
theorem down_step (B s V x ab Q z : Nat) (hd : s ∣ B) (hs : 0 < s) (hab : ab = V % B) (hQ : Q = (B * ab + x) / s) (hz : z = Q % B) (hx : x < B) : z + B * (V / s) = (x + B * V) / s := by
  have hr : ab % s = V % s := by rw [hab]; exact Nat.mod_mod_of_dvd V hd
  have hlt : V % s < s := Nat.mod_lt _ hs
  have e1 : s * (ab / s) + V % s = ab := by rw [← hr]; exact Nat.div_add_mod ab s
  have e2 : s * (V / s) + V % s = V := Nat.div_add_mod V s
  have hB : 0 < B := by omega
  have hsm : (B * (V % s) + x) / s < B := by
    apply Nat.div_lt_of_lt_mul
    have h1 : B * (V % s + 1) ≤ B * s := Nat.mul_le_mul_left _ hlt
    rw [Nat.mul_add, Nat.mul_one] at h1
    rw [Nat.mul_comm s B]
    omega
  have hQ2 : Q = B * (ab / s) + (B * (V % s) + x) / s := by
    rw [hQ]
    have h1 : B * ab + x = s * (B * (ab / s)) + (B * (V % s) + x) := by
      have h2 : B * ab = B * (s * (ab / s)) + B * (V % s) := by rw [← Nat.mul_add, e1]
      rw [h2, Nat.mul_left_comm B s]
      omega
    rw [h1, Nat.mul_add_div hs]
  have hz2 : z = (B * (V % s) + x) / s := by
    rw [hz, hQ2, Nat.mul_add_mod, Nat.mod_eq_of_lt hsm]
  have h3 : x + B * V = s * (B * (V / s)) + (B * (V % s) + x) := by
    have h2 : B * V = B * (s * (V / s)) + B * (V % s) := by rw [← Nat.mul_add, e2]
    rw [h2, Nat.mul_left_comm B s]
    omega
  rw [h3, Nat.mul_add_div hs, hz2]
  omega
set_option maxRecDepth 100000 in
set_option maxHeartbeats 2000000 in
theorem shiftDown_in (W : World) (g t o c1 n k : Nat) (A C : List Value) (xs : List (BitVec 32)) (hA : A.length = o) (hx : xs.length = n) (hn : n ≤ 1000) (ho : o ≤ 1000) (hk : k < 32)
    (hg : W.heap[g]? = some (.cells (A ++ (wl xs ++ C)).toArray t (0, 0))) :
    Calls Tryd.prog 69 #[.slice (some ⟨g, o, none⟩) n c1, .int .i64 (k : Int)] W fun e w' => ∃ (zs : List (BitVec 32)), zs.length = n ∧ val zs = val xs / 2 ^ k ∧ e = .returned (.tuple #[]) ∧ w'.heap[g]? = some (.cells (A ++ (wl zs ++ C)).toArray t (0, 0)) ∧ But g W w' := by
  have HA := Hid.mk hA
  have HX := Hid.mk hx
  have HG := Hid.mk hg
  obtain ⟨s, hs⟩ : ∃ s, s = 2 ^ k := ⟨_, rfl⟩
  have HS := Hid.mk hs
  have hs0 : 0 < s := by rw [hs]; exact Nat.two_pow_pos k
  have HDV : Hid (s ∣ 4294967296) := by rw [Hid, hs]; exact Nat.pow_dvd_pow (n := 32) 2 (by omega)
  rw [← hs]
  clear hA hx hg hs
  go_enter Tryd.func69, Tryd.ntmps69
  go_wp2_with fail
  go_loopw [4, 10] (fun av i wr => ∃ (m ab : Nat) (ts : List (BitVec 32)), m ≤ n ∧ i = .int .i64 (m : Int) ∧ av = .int .u32 (ab : Int) ∧ ab < 4294967296 ∧ Hid (ts.length = m) ∧ Hid (ab = val (xs.drop (n - m)) % 4294967296) ∧ Hid (val ts = val (xs.drop (n - m)) / s) ∧ wr.heap[g]? = some (.cells (A ++ (wl (xs.take (n - m) ++ ts) ++ C)).toArray t (0, 0)) ∧ But g W wr) (fun _ i _ => n - (intOf i).toNat)
  case atStart =>
    have e0 : xs.drop (n - 0) = [] := List.drop_eq_nil_of_le (by rw [HX.out]; omega)
    refine ⟨0, 0, [], by omega, rfl, rfl, by omega, rfl, by rw [Hid, e0]; rfl, by rw [Hid, e0]; exact (Nat.zero_div s).symm, ?_, But.refl _ _⟩
    rw [List.take_of_length_le (by rw [HX.out]; omega), List.append_nil]
    exact HG.out
  case round =>
    obtain ⟨m, ab, ts, hm, rfl, rfl, hab, HTL, HAB, HV, h1, hbut⟩ := hrel
    have H1 := Hid.mk h1
    by_cases hlt : m < n
    · obtain ⟨a, ha⟩ : ∃ a, n - 1 - m = a := ⟨_, rfl⟩
      have ha1 : n - m = a + 1 := by omega
      have ha2 : n - (m + 1) = a := by omega
      have hal : a < n := by omega
      have hai : (n : Int) - 1 - (m : Int) = (a : Int) := by omega
      have hml : a < (xs.take (n - m) ++ ts).length := by rw [List.length_append, List.length_take, HTL.out, HX.out]; omega
      have hat : (xs.take (n - m) ++ ts)[a]?.getD 0 = xs[a]?.getD 0 := by rw [List.getElem?_append_left (by rw [List.length_take, HX.out]; omega), List.getElem?_take_of_lt (by omega)]
      obtain ⟨hcx, hfx⟩ := cells_at h1 (mid_at A C _ a hml)
      rw [hat, HA.out] at hcx
      rw [HA.out] at hfx
      have HST := Hid.mk (fun z => mid_set A C (xs.take (n - m) ++ ts) a hml z)
      have HSL : Hid (∀ z : BitVec 32, (xs.take (n - m) ++ ts).set a z = xs.take (n - (m + 1)) ++ (z :: ts)) := fun z => by
        rw [ha1, ha2, List.take_add_one, List.getElem?_eq_getElem (by rw [HX.out]; exact hal), List.append_assoc, List.set_append_right _ _ (by rw [List.length_take, HX.out]; omega), List.length_take, show a - min a xs.length = 0 by have := HX.out; omega]
        rfl
      have HDR : Hid (val (xs.drop (n - (m + 1))) = (xs[a]?.getD 0).toNat + 4294967296 * val (xs.drop (n - m))) := by
        rw [Hid, ha1, ha2, List.drop_eq_getElem_cons (by rw [HX.out]; exact hal), val, List.getElem?_eq_getElem (by rw [HX.out]; exact hal)]
        rfl
      generalize xs[a]?.getD 0 = x at hcx HDR
      have hxl := bv_lt x
      have hor := or64 ab x.toNat hab hxl
      obtain ⟨T, hT⟩ : ∃ T, 4294967296 * ab + x.toNat = T := ⟨_, rfl⟩
      rw [hT] at hor
      have hTb : T < 18446744073709551616 := by omega
      obtain ⟨Q, hQ⟩ : ∃ Q, T / s = Q := ⟨_, rfl⟩
      have hQi : (T : Int) / 2 ^ k = (Q : Int) := by rw [← hQ, HS.out, Int.natCast_ediv, Int.natCast_pow]; rfl
      have hQi2 : (T : Int) / (s : Int) = (Q : Int) := by rw [← hQ, Int.natCast_ediv]
      have hQb : Q < 18446744073709551616 := by rw [← hQ]; exact Nat.lt_of_le_of_lt (Nat.div_le_self _ _) hTb
      obtain ⟨z, HZ⟩ : ∃ z, Hid (z = BitVec.ofNat 32 Q) := ⟨_, rfl⟩
      have hzn : z.toNat = Q % 4294967296 := by rw [HZ.out, bv_of]
      have hz1 : (Q : Int) % 4294967296 = (z.toNat : Int) := by omega
      have hz2 : IntKind.u32.wrap (Q : Int) = (z.toNat : Int) := by rw [IntKind.wrap_u32]; omega
      have HVN : Hid (val (z :: ts) = val (xs.drop (n - (m + 1))) / s) := by
        rw [Hid, val, HV.out, HDR.out]
        exact down_step 4294967296 s _ x.toNat ab Q z.toNat HDV.out hs0 HAB.out (by rw [hT, hQ]) hzn hxl
      have HAN : Hid (x.toNat = val (xs.drop (n - (m + 1))) % 4294967296) := by rw [Hid, HDR.out]; omega
      have hk0 : (0 : Int) ≤ (k : Int) := by omega
      clear h1 hat hml hT hzn hQ ha HV HAB HDR
      go_wp2
      go_roundw
      case rel =>
        refine ⟨m + 1, x.toNat, z :: ts, by omega, by go_num, by go_num, hxl, by rw [Hid, List.length_cons, HTL.out], HAN, HVN, ?_, hbut.trans (But.setCell _ _ _ _)⟩
        have hh := cells_put (j := o + a) H1.out (.int .u32 (z.toNat : Int))
        rw [← HA.out, HST.out z, HSL.out z, HA.out] at hh
        exact hh
      case measure => simp [intOf]; omega
    · obtain rfl : m = n := by omega
      rw [Nat.sub_self, List.take_zero, List.nil_append] at H1
      have HV2 : Hid (val ts = val xs / s) := by
        have := HV.out
        rwa [Nat.sub_self, List.drop_zero] at this
      clear h1
      go_wp2
      refine bodyPost_end (results_none rfl _ _ _) rfl ⟨ts, HTL.out, HV2.out, rfl, H1.out, hbut⟩
end Go.Proofs.YthjhemodmdficaaDoor
