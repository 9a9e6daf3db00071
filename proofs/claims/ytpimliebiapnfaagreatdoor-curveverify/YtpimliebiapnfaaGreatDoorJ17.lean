/- Texts of this proof, joined: CTaken, CEcF, CNG, GLaid, CVLaid, NHas. -/
import Derived.Test.YtpimliebiapnfaaGreatDoorJ16
import Derived.Test.YtpimliebiapnfaaGreatDoorJ15
import Derived.OpenShut
import Derived.WalkKit
import Derived.ProofKit
import Derived.Lib.LaidTab
import Derived.Deep.DeepHandedRow
import Derived.Test.YtpimliebiapnfaaGreatDoorTie
import Derived.Test.YtpimliebiapnfaaGreatDoorCards
import Derived.Test.YtpimliebiapnfaaGreatDoorJ12
import Derived.Test.YtpimliebiapnfaaGreatDoorJ9
/- taken. -/
namespace Go.Proofs.YtpimliebiapnfaaGreatDoor
set_option linter.unusedVariables false
set_option linter.unusedSimpArgs false
open Go.RowKit N
attribute [local go_sem ↓] N.loadAt_nat N.storeAt_nat N.build_nat N.build_nat' loadAt_pt storeAt_pt build_pt0 build_pt0' build_pt'
attribute [local go_sem] N.st1 N.st2a N.st2b N.st1d N.st2ad N.st2bd N.natBuild_run ptst1 ptst1d ptBuild0_run build_pt ptBuild_run
attribute [local go_sem ↓] bin_nat bin_pt
theorem and8 : ∀ q : Fin 256, bits .and .u8 (q.val : Int) 1 = ((q.val % 2 : Nat) : Int) := by decide +kernel
theorem bit8 (k L i : Nat) (hi : i < 8 * L) : k / 256 ^ (L - 1 - i / 8) % 256 / 2 ^ (7 - i % 8) % 2 = k / 2 ^ (8 * L - (i + 1)) % 2 := by
  have e : 2 ^ (8 * L - (i + 1)) = 256 ^ (L - 1 - i / 8) * 2 ^ (7 - i % 8) := by
    rw [show (256 : Nat) = 2 ^ 8 from rfl, ← Nat.pow_mul, ← Nat.pow_add]
    congr 1
    omega
  rw [e, ← Nat.div_div_eq_div_mul]
  generalize k / 256 ^ (L - 1 - i / 8) = A
  have h : 7 - i % 8 ≤ 7 := by omega
  generalize 7 - i % 8 = r at h
  have e2 : 256 = 2 ^ r * (2 ^ (7 - r) * 2) := by
    rw [← Nat.mul_assoc, ← Nat.pow_add, show r + (7 - r) = 7 by omega]
  rw [show A % 256 = A % (2 ^ r * (2 ^ (7 - r) * 2)) by rw [← e2], Nat.mod_mul_right_div_self, Nat.mod_mul_left_mod]
def accT (a : T3) (k n i : Nat) : T3 := a.times i (k / 2 ^ (n - i))
theorem accT_step {a : T3} {k n i : Nat} (hi : i < n) : accT a k n (i + 1) = if k / 2 ^ (n - (i + 1)) % 2 = 1 then (accT a k n i).twice.sum a else (accT a k n i).twice := by
  unfold accT
  rw [T3.times]
  have : k / 2 ^ (n - (i + 1)) / 2 = k / 2 ^ (n - i) := by
    rw [Nat.div_div_eq_div_mul, ← Nat.pow_succ, show (n - (i + 1)).succ = n - i by omega]
  rw [this]
set_option maxRecDepth 100000 in
set_option maxHeartbeats 2000000 in
theorem taken_in {c mp mn : Nat} (k : Nat) (a : T3) (W : World) (C : Cv W c mp mn) (ha : a.Ok) (hk : k < 2 ^ 256) :
    Calls Tryz.prog 29 #[boxM c, .agg (N.natL k).toArray, .agg (ptL a).toArray] W fun e w' => e = .returned (.agg (ptL (a.times (8 * N.nbl k) k)).toArray) ∧ Below W.heap.size W w' := by
  have hkL : k < N.Lim := N.lim_big 8 k (by omega) (Nat.lt_of_lt_of_le hk (by decide))
  have HB := Hid.mk (N.bytes_in k hkL)
  have hLb : N.nbl k ≤ 32 := (N.nbl_le_iff k 32).2 (Nat.lt_of_lt_of_le hk (by decide))
  obtain ⟨L, hL⟩ : ∃ L, N.nbl k = L := ⟨_, rfl⟩
  rw [hL] at HB hLb ⊢
  have hsz : (⟨(N.bys k L).toArray⟩ : ByteArray).size = L := by rw [← size_list]; exact N.bys_len k L
  have HIX : Hid (∀ j, j < L → ∀ w : World, (Instr.index 9 (.string ⟨(N.bys k L).toArray⟩) (.int .i64 (j : Int))).run Tryz.prog w = .ok (.int .u8 ((k / 256 ^ (L - 1 - j) % 256 : Nat) : Int)) w) := fun j hj w => by
    have := N.index_get ⟨(N.bys k L).toArray⟩ j (UInt8.ofNat (k / 256 ^ (L - 1 - j))) (by rw [hsz]; exact hj) (by
      show ((N.bys k L)[j]?).getD 0 = _
      unfold N.bys
      rw [List.getElem?_map, List.getElem?_range hj]
      rfl) w
    rw [this]
    congr 3
  generalize (⟨(N.bys k L).toArray⟩ : ByteArray) = B at HB hsz HIX
  obtain ⟨n, hn⟩ : ∃ n, 8 * L = n := ⟨_, rfl⟩
  have HE : Hid (∀ i, i < n → ∀ j r, i / 8 = j → i % 8 = r → j < L ∧ k / 256 ^ (L - 1 - j) % 256 / 2 ^ (7 - r) % 2 = k / 2 ^ (n - (i + 1)) % 2) := fun i hi j r hj hr => by
    subst hj hr hn
    exact ⟨by omega, bit8 k L i hi⟩
  have hw : IntKind.i64.wrap (8 * (B.size : Int)) = (n : Int) := by rw [IntKind.wrap_i64, hsz]; omega
  have HEnd : Hid (accT a k n n = a.times (8 * L) k) := by rw [Hid, accT, Nat.sub_self, Nat.pow_zero, Nat.div_one, hn]
  rw [← HEnd.out]
  have HOK : Hid (∀ i, (accT a k n i).Ok) := fun i => T3.times_ok ha _ _
  have HST : Hid (∀ i, i < n → accT a k n (i + 1) = if k / 2 ^ (n - (i + 1)) % 2 = 1 then (accT a k n i).twice.sum a else (accT a k n i).twice) := fun i hi => accT_step hi
  have H0 : Hid (accT a k n 0 = T3.zero) := rfl
  have hn256 : n ≤ 256 := by omega
  clear hsz hn hL HEnd
  have HT : Hid (∀ p : T3, p.Ok → ∀ w, Cv w c mp mn → Calls Tryz.prog 50 #[boxM c, .agg (ptL p).toArray] w fun e w' => e = .returned (.agg (ptL p.twice).toArray) ∧ Below w.heap.size w w') := fun p hp w h => twice_in p w h hp
  have HS : Hid (∀ p : T3, p.Ok → ∀ w, Cv w c mp mn → Calls Tryz.prog 21 #[boxM c, .agg (ptL p).toArray, .agg (ptL a).toArray] w fun e w' => e = .returned (.agg (ptL (p.sum a)).toArray) ∧ Below w.heap.size w w') := fun p hp w h => sum_in p a w h hp ha
  obtain ⟨RR, HRR⟩ : ∃ R, Hid (accT a k n n = R) := ⟨_, Hid.mk rfl⟩
  rw [HRR.out]
  obtain ⟨A, HA⟩ : ∃ A : Nat → T3, Hid (A = accT a k n) := ⟨_, Hid.mk rfl⟩
  rw [← HA.out] at HOK HST H0 HRR
  clear HA
  have hzp := zeroPt
  obtain ⟨V, hV, F⟩ : ∃ V, ((((W.alloc (Obj.cells (N.natL k).toArray 38 (0, 0))).alloc (Obj.cells (ptL a).toArray 40 (0, 0))).alloc (Obj.cells (ptL (T3.zero)).toArray 40 (0, 0))).alloc (Obj.cells (ptL (T3.zero)).toArray 40 (0, 0))) = V ∧ Fm W [(W.heap.size + 3, Obj.cells (ptL (T3.zero)).toArray 40 (0, 0)), (W.heap.size + 2, Obj.cells (ptL (T3.zero)).toArray 40 (0, 0)), (W.heap.size + 1, Obj.cells (ptL a).toArray 40 (0, 0)), (W.heap.size, Obj.cells (N.natL k).toArray 38 (0, 0))] V := ⟨_, rfl, Fm.box4 W _ _ _ _⟩
  have l4 := N.natLoad_run (F.get 3 rfl)
  go_enter Tryz.func29, Tryz.ntmps29
  go_wp2_with fail
  refine (HB.out _).mono ?_
  rintro e u1 ⟨rfl, hb⟩
  replace F := F.blk hb
  clear hb l4 hV
  simp only [Nat.add_assoc, Nat.reduceAdd]
  go_wp2_with fail
  go_loopw [15] (fun iv wr => ∃ i : Nat, i ≤ n ∧ iv = .int .i64 (i : Int) ∧ Fm W [(W.heap.size + 3, Obj.cells (ptL (A i)).toArray 40 (0, 0)), (W.heap.size + 2, Obj.cells (ptL (T3.zero)).toArray 40 (0, 0)), (W.heap.size + 1, Obj.cells (ptL a).toArray 40 (0, 0)), (W.heap.size, Obj.cells (N.natL k).toArray 38 (0, 0))] wr) (fun iv _ => n - (intOf iv).toNat)
  case atStart => exact ⟨0, by omega, rfl, by rw [H0.out]; exact F⟩
  case round =>
    obtain ⟨i, hi, rfl, Fr⟩ := hrel
    clear F
    by_cases hlt : i < n
    · obtain ⟨j, hj⟩ : ∃ j, i / 8 = j := ⟨_, rfl⟩
      obtain ⟨r, hr⟩ : ∃ r, i % 8 = r := ⟨_, rfl⟩
      obtain ⟨s, hs⟩ : ∃ s, 7 - r = s := ⟨_, rfl⟩
      obtain ⟨hjL, hbt⟩ := HE.out i hlt j r hj hr
      have hix := HIX.out j hjL
      rw [hs] at hbt
      have HST' := Hid.mk (HST.out i hlt)
      have hok := HOK.out i
      obtain ⟨dd, hdd⟩ : ∃ dd, k / 256 ^ (L - 1 - j) % 256 = dd := ⟨_, rfl⟩
      rw [hdd] at hbt hix
      have hdl : dd < 256 := by rw [← hdd]; exact Nat.mod_lt _ (by omega)
      obtain ⟨qd, hqd⟩ : ∃ qd, dd / 2 ^ s = qd := ⟨_, rfl⟩
      rw [hqd] at hbt
      have hql : qd < 256 := by rw [← hqd]; exact Nat.lt_of_le_of_lt (Nat.div_le_self _ _) hdl
      have hand : bits .and .u8 (qd : Int) 1 = ((qd % 2 : Nat) : Int) := and8 ⟨qd, hql⟩
      have t1 : (i : Int).tdiv 8 = (j : Int) := by rw [Int.tdiv_eq_ediv_of_nonneg (by omega)]; omega
      have t2 : (i : Int) / 8 = (j : Int) := by omega
      have t3 : (i : Int).tmod 8 = (r : Int) := by rw [Int.tmod_eq_emod_of_nonneg (by omega)]; omega
      have t4 : (i : Int) % 8 = (r : Int) := by omega
      have t6 : (dd : Int) / 2 ^ s = (qd : Int) := by rw [← hqd, Int.natCast_ediv, Int.natCast_pow]; rfl
      have t9 : (7 : Int) - (r : Int) = (s : Int) := by omega
      have hs8 : s < 8 := by omega
      have hs0 : (0 : Int) ≤ (s : Int) := by omega
      clear hj hr hqd hdd hs
      generalize A i = p at *
      have HT1 := Hid.mk (HT.out p hok)
      have hok2 := T3.twice_ok p
      obtain ⟨p2, hp2⟩ : ∃ p2, p.twice = p2 := ⟨_, rfl⟩
      rw [hp2] at HT1 hok2 HST'
      have HS1 := Hid.mk (HS.out p2 hok2)
      clear hp2
      have l7 := ptLoad_run (Fr.get 0 rfl)
      go_wp2_with fail
      refine (HT1.out _ (Fr.cv C)).mono ?_
      rintro e w2 ⟨rfl, hb⟩
      replace Fr := Fr.blk hb
      clear hb l7
      have s7 := fun q => ptStore_run (c := q) (Fr.get 0 rfl)
      go_upto_region 7 with fail
      replace Fr := Fr.put 0 (ptL p2).toArray rfl
      clear s7
      generalize w2.setRow (W.heap.size + 3) (ptL p2).toArray = w3 at Fr ⊢
      by_cases hbit : qd % 2 = 1
      · rw [if_pos (by rw [← hbt]; exact hbit)] at HST'
        rw [hbit] at hand
        clear hbit hbt
        have l7 := ptLoad_run (Fr.get 0 rfl)
        have l5 := ptLoad_run (Fr.get 2 rfl)
        go_wp2_with fail
        refine (HS1.out _ (Fr.cv C)).mono ?_
        rintro e w4 ⟨rfl, hb⟩
        replace Fr := Fr.blk hb
        clear hb l7 l5
        rw [← HST'.out]
        obtain ⟨pn, hpn⟩ : ∃ pn, A (i + 1) = pn := ⟨_, rfl⟩
        rw [hpn]
        have HPN := Hid.mk hpn
        clear hpn HST'
        have s7 := fun q => ptStore_run (c := q) (Fr.get 0 rfl)
        replace Fr := Fr.put 0 (ptL pn).toArray rfl
        go_wp2
        go_roundw
        case rel => exact ⟨i + 1, by omega, by go_num, by rw [HPN.out]; exact Fr⟩
        case measure => simp [intOf]; omega
      · have hb0 : qd % 2 = 0 := by omega
        rw [if_neg (by rw [← hbt]; exact hbit)] at HST'
        rw [hb0] at hand
        clear hbit hb0 hbt
        rw [← HST'.out] at Fr
        go_wp2
        go_roundw
        case rel => exact ⟨i + 1, by omega, by go_num, Fr⟩
        case measure => simp [intOf]; omega
    · obtain rfl : i = n := by omega
      rw [HRR.out] at Fr
      have l7 := ptLoad_run (Fr.get 0 rfl)
      have s6 := fun q => ptStore_run (c := q) (Fr.get 1 rfl)
      have F4 := Fr.put 1 (ptL RR).toArray rfl
      go_wp2
      exact bodyPost_ret (results_pt Tryz.results29 rfl (F4.get 1 rfl)) rfl ⟨rfl, F4.bel⟩
end Go.Proofs.YtpimliebiapnfaaGreatDoor
/- Bytes told as numbers and back; what bytes are which point. -/
namespace Go.Proofs.YtpimliebiapnfaaGreatDoor.N
set_option linter.unusedVariables false
theorem bys_succ (N L : Nat) : bys N (L + 1) = UInt8.ofNat (N / 256 ^ L) :: bys N L := by
  unfold bys
  rw [List.range_succ_eq_map, List.map_cons, List.map_map]
  refine List.cons_eq_cons.2 ⟨by simp, List.map_congr_left fun k hk => ?_⟩
  simp only [Function.comp]
  rw [show L + 1 - 1 - (k + 1) = L - 1 - k by omega]
theorem mod_succ (a L : Nat) : a % 256 ^ (L + 1) = a / 256 ^ L % 256 * 256 ^ L + a % 256 ^ L := by
  rw [Nat.pow_succ, Nat.mod_mul, Nat.add_comm, Nat.mul_comm]
theorem numB_bys : ∀ (L N : Nat), numB (bys N L) = N % 256 ^ L
  | 0, N => by simp [bys, numB, Nat.mod_one]
  | L + 1, N => by
    rw [bys_succ, numB, numB_bys L N, bys_len, mod_succ, UInt8.toNat_ofNat']
theorem numB_inj : ∀ (a b : List UInt8), a.length = b.length → numB a = numB b → a = b
  | [], [], _, _ => rfl
  | x :: a, y :: b, hl, h => by
    have hl' : a.length = b.length := by simpa using hl
    have h1 := numB_lt a
    have h2 := numB_lt b
    simp only [numB] at h
    rw [hl'] at h h1
    have hxy : x.toNat = y.toNat := by
      have e1 : (x.toNat * 256 ^ b.length + numB a) / 256 ^ b.length = x.toNat := by
        rw [Nat.add_comm, Nat.add_mul_div_right _ _ (Nat.pow_pos (by omega)), Nat.div_eq_of_lt h1, Nat.zero_add]
      have e2 : (y.toNat * 256 ^ b.length + numB b) / 256 ^ b.length = y.toNat := by
        rw [Nat.add_comm, Nat.add_mul_div_right _ _ (Nat.pow_pos (by omega)), Nat.div_eq_of_lt h2, Nat.zero_add]
      rw [← e1, ← e2, h]
    obtain rfl := UInt8.toNat_inj.1 hxy
    rw [numB_inj a b hl' (by omega)]
  | [], _ :: _, hl, _ => by simp at hl
  | _ :: _, [], hl, _ => by simp at hl
theorem bys_num (l : List UInt8) : bys (numB l) l.length = l :=
  numB_inj _ _ (bys_len _ _) (by rw [numB_bys, Nat.mod_eq_of_lt (numB_lt l)])
end Go.Proofs.YtpimliebiapnfaaGreatDoor.N
namespace Go.Proofs.YtpimliebiapnfaaGreatDoor
set_option linter.unusedVariables false
open Go.RowKit N
noncomputable def tellE (p : Ec) : ByteArray := match p.o with
  | none => ⟨#[]⟩
  | some q => ⟨(N.bys q.x.val 32).toArray⟩ ++ ⟨(N.bys q.y.val 32).toArray⟩
theorem lt_p256 {x : Nat} (h : x < pP) : x < 256 ^ 32 := Nat.lt_of_lt_of_le h (by decide)
theorem rep_zero {a : T3} (h : a.Ok) : Rep a.jp none ↔ a = T3.zero := T3.jp_inj h T3.zero_ok
theorem T3.repEnd {a : T3} {p : Ec} (h : a.Ok) (r : Rep a.jp p.o) : a = T3.zero ∨ a.z ≠ 0 := by
  cases hp : p.o with
  | none =>
    rw [hp] at r
    exact Or.inl ((rep_zero h).1 r)
  | some q =>
    rw [hp] at r
    refine Or.inr fun e => r.1 ?_
    show fz a.z = 0
    rw [e, fz_0]
theorem tellT_eq {a : T3} {p : Ec} (h : a.Ok) (r : Rep a.jp p.o) : tellT a = tellE p := by
  unfold tellT tellE
  cases hp : p.o with
  | none =>
    rw [hp] at r
    rw [if_pos ((rep_zero h).1 r)]
  | some q =>
    rw [hp] at r
    have hz : a.z ≠ 0 := fun e => r.1 (by show fz a.z = 0; rw [e, fz_0])
    have h0 : a ≠ T3.zero := fun e => hz (by rw [e]; rfl)
    rw [if_neg h0]
    have hi := (iv_spec pr_P hz h.2.2).1
    obtain ⟨e1, e2⟩ := T3.told r hi
    show (⟨(N.bys (mtimes a.x (mtimes (ivN pP a.z) (ivN pP a.z))) 32).toArray⟩ : ByteArray) ++ ⟨(N.bys (mtimes a.y (mtimes (mtimes (ivN pP a.z) (ivN pP a.z)) (ivN pP a.z))) 32).toArray⟩ = _
    rw [e1, e2]
theorem onN_iff {x y : Nat} (hx : x < pP) (hy : y < pP) : onN x y = true ↔ Pt.On ⟨fz x, fz y⟩ := by
  have b1 := mminus_lt (mtimes_lt x (mtimes x x)) (mtimes_lt x 3)
  have b2 : mplus (mminus (mtimes x (mtimes x x)) (mtimes x 3)) bP < pP := mplus_lt b1 (by decide)
  have e : fz (mplus (mminus (mtimes x (mtimes x x)) (mtimes x 3)) bP) = fz x * fz x * fz x - 3 * fz x + fz bP := by
    rw [fz_plus, fz_minus (mtimes_lt x 3), fz_times, fz_times, fz_times, fz_3]
    generalize fz x = u
    generalize fz bP = v
    clear b1 b2 hx hy
    grind -lia
  unfold onN Pt.On
  rw [decide_eq_true_iff]
  constructor
  · intro h
    have := congrArg fz h
    rw [fz_times, e] at this
    exact this
  · intro h
    refine fz_lt (mtimes_lt _ _) b2 ?_
    rw [fz_times, e]
    exact h
theorem T3.one_ok {x y : Nat} (hx : x < pP) (hy : y < pP) : (⟨x, y, 1⟩ : T3).Ok := ⟨hx, hy, show 1 < pP by decide⟩
theorem rep_xy (x y : Nat) : Rep (⟨x, y, 1⟩ : T3).jp (some ⟨fz x, fz y⟩) := by
  refine ⟨?_, ?_, ?_⟩
  · exact fun h => by
      have := fz_lt (a := 1) (b := 0) (by decide) (by decide) h
      omega
  · show fz x = fz x * (fz 1 * fz 1)
    rw [fz_1]
    generalize fz x = u
    grind -lia
  · show fz y = fz y * (fz 1 * fz 1 * fz 1)
    rw [fz_1]
    generalize fz y = u
    grind -lia
theorem app_size (a b : ByteArray) : (a ++ b).size = a.size + b.size := ByteArray.size_append
theorem ext_l (a b : ByteArray) (n : Nat) (h : a.size = n) : (a ++ b).extract 0 n = a := by
  subst h
  exact ByteArray.extract_append_eq_left rfl
theorem ext_r (a b : ByteArray) (n : Nat) (h : a.size = n) : (a ++ b).extract n (a ++ b).size = b := by
  subst h
  exact ByteArray.extract_append_eq_right rfl (by simp)
theorem ptOf_tell (p : Ec) : (ptOf (tellE p)).2 = true ∧ (ptOf (tellE p)).1.Ok ∧ Rep (ptOf (tellE p)).1.jp p.o := by
  obtain ⟨po, hon⟩ := p
  cases po with
  | none =>
    have e : ptOf (tellE ⟨none, hon⟩) = (T3.zero, true) := by unfold ptOf; exact if_pos rfl
    rw [e]
    exact ⟨rfl, T3.zero_ok, rfl⟩
  | some q =>
    have z1 := bys_32 q.x.val
    have z2 := bys_32 q.y.val
    have hs : (tellE ⟨some q, hon⟩).size = 64 := by show ((⟨(N.bys q.x.val 32).toArray⟩ : ByteArray) ++ ⟨(N.bys q.y.val 32).toArray⟩).size = 64; rw [app_size, z1, z2]
    have hh : hiN (tellE ⟨some q, hon⟩) = q.x.val := by
      unfold hiN
      show N.numB (((⟨(N.bys q.x.val 32).toArray⟩ : ByteArray) ++ ⟨(N.bys q.y.val 32).toArray⟩).extract 0 32).data.toList = _
      rw [ext_l _ _ 32 z1]
      show N.numB (N.bys q.x.val 32) = _
      rw [N.numB_bys, Nat.mod_eq_of_lt (lt_p256 q.x.isLt)]
    have hl : loN (tellE ⟨some q, hon⟩) = q.y.val := by
      unfold loN
      show N.numB (((⟨(N.bys q.x.val 32).toArray⟩ : ByteArray) ++ ⟨(N.bys q.y.val 32).toArray⟩).extract 32 ((⟨(N.bys q.x.val 32).toArray⟩ : ByteArray) ++ ⟨(N.bys q.y.val 32).toArray⟩).size).data.toList = _
      rw [ext_r _ _ 32 z1]
      show N.numB (N.bys q.y.val 32) = _
      rw [N.numB_bys, Nat.mod_eq_of_lt (lt_p256 q.y.isLt)]
    have ho : onN q.x.val q.y.val = true := by
      rw [onN_iff q.x.isLt q.y.isLt, fz_val, fz_val]
      exact hon
    have e : ptOf (tellE ⟨some q, hon⟩) = (⟨q.x.val, q.y.val, 1⟩, true) := by
      unfold ptOf
      rw [if_neg (by rw [hs]; decide), if_neg (by rw [hs]; simp), hh, hl, if_pos q.x.isLt, if_pos q.y.isLt, if_pos ho]
    rw [e]
    refine ⟨rfl, T3.one_ok q.x.isLt q.y.isLt, ?_⟩
    have := rep_xy q.x.val q.y.val
    rw [fz_val, fz_val] at this
    exact this
theorem ba_split (s : ByteArray) (h : s.size = 64) : s.extract 0 32 ++ s.extract 32 s.size = s := by
  have := ByteArray.extract_append_extract (a := s) (i := 0) (j := 32) (k := s.size)
  rw [this]
  simp only [Nat.min_def, Nat.max_def]
  rw [if_pos (by omega), if_pos (by omega)]
  exact ByteArray.extract_zero_size
theorem ptOf_ex {s : ByteArray} (h : (ptOf s).2 = true) : ∃ p, s = tellE p := by
  unfold ptOf at h
  by_cases h0 : s.size = 0
  · refine ⟨Ec.zero, ?_⟩
    show s = ⟨#[]⟩
    exact ByteArray.size_eq_zero_iff.1 h0
  · rw [if_neg h0] at h
    by_cases h64 : s.size = 64
    · rw [if_neg (not_not_intro h64)] at h
      by_cases hx : hiN s < pP
      · rw [if_pos hx] at h
        by_cases hy : loN s < pP
        · rw [if_pos hy] at h
          by_cases ho : onN (hiN s) (loN s) = true
          · refine ⟨⟨some ⟨fz (hiN s), fz (loN s)⟩, (onN_iff hx hy).1 ho⟩, ?_⟩
            show s = (⟨(N.bys (fz (hiN s)).val 32).toArray⟩ : ByteArray) ++ ⟨(N.bys (fz (loN s)).val 32).toArray⟩
            have v1 : (fz (hiN s)).val = hiN s := Nat.mod_eq_of_lt hx
            have v2 : (fz (loN s)).val = loN s := Nat.mod_eq_of_lt hy
            rw [v1, v2]
            have l1 : (s.extract 0 32).data.toList.length = 32 := by rw [size_list, ByteArray.size_extract]; omega
            have l2 : (s.extract 32 s.size).data.toList.length = 32 := by rw [size_list, ByteArray.size_extract]; omega
            have b1 : (⟨(N.bys (hiN s) 32).toArray⟩ : ByteArray) = s.extract 0 32 := by
              have := N.bys_num (s.extract 0 32).data.toList
              rw [l1] at this
              unfold hiN
              rw [this]
            have b2 : (⟨(N.bys (loN s) 32).toArray⟩ : ByteArray) = s.extract 32 s.size := by
              have := N.bys_num (s.extract 32 s.size).data.toList
              rw [l2] at this
              unfold loN
              rw [this]
            rw [b1, b2, ba_split s h64]
          · rw [if_neg ho] at h; cases h
        · rw [if_neg hy] at h; cases h
      · rw [if_neg hx] at h; cases h
    · rw [if_pos h64] at h; cases h
theorem tellE_size (p : Ec) : (tellE p).size = if p.o = none then 0 else 64 := by
  obtain ⟨po, hon⟩ := p
  cases po with
  | none => rfl
  | some q =>
    show ((⟨(N.bys q.x.val 32).toArray⟩ : ByteArray) ++ ⟨(N.bys q.y.val 32).toArray⟩).size = _
    rw [app_size, bys_32, bys_32]
    rfl
theorem tellE_inj {p q : Ec} (h : tellE p = tellE q) : p = q := by
  have h1 := ptOf_tell p
  have h2 := ptOf_tell q
  rw [h] at h1
  refine Ec.ext2 ?_
  have r1 := h1.2.2
  have r2 := h2.2.2
  cases hp : p.o with
  | none =>
    rw [hp] at r1
    cases hq : q.o with
    | none => rfl
    | some v =>
      rw [hq] at r2
      exact absurd (show (ptOf (tellE q)).1.jp.z = 0 by rw [show (ptOf (tellE q)).1.jp = Jp.zero from r1]; rfl) r2.1
  | some u =>
    rw [hp] at r1
    cases hq : q.o with
    | none =>
      rw [hq] at r2
      exact absurd (show (ptOf (tellE q)).1.jp.z = 0 by rw [show (ptOf (tellE q)).1.jp = Jp.zero from r2]; rfl) r1.1
    | some v =>
      rw [hq] at r2
      rw [(r1.eq r2 rfl).1 rfl]
theorem base_tell : (⟨hexGb.toArray⟩ : ByteArray) = tellE ecG := by
  show (⟨hexGb.toArray⟩ : ByteArray) = (⟨(N.bys (fz bX).val 32).toArray⟩ : ByteArray) ++ ⟨(N.bys (fz bY).val 32).toArray⟩
  have v1 : (fz bX).val = N.numB hexXb := by rw [hexX_n]; exact Nat.mod_eq_of_lt (by decide)
  have v2 : (fz bY).val = N.numB hexYb := by rw [hexY_n]; exact Nat.mod_eq_of_lt (by decide)
  rw [v1, v2]
  have e1 : N.bys (N.numB hexXb) 32 = hexXb := N.bys_num hexXb
  have e2 : N.bys (N.numB hexYb) 32 = hexYb := N.bys_num hexYb
  rw [e1, e2]
  rfl
end Go.Proofs.YtpimliebiapnfaaGreatDoor
/- Nothing is asked of the variables. -/
namespace Go.Proofs.YtpimliebiapnfaaGreatDoor
set_option linter.unusedVariables false
end Go.Proofs.YtpimliebiapnfaaGreatDoor
/- What the row lists lies there: the words of the rounds of SHA-256; a world for the witnesses. -/
namespace Go.Proofs.YtpimliebiapnfaaGreatDoor.G
set_option linter.unusedVariables false
open Go.RowKit
theorem laid_at {P : Program} {w : World} {n : String} {d : DataW Unit} : ∀ {l : List (String × DataW Unit)} {ps : List MemPlace}, DataW.LaidVars P w l ps → (n, d) ∈ l →
    ∃ g t cs fuel p, P.globalNamed n = some g ∧ (P.globals[g]?).map (·.type) = some t ∧ w.var? P n = some cs ∧ DataW.trod (fun _ => ()) P w 0 (fun _ => true) false fuel t cs.toList = some (d, p)
  | [], _, _, h => by cases h
  | (n', d') :: r, ps, ⟨g, t, cs, fuel, p, q, h1, h2, h3, h4, h5, _⟩, h => by
    rcases List.mem_cons.1 h with e | h
    · cases e
      exact ⟨g, t, cs, fuel, p, h1, h2, h3, h4⟩
    · exact laid_at h5 h
def rkI : List Int := rk.map fun x => (x.toNat : Int)
theorem rk_of {W : World} {l : List (String × DataW Unit)} (h : laidMet Tryz.prog l W) (hs : W.ShapedOpen Tryz.prog) (hm : ("guidepost/digest.rounds256", (Rows.laid_guidepost_digest_rounds256 : DataW Unit)) ∈ l) : Rk W := by
  obtain ⟨ps, hv0, _⟩ := h
  obtain ⟨g, t, cs, fuel, p, hg, ht, hv, hd⟩ := laid_at hv0 hm
  have hg0 : Tryz.prog.globalNamed "guidepost/digest.rounds256" = some 0 := by kernel_rfl
  obtain rfl := Option.some.inj (hg0.symm.trans hg)
  have ht0 : (Tryz.prog.globals[0]?).map (·.type) = some 124 := by kernel_rfl
  obtain rfl := Option.some.inj (ht0.symm.trans ht)
  have hda : (Rows.laid_guidepost_digest_rounds256 : DataW Unit) = Lib.tabData .u32 rkI := by kernel_rfl
  rw [hda] at hd
  have hu2 : Tryz.prog.underlying 35 = some (.int .u32) := by kernel_rfl
  have hc1 : Tryz.prog.cellsOf 35 = 1 := by kernel_rfl
  have hc2 : Tryz.prog.cellsOf 124 = 64 := by kernel_rfl
  have hall := Lib.cells_of_tab und56 hu2 hc1 hc2 hd
  intro i hi
  have hl : i < rk.length := hi
  rw [World.var?_cell hg0 hv i, ← Array.getElem?_toList, hall, rkI, List.getElem?_map, List.getElem?_map, List.getElem?_eq_getElem hl]
  rfl
def lit1 : DataW Unit → List Value
  | .lit (.int k n) => [.int k n]
  | _ => []
def flat1 : DataW Unit → Array Value
  | .agg l => (l.flatMap lit1).toArray
  | _ => #[]
noncomputable def laidWorld (os : Os) : World :=
  let w0 := World.holding Tryz.prog os ⟨#[], #[], []⟩
  { w0 with heap := w0.heap.modify 0 fun
      | .cells _ t frozen => .cells (flat1 Rows.laid_guidepost_digest_rounds256) t frozen
      | o => o }
end Go.Proofs.YtpimliebiapnfaaGreatDoor.G
/- What the row lists lies there: the words of the rounds of SHA-256; a world for the witness. -/
namespace Go.Proofs.YtpimliebiapnfaaGreatDoor
set_option linter.unusedVariables false
open Go.RowKit
def VG (W : World) : Prop := G.Rk W
theorem vg_of {W : World} {l : List (String × DataW Unit)} (h : laidMet Tryz.prog l W) (hs : W.ShapedOpen Tryz.prog) (hm : ("guidepost/digest.rounds256", (Rows.laid_guidepost_digest_rounds256 : DataW Unit)) ∈ l) : VG W := G.rk_of h hs hm
def lit1 : DataW Unit → List Value
  | .lit (.int k n) => [.int k n]
  | .lit (.string s) => [.string ⟨s.toArray⟩]
  | _ => []
def flat2 : DataW Unit → Array Value
  | .agg l => (l.flatMap fun x => match x with
    | .agg l2 => l2.flatMap lit1
    | x => lit1 x).toArray
  | _ => #[]
noncomputable def laidWorld (os : Os) : World :=
  let w0 := World.holding Tryz.prog os ⟨#[], #[], []⟩
  let put (h : Array Obj) (g : Nat) (cs : Array Value) : Array Obj := h.modify g fun
    | .cells _ t frozen => .cells cs t frozen
    | o => o
  let h6 := put w0.heap 0 (flat2 Rows.laid_guidepost_digest_rounds256)
  let h7 := put h6 2 (flat2 Rows.laid_unicode_utf8_first)
  let h8 := put h7 3 (flat2 Rows.laid_unicode_utf8_acceptRanges)
  { w0 with heap := h8 }
end Go.Proofs.YtpimliebiapnfaaGreatDoor
/- Numbers that lie in boxes of their own; Of, at most so many bytes. -/
namespace Go.Proofs.YtpimliebiapnfaaGreatDoor.N
set_option linter.unusedVariables false
open Go.RowKit
attribute [local go_sem ↓] loadAt_nat storeAt_nat build_nat build_nat'
attribute [local go_sem] st1 st2a st2b natBuild_run
def Has (w : World) : List (Nat × Nat) → Prop
  | [] => True
  | p :: l => w.heap[p.1]? = some (.cells (natL p.2).toArray 38 (0, 0)) ∧ Has w l
theorem Has.blk {w w' : World} (hb : Below w.heap.size w w') : ∀ {l : List (Nat × Nat)}, Has w l → Has w' l
  | [], _ => trivial
  | _ :: _, h => ⟨Go.Proofs.YtpimliebiapnfaaGreatDoor.N.blk hb h.1, Has.blk hb h.2⟩
theorem Has.get {w : World} : ∀ {l : List (Nat × Nat)} (i : Nat) {b N : Nat}, Has w l → l[i]? = some (b, N) → w.heap[b]? = some (.cells (natL N).toArray 38 (0, 0))
  | [], _, _, _, _, h => by simp at h
  | p :: l, 0, b, N, h, e => by
    have : p = (b, N) := by simpa using e
    subst this
    exact h.1
  | _ :: l, i + 1, b, N, h, e => Has.get i h.2 (by simpa using e)
theorem pow4 (m : Nat) : (256 : Nat) ^ (4 * m) = 4294967296 ^ m := by rw [Nat.pow_mul]
end Go.Proofs.YtpimliebiapnfaaGreatDoor.N