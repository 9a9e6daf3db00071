/- Texts of this proof, joined: GRSum2, KSums. -/
import Derived.Laws.CopyOwn
import Derived.Test.YtpimliebiapnfaaGreatDoorJ27
/- The document's Sum256. -/
namespace Go.Proofs.YtpimliebiapnfaaGreatDoor.G
set_option linter.unusedVariables false
open Go.RowKit
theorem cho_xor (e f g : BitVec 32) : (e &&& f) ^^^ (~~~e &&& g) = cho e f g := by
  apply BitVec.eq_of_getLsbD_eq
  intro i hi
  simp only [cho, BitVec.getLsbD_xor, BitVec.getLsbD_and, BitVec.getLsbD_or, BitVec.getLsbD_not, hi]
  cases e.getLsbD i <;> cases f.getLsbD i <;> cases g.getLsbD i <;> rfl
theorem maj_xor (a b c : BitVec 32) : (a &&& b) ^^^ (a &&& c) ^^^ (b &&& c) = maj a b c := by
  apply BitVec.eq_of_getLsbD_eq
  intro i hi
  simp only [maj, BitVec.getLsbD_xor, BitVec.getLsbD_and, BitVec.getLsbD_or]
  cases a.getLsbD i <;> cases b.getLsbD i <;> cases c.getLsbD i <;> rfl
set_option maxRecDepth 100000 in
theorem rrounds_in (W : World) : Calls Tryz.prog 67 #[] W fun e w' => e = .returned (.slice (some ⟨W.heap.size, 0, none⟩) 64 64) ∧ w'.heap[W.heap.size]? = some (.cells (wc rk) 35 (0, 0)) ∧ Below W.heap.size W w' := by
  go_enter Tryz.func67, Tryz.ntmps67
  go_wp2
  go_ret
  refine ⟨rfl, ?_, (Below.refl _ _).alloc (Nat.le_refl _) _⟩
  rw [heap_new]
  rfl
theorem cell_of {W : World} {b t k : Nat} {p : List (BitVec 32)} (h : W.heap[b]? = some (.cells (wc p) t (0, 0))) (hk : k < p.length) : W.cell? ⟨b, k, none⟩ = some (.int .u32 ((p[k]?.getD 0).toNat : Int)) :=
  (cells_at h (by rw [wc_at, List.getElem?_eq_getElem hk]; rfl)).1
theorem wc_list (p : List (BitVec 32)) : wc p = (p.map fun x => Value.int .u32 (x.toNat : Int)).toArray := rfl
set_option maxRecDepth 100000 in
set_option maxHeartbeats 16000000 in
theorem rsum2_gen (s : ByteArray) (P : ByteArray) (n : Nat) (hP : P.size = 64 * n) (hn : n ≤ 2199023255553)
    (hpd : ∀ W : World, Calls Tryz.prog 68 #[.string s] W fun e w' => e = .returned (.string P) ∧ Below W.heap.size W w')
    (B : Nat → List UInt8) (hwd : ∀ (k i : Nat), k < n → i < 16 → ∀ W : World, Calls Tryz.prog 69 #[.string P, .int .i64 (((64 * k : Nat) : Int) + 4 * (i : Int))] W fun e w' => e = .returned (.int .u32 ((wd (B k) i).toNat : Int)) ∧ ∃ j, w' = W.drewN j)
    (K : List (BitVec 32)) (hK : K.length = 64)
    (hrd : ∀ W : World, Calls Tryz.prog 67 #[] W fun e w' => e = .returned (.slice (some ⟨W.heap.size, 0, none⟩) 64 64) ∧ w'.heap[W.heap.size]? = some (.cells (wc K) 35 (0, 0)) ∧ Below W.heap.size W w')
    (S : Nat → Nat → List (BitVec 32)) (hS0 : ∀ k, S k 0 = []) (hSl : ∀ k m, (S k m).length = m) (hSs : ∀ k m, S k (m + 1) = S k m ++ [nx2 (B k) (S k m) m])
    (R : Nat → S8) (Q : Nat → Nat → S8) (hQ0 : ∀ k, Q k 0 = R k) (hQs : ∀ k m, Q k (m + 1) = st2 (K[m]?.getD 0) ((S k 64)[m]?.getD 0) (Q k m))
    (hR0 : R 0 = ⟨0x6a09e667#32, 0xbb67ae85#32, 0x3c6ef372#32, 0xa54ff53a#32, 0x510e527f#32, 0x9b05688c#32, 0x1f83d9ab#32, 0x5be0cd19#32⟩) (hRs : ∀ k, (R (k + 1)).l = mix (R k).l (Q k 64).l 8)
    (T : List UInt8) (hT : ∀ (W : World) (b : Nat), W.heap[b]? = some (.cells (wc (R n).l) 35 (0, 0)) → Calls Tryz.prog 71 #[.slice (some ⟨b, 0, none⟩) 8 8] W fun e w' => e = .returned (.string ⟨T.toArray⟩) ∧ Below W.heap.size W w') (W : World) :
    Calls Tryz.prog 35 #[.string s] W fun e w' => e = .returned (.string ⟨T.toArray⟩) ∧ Below W.heap.size W w' := by
  obtain ⟨i0, hi, hz0, hz1, hz2⟩ := info_of info31
  obtain ⟨N, hN⟩ : ∃ N, P.size = N := ⟨_, rfl⟩
  have HNN : Hid (N = 64 * n) := by rw [Hid, ← hN]; exact hP
  have hNb : N ≤ 281474976710656 := by have := HNN.out; omega
  have HPD := Hid.mk hpd
  have HRD := Hid.mk hrd
  have HKL := Hid.mk hK
  have HWD := Hid.mk hwd
  have HS0 := Hid.mk hS0
  have HSL := Hid.mk hSl
  have HSS := Hid.mk hSs
  have HQ0 := Hid.mk hQ0
  have HQS := Hid.mk hQs
  have HR0 := Hid.mk hR0
  have HRS := Hid.mk hRs
  have HT := Hid.mk hT
  clear hpd hwd hSl hSs hQ0 hQs hR0 hRs hT hS0 hP hrd hK
  go_enter Tryz.func35, Tryz.ntmps35
  go_wp2_with fail
  refine (HRD.out _).mono ?_
  rintro e W0 ⟨rfl, hk0, hb0⟩
  have G0 : Hid (W0.heap[W.heap.size]? = some (.cells (wc (R 0).l) 35 (0, 0))) := by
    rw [Hid, hb0.block _ (by simp), heap_new, HR0.out]
    rfl
  have HB0 : Below W.heap.size W W0 := bthen ((Below.refl _ _).alloc (Nat.le_refl _) _) hb0
  have GK : Hid (W0.heap[W.heap.size + 1]? = some (.cells (wc K) 35 (0, 0))) := by
    rw [Hid, ← hk0]
    simp
  clear hk0 hb0
  go_wp2_with fail
  refine (HPD.out _).mono ?_
  rintro e W1 ⟨rfl, hb1⟩
  have HG0 : Hid (W1.heap[W.heap.size]? = _) := (hb1.block _ (box_lt G0.out)).trans G0.out
  have HGK : Hid (W1.heap[W.heap.size + 1]? = _) := (hb1.block _ (box_lt GK.out)).trans GK.out
  have HB1 : Below W.heap.size W W1 := bthen HB0 hb1
  clear G0 GK hb1 HB0
  go_wp2_with fail
  go_loopw [6] (fun i wr => ∃ k a : Nat, Hid (a = 64 * k) ∧ k ≤ n ∧ i = .int .i64 (a : Int) ∧ wr.heap[W.heap.size]? = some (.cells (wc (R k).l) 35 (0, 0)) ∧ wr.heap[W.heap.size + 1]? = some (.cells (wc K) 35 (0, 0)) ∧ Below W.heap.size W wr) (fun i _ => N - (intOf i).toNat)
  case atStart => exact ⟨0, 0, rfl, by omega, rfl, HG0.out, HGK.out, HB1⟩
  case round =>
    obtain ⟨k, a, HA, hkn, rfl, h0, h1, hbl⟩ := hrel
    have H0 := Hid.mk h0
    have H1 := Hid.mk h1
    clear h0 h1 HG0 HGK HB1
    by_cases hlt : a < N
    · have hk : k < n := by have := HA.out; have := HNN.out; omega
      have HWK : Hid (∀ (i : Nat), i < 16 → ∀ W : World, Calls Tryz.prog 69 #[.string P, .int .i64 ((a : Int) + 4 * (i : Int))] W fun e w' => e = .returned (.int .u32 ((wd (B k) i).toNat : Int)) ∧ ∃ j, w' = W.drewN j) := fun i hi W => by
        rw [HA.out]; exact HWD.out k i hk hi W
      go_wp2_with (at_make; refine wpList_make_full _ rfl _ _ 45 rfl wr.heap.size 35 i0 (.int .u32 0) 1 Tryz.underlying45 hi hz0 hz1 _ _ _ _ 64 rfl rfl rfl rfl (by rw [hz2]; omega) (by unfold maxLen; omega) (Nat.le_refl _) ?_; intro w1 hown1 hgrow1)
      have Bm : Below wr.heap.size wr w1 := (Below.refl _ _).grown hgrow1 (Nat.le_refl _) (by simp)
      rw [made_words] at hown1
      have G1 : Hid (w1.heap[wr.heap.size]? = some (.cells (wc (fill (S k 0) 64)) 35 (0, 0))) := by rw [HS0.out]; exact made_row hown1
      have K0 : Hid (w1.heap[W.heap.size]? = _) := (Bm.block _ (box_lt H0.out)).trans H0.out
      have K1 : Hid (w1.heap[W.heap.size + 1]? = _) := (Bm.block _ (box_lt H1.out)).trans H1.out
      have KB : Below W.heap.size W w1 := bthen hbl Bm
      have hgw : W.heap.size + 1 < wr.heap.size := box_lt H1.out
      clear hown1 hgrow1 Bm H0 H1 hbl
      generalize wr.heap.size = g at G1 hgw ⊢
      go_wp2_with fail
      go_loopw [8] (fun i wr => ∃ m : Nat, m ≤ 64 ∧ i = .int .i64 m ∧ wr.heap[g]? = some (.cells (wc (fill (S k m) 64)) 35 (0, 0)) ∧ wr.heap[W.heap.size]? = some (.cells (wc (R k).l) 35 (0, 0)) ∧ wr.heap[W.heap.size + 1]? = some (.cells (wc K) 35 (0, 0)) ∧ Below W.heap.size W wr) (fun i _ => 64 - (intOf i).toNat)
      case atStart => exact ⟨0, by omega, rfl, G1.out, K0.out, K1.out, KB⟩
      case round =>
        obtain ⟨m, hm, rfl, h3, h0, h1, hbl⟩ := hrel
        have H3 := Hid.mk h3
        have H0 := Hid.mk h0
        have H1 := Hid.mk h1
        clear G1 K0 K1 KB
        by_cases hlt2 : m < 64
        · have hlen := HSL.out k m
          have HN : Hid (fill (S k (m + 1)) 64 = (fill (S k m) 64).set m (nx2 (B k) (S k m) m)) := by
            have := fill_set (S k m) 64 (by omega) (nx2 (B k) (S k m) m)
            rw [hlen] at this
            rw [Hid, this, HSS.out]
          obtain ⟨xm, hc, hf⟩ := fill_free h3 (by omega) m hlt2
          have um : (m : Int) < 64 := by omega
          by_cases h16 : m < 16
          · have hx : nx2 (B k) (S k m) m = wd (B k) m := if_pos h16
            rw [hx] at HN
            have HWM := Hid.mk (HWK.out m h16)
            clear h3 h0 h1 hx hlen
            go_wp2_with fail
            refine (HWM.out _).mono ?_
            rintro e w1 ⟨rfl, j, rfl⟩
            have hc1 : (wr.drewN j).cell? ⟨g, m, none⟩ = _ := hc
            have hf1 : (wr.drewN j).frozen? ⟨g, m, none⟩ = false := hf
            go_wp2
            go_roundw
            case rel =>
              refine ⟨m + 1, by omega, by go_num, ?_, ?_, ?_, ?_⟩
              · rw [HN.out, ← wc_set]; exact cells_put (W := wr.drewN j) H3.out _
              · rw [Below.heap_setCell _ _ _ _ (by show W.heap.size ≠ g; omega)]; exact H0.out
              · rw [Below.heap_setCell _ _ _ _ (by show W.heap.size + 1 ≠ g; omega)]; exact H1.out
              · exact Below.setCell (hbl.trans ((below_dn wr j).mono hbl.size)) (by show W.heap.size ≤ g; omega) _
            case measure => simp [intOf]; omega
          · have c16 := fill_cell h3 (m - 16) (by omega)
            have c15 := fill_cell h3 (m - 15) (by omega)
            have c7 := fill_cell h3 (m - 7) (by omega)
            have c2 := fill_cell h3 (m - 2) (by omega)
            have hx : nx2 (B k) (S k m) m = (S k m)[m - 16]?.getD 0 + sg0 ((S k m)[m - 15]?.getD 0) + (S k m)[m - 7]?.getD 0 + sg1 ((S k m)[m - 2]?.getD 0) := if_neg h16
            rw [hx] at HN
            generalize (S k m)[m - 16]?.getD 0 = x16 at c16 HN
            generalize (S k m)[m - 15]?.getD 0 = x15 at c15 HN
            generalize (S k m)[m - 7]?.getD 0 = x7 at c7 HN
            generalize (S k m)[m - 2]?.getD 0 = x2 at c2 HN
            have n16 : (16 : Int) ≤ (m : Int) := by omega
            have l16 : (0 : Int) ≤ (m : Int) - 16 := by omega
            have u16 : (m : Int) - 16 < 64 := by omega
            have v16 : (m : Int) < 64 + 16 := by omega
            have w16 : IntKind.i64.wrap ((m : Int) - 16) = (m : Int) - 16 := by rw [IntKind.wrap_i64]; omega
            have k16 : ((m : Int) - 16).toNat = m - 16 := by omega
            have n15 : (15 : Int) ≤ (m : Int) := by omega
            have l15 : (0 : Int) ≤ (m : Int) - 15 := by omega
            have u15 : (m : Int) - 15 < 64 := by omega
            have v15 : (m : Int) < 64 + 15 := by omega
            have w15 : IntKind.i64.wrap ((m : Int) - 15) = (m : Int) - 15 := by rw [IntKind.wrap_i64]; omega
            have k15 : ((m : Int) - 15).toNat = m - 15 := by omega
            have n7 : (7 : Int) ≤ (m : Int) := by omega
            have l7 : (0 : Int) ≤ (m : Int) - 7 := by omega
            have u7 : (m : Int) - 7 < 64 := by omega
            have v7 : (m : Int) < 64 + 7 := by omega
            have w7 : IntKind.i64.wrap ((m : Int) - 7) = (m : Int) - 7 := by rw [IntKind.wrap_i64]; omega
            have k7 : ((m : Int) - 7).toNat = m - 7 := by omega
            have n2 : (2 : Int) ≤ (m : Int) := by omega
            have l2 : (0 : Int) ≤ (m : Int) - 2 := by omega
            have u2 : (m : Int) - 2 < 64 := by omega
            have v2 : (m : Int) < 64 + 2 := by omega
            have w2 : IntKind.i64.wrap ((m : Int) - 2) = (m : Int) - 2 := by rw [IntKind.wrap_i64]; omega
            have k2 : ((m : Int) - 2).toNat = m - 2 := by omega
            have R7 : Hid (∀ W : World, Calls Tryz.prog 70 #[.int .u32 (x15.toNat : Int), .int .i64 7] W fun e w' => e = .returned (.int .u32 ((ror x15 7).toNat : Int)) ∧ ∃ j, w' = W.drewN j) := fun W => rright_in x15 7 (by omega) (by omega) W
            have R18 : Hid (∀ W : World, Calls Tryz.prog 70 #[.int .u32 (x15.toNat : Int), .int .i64 18] W fun e w' => e = .returned (.int .u32 ((ror x15 18).toNat : Int)) ∧ ∃ j, w' = W.drewN j) := fun W => rright_in x15 18 (by omega) (by omega) W
            have R17 : Hid (∀ W : World, Calls Tryz.prog 70 #[.int .u32 (x2.toNat : Int), .int .i64 17] W fun e w' => e = .returned (.int .u32 ((ror x2 17).toNat : Int)) ∧ ∃ j, w' = W.drewN j) := fun W => rright_in x2 17 (by omega) (by omega) W
            have R19 : Hid (∀ W : World, Calls Tryz.prog 70 #[.int .u32 (x2.toNat : Int), .int .i64 19] W fun e w' => e = .returned (.int .u32 ((ror x2 19).toNat : Int)) ∧ ∃ j, w' = W.drewN j) := fun W => rright_in x2 19 (by omega) (by omega) W
            have hb0 : bits .xor .u32 (bits .xor .u32 ((ror x15 7).toNat : Int) ((ror x15 18).toNat : Int)) ((x15.toNat : Int) / 8) = ((sg0 x15).toNat : Int) := by rw [shr3, bv_xor, bv_xor]; rfl
            have hb1 : bits .xor .u32 (bits .xor .u32 ((ror x2 17).toNat : Int) ((ror x2 19).toNat : Int)) ((x2.toNat : Int) / 1024) = ((sg1 x2).toNat : Int) := by rw [shr10, bv_xor, bv_xor]; rfl
            generalize sg0 x15 = g0 at hb0 HN
            generalize sg1 x2 = g1 at hb1 HN
            generalize ror x15 7 = r7 at R7 hb0
            generalize ror x15 18 = r18 at R18 hb0
            generalize ror x2 17 = r17 at R17 hb1
            generalize ror x2 19 = r19 at R19 hb1
            have hv : ((x16.toNat : Int) + (g0.toNat : Int) + (x7.toNat : Int) + (g1.toNat : Int)) % 4294967296 = ((x16 + g0 + x7 + g1).toNat : Int) := by
              simp only [BitVec.toNat_add]
              omega
            have HKp : Hid (∀ (W : World) (v : Value), W.cell? ⟨g, m - 16, none⟩ = some (.int .u32 (x16.toNat : Int)) → W.cell? ⟨g, m - 7, none⟩ = some (.int .u32 (x7.toNat : Int)) → (W.setCell ⟨g, m, none⟩ v).cell? ⟨g, m - 16, none⟩ = some (.int .u32 (x16.toNat : Int)) ∧ (W.setCell ⟨g, m, none⟩ v).cell? ⟨g, m - 7, none⟩ = some (.int .u32 (x7.toNat : Int))) := fun W v a1 a2 =>
              ⟨(cell_put_ne W _ _ _ v (by omega)).trans a1, (cell_put_ne W _ _ _ v (by omega)).trans a2⟩
            clear h3 h0 h1 hx hlen
            go_wp2_with fail
            clear c15 c2
            go_region_held3 (fun w' => w'.cell? ⟨g, m - 16, none⟩ = some (.int .u32 (x16.toNat : Int)) ∧ w'.cell? ⟨g, m - 7, none⟩ = some (.int .u32 (x7.toNat : Int))) (first | exact HKp.out _ _ (by assumption) (by assumption) | ((repeat' apply And.intro) <;> assumption) | go_keep)
              (first
                | (have hck := M3; clear hck; go_at_call 70; refine (R19.out _).mono ?_; rintro e w5 ⟨rfl, j4, rfl⟩)
                | (have hck := M2; clear hck; go_at_call 70; refine (R17.out _).mono ?_; rintro e w4 ⟨rfl, j3, rfl⟩; have M3 : True := trivial)
                | (have hck := M1; clear hck; go_at_call 70; refine (R18.out _).mono ?_; rintro e w3 ⟨rfl, j2, rfl⟩; have M2 : True := trivial)
                | (go_at_call 70; refine (R7.out _).mono ?_; rintro e w2 ⟨rfl, j1, rfl⟩; have M1 : True := trivial))
            rename_i hHeld
            clear hHeld
            go_wp2
            go_roundw
            case rel =>
              refine ⟨m + 1, by omega, by go_num, ?_, ?_, ?_, ?_⟩
              · rw [HN.out, ← wc_set]
                refine (cells_put (W := wr.drewN _) H3.out _).trans (cells_eq ?_)
                first
                  | rfl
                  | exact hv
              · rw [Below.heap_setCell _ _ _ _ (by show W.heap.size ≠ g; omega)]; exact H0.out
              · rw [Below.heap_setCell _ _ _ _ (by show W.heap.size + 1 ≠ g; omega)]; exact H1.out
              · exact Below.setCell (hbl.trans ((below_dn wr _).mono hbl.size)) (by show W.heap.size ≤ g; omega) _
            case measure => simp [intOf]; omega
        · obtain rfl : m = 64 := by omega
          rw [fill_all _ _ (HSL.out k 64)] at H3
          have HWL := Hid.mk (HSL.out k 64)
          have HQK := Hid.mk (HQS.out k)
          have HQZ := Hid.mk (HQ0.out k)
          have HRK := Hid.mk (HRS.out k)
          clear h3 h0 h1 HWK HQS HQ0 HRS HSS HS0 HWD
          generalize S k 64 = ws at H3 HWL HQK
          generalize Q k = q at HQK HQZ HRK
          go_wp2_with (at_make; refine wpList_make_full _ rfl _ _ 45 rfl wr.heap.size 35 i0 (.int .u32 0) 1 Tryz.underlying45 hi hz0 hz1 _ _ _ _ 8 rfl rfl rfl rfl (by rw [hz2]; omega) (by unfold maxLen; omega) (Nat.le_refl _) ?_; intro w1 hown1 hgrow1)
          have Bm : Below wr.heap.size wr w1 := (Below.refl _ _).grown hgrow1 (Nat.le_refl _) (by simp)
          rw [made_words] at hown1
          have G1 := Hid.mk (made_row hown1)
          have K0 : Hid (w1.heap[W.heap.size]? = some (.cells (wc (R k).l) 35 (0, 0))) := (Bm.block _ (box_lt H0.out)).trans H0.out
          have hgv : g < wr.heap.size := box_lt H3.out
          obtain ⟨rl, hrl⟩ : ∃ rl, rl = (R k).l.map fun x => Value.int .u32 (x.toNat : Int) := ⟨_, rfl⟩
          have HRL := Hid.mk hrl
          have hrlen : rl.length = 8 := by rw [hrl]; rfl
          have hone : ∀ v ∈ rl, v.oneCell' = true := fun v hv => by rw [hrl] at hv; obtain ⟨x, _, rfl⟩ := List.mem_map.1 hv; rfl
          have hsrc : ∀ j v, rl[j]? = some v → w1.cell? ((⟨W.heap.size, 0, none⟩ : Addr).add j) = some v := fun j v hv => by
            rw [addr_at]
            refine (cells_at K0.out ?_).1
            rw [wc_list, ← hrl]
            simpa using hv
          have HONE := Hid.mk hone
          have HSRC := Hid.mk hsrc
          have HLEN := Hid.mk hrlen
          clear hown1 hgrow1 hrl hone hsrc hrlen
          obtain ⟨w3, hw3⟩ : ∃ w3, w3 = w1.setRow wr.heap.size (wc (R k).l) := ⟨_, rfl⟩
          have hcopy : (Builtin.copy_ #[45, 45] 3 #[.slice (some ⟨wr.heap.size, 0, none⟩) 8 8, .slice (some ⟨W.heap.size, 0, none⟩) 8 8]).run Tryz.prog w1 = .ok (.int .i64 8) w3 := by
            have h := run_copy_row (P := Tryz.prog) w1 45 45 3 35 wr.heap.size 0 8 8 ⟨W.heap.size, 0, none⟩ 8 8 _ 35 rl Tryz.underlying45 (by kernel_rfl) G1.out HLEN.out HSRC.out (by rw [HLEN.out]; simp) HONE.out
            rw [h, hw3, HLEN.out, wc_list, ← HRL.out]
            congr 2
            simp
          have hb3 : Below wr.heap.size wr w3 := by rw [hw3]; exact below_setRow Bm (Nat.le_refl _) _
          have hg3 : Hid (w3.heap[wr.heap.size]? = some (.cells (wc (R k).l) 35 (0, 0))) := by rw [Hid, hw3]; exact setRow_heap _ _ _ _ _ _ G1.out
          have J0 : Hid (w3.heap[W.heap.size]? = some (.cells (wc (R k).l) 35 (0, 0))) := (hb3.block _ (box_lt H0.out)).trans H0.out
          have J1 : Hid (w3.heap[W.heap.size + 1]? = some (.cells (wc K) 35 (0, 0))) := (hb3.block _ (box_lt H1.out)).trans H1.out
          have J3 : Hid (w3.heap[g]? = some (.cells (wc ws) 35 (0, 0))) := (hb3.block _ (box_lt H3.out)).trans H3.out
          have JB : Below W.heap.size W w3 := bthen hbl hb3
          clear hw3 hb3 G1 K0 H0 H1 H3 hbl Bm HSRC HONE HRL HLEN
          generalize wr.heap.size = gv at hgv hg3 hcopy ⊢
          go_wp2_with fail
          rw [hcopy]
          clear hcopy
          go_wp2_with fail
          go_loopw [11, 12] (fun v i wq => ∃ t vb : Nat, t ≤ 64 ∧ i = .int .i64 t ∧ v = .slice (some ⟨vb, 0, none⟩) 8 8 ∧ g < vb ∧ wq.heap[vb]? = some (.cells (wc (q t).l) 35 (0, 0)) ∧ wq.heap[g]? = some (.cells (wc ws) 35 (0, 0)) ∧ wq.heap[W.heap.size]? = some (.cells (wc (R k).l) 35 (0, 0)) ∧ wq.heap[W.heap.size + 1]? = some (.cells (wc K) 35 (0, 0)) ∧ Below W.heap.size W wq) (fun _ i _ => 64 - (intOf i).toNat)
          case atStart => exact ⟨0, gv, by omega, rfl, rfl, hgv, by rw [HQZ.out]; exact hg3.out, J3.out, J0.out, J1.out, JB⟩
          case round =>
            obtain ⟨t, vb, ht, rfl, rfl, hvb, h4, h3, h0, h1, hbl⟩ := hrel
            have H4 := Hid.mk h4
            have H3 := Hid.mk h3
            have H0 := Hid.mk h0
            have H1 := Hid.mk h1
            clear hg3 J3 J0 J1 JB
            by_cases hlt3 : t < 64
            · obtain ⟨d0, d1, d2, d3, d4, d5, d6, d7⟩ := (q t).at h4
              have dr := cell_of h1 (k := t) (by rw [HKL.out]; exact hlt3)
              have dw := cell_of h3 (k := t) (by rw [HWL.out]; exact hlt3)
              have HN : Hid (q (t + 1) = ⟨(q t).h + (ror (q t).e 6 ^^^ ror (q t).e 11 ^^^ ror (q t).e 25) + cho (q t).e (q t).f (q t).g + K[t]?.getD 0 + ws[t]?.getD 0 + ((ror (q t).a 2 ^^^ ror (q t).a 13 ^^^ ror (q t).a 22) + maj (q t).a (q t).b (q t).c), (q t).a, (q t).b, (q t).c, (q t).d + ((q t).h + (ror (q t).e 6 ^^^ ror (q t).e 11 ^^^ ror (q t).e 25) + cho (q t).e (q t).f (q t).g + K[t]?.getD 0 + ws[t]?.getD 0), (q t).e, (q t).f, (q t).g⟩) := HQK.out t
              clear h4 h3 h0 h1
              generalize K[t]?.getD 0 = kk at dr HN
              generalize ws[t]?.getD 0 = x at dw HN
              generalize (q t).a = ya at d0 HN
              generalize (q t).b = yb at d1 HN
              generalize (q t).c = yc at d2 HN
              generalize (q t).d = yd at d3 HN
              generalize (q t).e = ye at d4 HN
              generalize (q t).f = yf at d5 HN
              generalize (q t).g = yg at d6 HN
              generalize (q t).h = yh at d7 HN
              have R6 : Hid (∀ W : World, Calls Tryz.prog 70 #[.int .u32 (ye.toNat : Int), .int .i64 6] W fun e w' => e = .returned (.int .u32 ((ror ye 6).toNat : Int)) ∧ ∃ j, w' = W.drewN j) := fun W => rright_in ye 6 (by omega) (by omega) W
              have R11 : Hid (∀ W : World, Calls Tryz.prog 70 #[.int .u32 (ye.toNat : Int), .int .i64 11] W fun e w' => e = .returned (.int .u32 ((ror ye 11).toNat : Int)) ∧ ∃ j, w' = W.drewN j) := fun W => rright_in ye 11 (by omega) (by omega) W
              have R25 : Hid (∀ W : World, Calls Tryz.prog 70 #[.int .u32 (ye.toNat : Int), .int .i64 25] W fun e w' => e = .returned (.int .u32 ((ror ye 25).toNat : Int)) ∧ ∃ j, w' = W.drewN j) := fun W => rright_in ye 25 (by omega) (by omega) W
              have R2 : Hid (∀ W : World, Calls Tryz.prog 70 #[.int .u32 (ya.toNat : Int), .int .i64 2] W fun e w' => e = .returned (.int .u32 ((ror ya 2).toNat : Int)) ∧ ∃ j, w' = W.drewN j) := fun W => rright_in ya 2 (by omega) (by omega) W
              have R13 : Hid (∀ W : World, Calls Tryz.prog 70 #[.int .u32 (ya.toNat : Int), .int .i64 13] W fun e w' => e = .returned (.int .u32 ((ror ya 13).toNat : Int)) ∧ ∃ j, w' = W.drewN j) := fun W => rright_in ya 13 (by omega) (by omega) W
              have R22 : Hid (∀ W : World, Calls Tryz.prog 70 #[.int .u32 (ya.toNat : Int), .int .i64 22] W fun e w' => e = .returned (.int .u32 ((ror ya 22).toNat : Int)) ∧ ∃ j, w' = W.drewN j) := fun W => rright_in ya 22 (by omega) (by omega) W
              have hq1 : bits .xor .u32 (bits .xor .u32 ((ror ye 6).toNat : Int) ((ror ye 11).toNat : Int)) ((ror ye 25).toNat : Int) = ((ror ye 6 ^^^ ror ye 11 ^^^ ror ye 25).toNat : Int) := by rw [bv_xor, bv_xor]
              have hq2 : bits .xor .u32 (bits .xor .u32 ((ror ya 2).toNat : Int) ((ror ya 13).toNat : Int)) ((ror ya 22).toNat : Int) = ((ror ya 2 ^^^ ror ya 13 ^^^ ror ya 22).toNat : Int) := by rw [bv_xor, bv_xor]
              have hch : bits .xor .u32 (bits .and .u32 (ye.toNat : Int) (yf.toNat : Int)) (bits .and .u32 (bits .xor .u32 (ye.toNat : Int) 4294967295) (yg.toNat : Int)) = ((cho ye yf yg).toNat : Int) := by rw [bv_and, bv_notr, bv_and, bv_xor, cho_xor]
              have hmj : bits .xor .u32 (bits .xor .u32 (bits .and .u32 (ya.toNat : Int) (yb.toNat : Int)) (bits .and .u32 (ya.toNat : Int) (yc.toNat : Int))) (bits .and .u32 (yb.toNat : Int) (yc.toNat : Int)) = ((maj ya yb yc).toNat : Int) := by rw [bv_and, bv_and, bv_and, bv_xor, bv_xor, maj_xor]
              generalize ror ye 6 ^^^ ror ye 11 ^^^ ror ye 25 = q1 at hq1 HN
              generalize ror ya 2 ^^^ ror ya 13 ^^^ ror ya 22 = q2 at hq2 HN
              generalize cho ye yf yg = ch at hch HN
              generalize maj ya yb yc = mj at hmj HN
              generalize ror ye 6 = r6 at R6 hq1
              generalize ror ye 11 = r11 at R11 hq1
              generalize ror ye 25 = r25 at R25 hq1
              generalize ror ya 2 = r2 at R2 hq2
              generalize ror ya 13 = r13 at R13 hq2
              generalize ror ya 22 = r22 at R22 hq2
              have ht0 : ((yh.toNat : Int) + (q1.toNat : Int) + (ch.toNat : Int) + (kk.toNat : Int) + (x.toNat : Int)) % 4294967296 = ((yh + q1 + ch + kk + x).toNat : Int) := add5w yh q1 ch kk x
              have hu0 := bm_add q2 mj
              have htu0 := bm_add (yh + q1 + ch + kk + x) (q2 + mj)
              have hdt0 := bm_add yd (yh + q1 + ch + kk + x)
              generalize yh + q1 + ch + kk + x = tt at ht0 htu0 hdt0 HN
              generalize q2 + mj = uu at hu0 htu0 HN
              generalize tt + uu = tu at htu0 HN
              generalize yd + tt = dt at hdt0 HN
              have HTU := Hid.mk (And.intro htu0 hdt0)
              have ut : (t : Int) < 64 := by omega
              clear htu0 hdt0
              go_wp2_with fail
              go_quiet (first
                | (go_at_call 70; with_reducible refine (R6.out _).mono ?_; exact fun _ _ hh => ⟨hh.1, hh.2.elim fun j hj => ⟨_, hj.trans (drew_add _ _ _)⟩⟩)
                | (go_at_call 70; with_reducible refine (R11.out _).mono ?_; exact fun _ _ hh => ⟨hh.1, hh.2.elim fun j hj => ⟨_, hj.trans (drew_add _ _ _)⟩⟩)
                | (go_at_call 70; with_reducible refine (R25.out _).mono ?_; exact fun _ _ hh => ⟨hh.1, hh.2.elim fun j hj => ⟨_, hj.trans (drew_add _ _ _)⟩⟩))
              have x10 : (wr.drewN nq).cell? ⟨vb, 0, none⟩ = some (.int .u32 (ya.toNat : Int)) := d0
              have x11 : (wr.drewN nq).cell? ⟨vb, 1, none⟩ = some (.int .u32 (yb.toNat : Int)) := d1
              have x12 : (wr.drewN nq).cell? ⟨vb, 2, none⟩ = some (.int .u32 (yc.toNat : Int)) := d2
              have x13 : (wr.drewN nq).cell? ⟨vb, 3, none⟩ = some (.int .u32 (yd.toNat : Int)) := d3
              have x14 : (wr.drewN nq).cell? ⟨vb, 4, none⟩ = some (.int .u32 (ye.toNat : Int)) := d4
              have x15 : (wr.drewN nq).cell? ⟨vb, 5, none⟩ = some (.int .u32 (yf.toNat : Int)) := d5
              have x16 : (wr.drewN nq).cell? ⟨vb, 6, none⟩ = some (.int .u32 (yg.toNat : Int)) := d6
              have x17 : (wr.drewN nq).cell? ⟨vb, 7, none⟩ = some (.int .u32 (yh.toNat : Int)) := d7
              have x1r : (wr.drewN nq).cell? ⟨W.heap.size + 1, t, none⟩ = some (.int .u32 (kk.toNat : Int)) := dr
              have x1w : (wr.drewN nq).cell? ⟨g, t, none⟩ = some (.int .u32 (x.toNat : Int)) := dw
              have H4a : Hid ((wr.drewN nq).heap[vb]? = _) := H4.out
              have H3a : Hid ((wr.drewN nq).heap[g]? = _) := H3.out
              have H0a : Hid ((wr.drewN nq).heap[W.heap.size]? = _) := H0.out
              have H1a : Hid ((wr.drewN nq).heap[W.heap.size + 1]? = _) := H1.out
              have hbla : Below W.heap.size W (wr.drewN nq) := hbl.trans ((below_dn wr nq).mono hbl.size)
              clear d0 d1 d2 d3 d4 d5 d6 d7 dr dw H4 H3 H0 H1 hbl
              generalize wr.drewN nq = V1 at x10 x11 x12 x13 x14 x15 x16 x17 x1r x1w H4a H3a H0a H1a hbla ⊢
              go_wp2_with fail
              go_quiet (first
                | (go_at_call 70; with_reducible refine (R2.out _).mono ?_; exact fun _ _ hh => ⟨hh.1, hh.2.elim fun j hj => ⟨_, hj.trans (drew_add _ _ _)⟩⟩)
                | (go_at_call 70; with_reducible refine (R13.out _).mono ?_; exact fun _ _ hh => ⟨hh.1, hh.2.elim fun j hj => ⟨_, hj.trans (drew_add _ _ _)⟩⟩)
                | (go_at_call 70; with_reducible refine (R22.out _).mono ?_; exact fun _ _ hh => ⟨hh.1, hh.2.elim fun j hj => ⟨_, hj.trans (drew_add _ _ _)⟩⟩))
              have x20 : (V1.drewN nq).cell? ⟨vb, 0, none⟩ = some (.int .u32 (ya.toNat : Int)) := x10
              have x21 : (V1.drewN nq).cell? ⟨vb, 1, none⟩ = some (.int .u32 (yb.toNat : Int)) := x11
              have x22 : (V1.drewN nq).cell? ⟨vb, 2, none⟩ = some (.int .u32 (yc.toNat : Int)) := x12
              have x23 : (V1.drewN nq).cell? ⟨vb, 3, none⟩ = some (.int .u32 (yd.toNat : Int)) := x13
              have x24 : (V1.drewN nq).cell? ⟨vb, 4, none⟩ = some (.int .u32 (ye.toNat : Int)) := x14
              have x25 : (V1.drewN nq).cell? ⟨vb, 5, none⟩ = some (.int .u32 (yf.toNat : Int)) := x15
              have x26 : (V1.drewN nq).cell? ⟨vb, 6, none⟩ = some (.int .u32 (yg.toNat : Int)) := x16
              have x27 : (V1.drewN nq).cell? ⟨vb, 7, none⟩ = some (.int .u32 (yh.toNat : Int)) := x17
              have x2r : (V1.drewN nq).cell? ⟨W.heap.size + 1, t, none⟩ = some (.int .u32 (kk.toNat : Int)) := x1r
              have x2w : (V1.drewN nq).cell? ⟨g, t, none⟩ = some (.int .u32 (x.toNat : Int)) := x1w
              have H4b : Hid ((V1.drewN nq).heap[vb]? = _) := H4a.out
              have H3b : Hid ((V1.drewN nq).heap[g]? = _) := H3a.out
              have H0b : Hid ((V1.drewN nq).heap[W.heap.size]? = _) := H0a.out
              have H1b : Hid ((V1.drewN nq).heap[W.heap.size + 1]? = _) := H1a.out
              have hblb : Below W.heap.size W (V1.drewN nq) := hbla.trans ((below_dn V1 nq).mono hbla.size)
              clear x10 x11 x12 x13 x14 x15 x16 x17 x1r x1w H4a H3a H0a H1a hbla
              generalize V1.drewN nq = V2 at x20 x21 x22 x23 x24 x25 x26 x27 x2r x2w H4b H3b H0b H1b hblb ⊢
              go_wp2_with fail
              have hvlt : vb < V2.heap.size := box_lt H4b.out
              have HKA : Hid (∀ o : Obj, (V2.alloc o).cell? ⟨vb, 0, none⟩ = some (.int .u32 (ya.toNat : Int)) ∧ (V2.alloc o).cell? ⟨vb, 1, none⟩ = some (.int .u32 (yb.toNat : Int)) ∧ (V2.alloc o).cell? ⟨vb, 2, none⟩ = some (.int .u32 (yc.toNat : Int)) ∧ (V2.alloc o).cell? ⟨vb, 3, none⟩ = some (.int .u32 (yd.toNat : Int)) ∧ (V2.alloc o).cell? ⟨vb, 4, none⟩ = some (.int .u32 (ye.toNat : Int)) ∧ (V2.alloc o).cell? ⟨vb, 5, none⟩ = some (.int .u32 (yf.toNat : Int)) ∧ (V2.alloc o).cell? ⟨vb, 6, none⟩ = some (.int .u32 (yg.toNat : Int))) := fun o => by
                have hb : Below V2.heap.size V2 (V2.alloc o) := (Below.refl _ _).alloc (Nat.le_refl _) _
                exact ⟨(hb.cell (p := ⟨vb, 0, none⟩) hvlt).trans x20, (hb.cell (p := ⟨vb, 1, none⟩) hvlt).trans x21, (hb.cell (p := ⟨vb, 2, none⟩) hvlt).trans x22, (hb.cell (p := ⟨vb, 3, none⟩) hvlt).trans x23, (hb.cell (p := ⟨vb, 4, none⟩) hvlt).trans x24, (hb.cell (p := ⟨vb, 5, none⟩) hvlt).trans x25, (hb.cell (p := ⟨vb, 6, none⟩) hvlt).trans x26⟩
              go_region_held3 (fun w' => w'.cell? ⟨vb, 0, none⟩ = some (.int .u32 (ya.toNat : Int)) ∧ w'.cell? ⟨vb, 1, none⟩ = some (.int .u32 (yb.toNat : Int)) ∧ w'.cell? ⟨vb, 2, none⟩ = some (.int .u32 (yc.toNat : Int)) ∧ w'.cell? ⟨vb, 3, none⟩ = some (.int .u32 (yd.toNat : Int)) ∧ w'.cell? ⟨vb, 4, none⟩ = some (.int .u32 (ye.toNat : Int)) ∧ w'.cell? ⟨vb, 5, none⟩ = some (.int .u32 (yf.toNat : Int)) ∧ w'.cell? ⟨vb, 6, none⟩ = some (.int .u32 (yg.toNat : Int))) (first | exact HKA.out _ | ((repeat' apply And.intro) <;> assumption) | go_keep) (fail)
              rename_i hHeld
              clear hHeld
              go_wp2
              go_roundw
              case rel =>
                obtain ⟨htu, hdt⟩ := HTU.out
                refine ⟨t + 1, V2.heap.size, by omega, by go_num, rfl, by omega, ?_, ?_, ?_, ?_, ?_⟩
                · refine (heap_new V2 _).trans ?_
                  rw [HN.out]
                  exact arr8_eq htu hdt
                · exact (Below.heap_alloc V2 _ g (box_lt H3b.out)).trans H3b.out
                · exact (Below.heap_alloc V2 _ _ (box_lt H0b.out)).trans H0b.out
                · exact (Below.heap_alloc V2 _ _ (box_lt H1b.out)).trans H1b.out
                · exact (hblb.alloc hblb.size _).drew
              case measure => simp [intOf]; omega
            · obtain rfl : t = 64 := by omega
              clear h4 h3 h0 h1
              obtain ⟨r, hr⟩ : ∃ r, r = (q 64).l := ⟨_, rfl⟩
              obtain ⟨sl, hsl⟩ : ∃ sl, sl = (R k).l := ⟨_, rfl⟩
              have HRL : Hid (r.length = 8) := by rw [Hid, hr]; rfl
              have HSN : Hid (sl.length = 8) := by rw [Hid, hsl]; rfl
              have HRR : Hid ((R (k + 1)).l = mix sl r 8) := by rw [Hid, hr, hsl]; exact HRK.out
              rw [← hr] at H4
              rw [← hsl] at H0
              clear hr hsl HQK HQZ HRK HWL H3
              go_wp2_with fail
              go_loopw [17] (fun i w2 => ∃ m : Nat, m ≤ 8 ∧ i = .int .i64 m ∧ w2.heap[vb]? = some (.cells (wc r) 35 (0, 0)) ∧ w2.heap[W.heap.size]? = some (.cells (wc (mix sl r m)) 35 (0, 0)) ∧ w2.heap[W.heap.size + 1]? = some (.cells (wc K) 35 (0, 0)) ∧ Below W.heap.size W w2) (fun i _ => 8 - (intOf i).toNat)
              case atStart => exact ⟨0, by omega, rfl, H4.out, H0.out, H1.out, hbl⟩
              case round =>
                obtain ⟨m, hm, rfl, g4, g0, g1, hbl2⟩ := hrel
                have G4 := Hid.mk g4
                have G0 := Hid.mk g0
                have G1 := Hid.mk g1
                clear H4 H0 H1 hbl
                by_cases hlt4 : m < 8
                · obtain ⟨c1, f1'⟩ := mix_free HSN.out HRL.out hlt4 g0
                  have c2 := cell_of g4 (k := m) (by rw [HRL.out]; exact hlt4)
                  have HM := Hid.mk (mix_set sl r HSN.out HRL.out m hlt4)
                  generalize sl[m]?.getD 0 = x at c1 HM
                  generalize r[m]?.getD 0 = y at c2 HM
                  have HXY := Hid.mk (bm_add x y)
                  have i8 : (m : Int) < 8 := by omega
                  clear g4 g0 g1
                  go_wp2_with fail
                  go_region
                  all_goals (
                    go_wp2
                    go_roundw
                    case rel =>
                        refine ⟨m + 1, by omega, by go_num, ?_, ?_, ?_, (Below.setCell hbl2 (Nat.le_refl _) _).drew⟩
                        · exact (Below.heap_setCell wr ⟨W.heap.size, m, none⟩ _ vb (by show vb ≠ W.heap.size; omega)).trans G4.out
                        · rw [HXY.out]
                          refine (cells_put (j := m) G0.out (.int .u32 ((x + y).toNat : Int))).trans ?_
                          rw [wc_set, HM.out]
                        · exact (Below.heap_setCell wr ⟨W.heap.size, m, none⟩ _ (W.heap.size + 1) (by show W.heap.size + 1 ≠ W.heap.size; omega)).trans G1.out
                    case measure => simp [intOf]; omega)
                · obtain rfl : m = 8 := by omega
                  clear g4 g0 g1
                  go_wp2
                  go_roundw
                  case rel =>
                    refine ⟨k + 1, a + 64, by rw [Hid, HA.out]; omega, by omega, by go_num, ?_, G1.out, hbl2⟩
                    rw [HRR.out]
                    exact G0.out
                  case measure => simp [intOf]; omega
    · have hkn2 : k = n := by have := HA.out; have := HNN.out; omega
      rw [hkn2] at H0
      have HTT := Hid.mk (HT.out wr W.heap.size H0.out)
      clear HA hkn2 hkn HNN
      go_wp2_with fail
      refine HTT.out.mono ?_
      rintro e w3 ⟨rfl, hb3⟩
      go_wp2
      go_ret
      exact ⟨rfl, bthen hbl hb3⟩
end Go.Proofs.YtpimliebiapnfaaGreatDoor.G
/- The document's Sum1 and Sum256. -/
namespace Go.Proofs.YtpimliebiapnfaaGreatDoor.G
set_option linter.unusedVariables false
open Go.RowKit
theorem padL_len (l : List UInt8) : (padL l).length = 64 * nb l.length := by simp [padL]
theorem pad_blk (l : List UInt8) (k j : Nat) (hk : k < nb l.length) (hj : j < 64) : (padL l)[64 * k + j]?.getD 0 = (blk l k)[j]?.getD 0 := by
  rw [blk_at l k j hj, padL, List.getElem?_map, List.getElem?_range (by omega)]
  rfl
theorem pad_wd (l : List UInt8) (k i : Nat) (hk : k < nb l.length) (hi : i < 16) : w4 ((padL l)[64 * k + 4 * i]?.getD 0) ((padL l)[64 * k + 4 * i + 1]?.getD 0) ((padL l)[64 * k + 4 * i + 2]?.getD 0) ((padL l)[64 * k + 4 * i + 3]?.getD 0) = wd (blk l k) i := by
  unfold wd
  rw [Nat.add_assoc, Nat.add_assoc, Nat.add_assoc, pad_blk l k (4 * i) hk (by omega), pad_blk l k (4 * i + 1) hk (by omega), pad_blk l k (4 * i + 2) hk (by omega), pad_blk l k (4 * i + 3) hk (by omega)]
theorem word_pad (s : ByteArray) (hs : s.size ≤ 140737488351232) (k i : Nat) (hk : k < nb s.size) (hi : i < 16) (W : World) :
    Calls Tryz.prog 69 #[.string ⟨(padL s.data.toList).toArray⟩, .int .i64 (((64 * k : Nat) : Int) + 4 * (i : Int))] W fun e w' => e = .returned (.int .u32 ((wd (blk s.data.toList k) i).toNat : Int)) ∧ ∃ j, w' = W.drewN j := by
  have hsz : (⟨(padL s.data.toList).toArray⟩ : ByteArray).size = 64 * nb s.size := by rw [ba_size, padL_len, size_list]
  have hb : nb s.size ≤ 2199023255553 := by unfold nb; omega
  have h := rword_in ⟨(padL s.data.toList).toArray⟩ (64 * k + 4 * i) (by omega) (by omega) W
  rw [show ((64 * k : Nat) : Int) + 4 * (i : Int) = ((64 * k + 4 * i : Nat) : Int) by omega, ← pad_wd s.data.toList k i (by rw [size_list]; exact hk) hi]
  exact h
theorem mix_all (s t : S8) : mix s.l t.l 8 = (add8 s t).l := rfl
theorem rsum2_in (s : ByteArray) (hs : s.size ≤ 140737488351232) (W : World) :
    Calls Tryz.prog 35 #[.string s] W fun e w' => e = .returned (.string ⟨(sha2 s.data.toList).toArray⟩) ∧ Below W.heap.size W w' :=
  rsum2_gen s ⟨(padL s.data.toList).toArray⟩ (nb s.size) (by rw [ba_size, padL_len, size_list]) (by unfold nb; omega) (fun W => padded_in s hs W) (blk s.data.toList) (fun k i hk hi W => word_pad s hs k i hk hi W)
    rk rfl rrounds_in (fun k m => sch2 (blk s.data.toList k) m) (fun k => rfl) (fun k m => sch2_len _ m) (fun k m => rfl) (go2 s.data.toList) (fun k m => rn2 (sch2 (blk s.data.toList k) 64) m (go2 s.data.toList k)) (fun k => rfl) (fun k m => rfl) rfl (fun k => (mix_all _ _).symm)
    (sha2 s.data.toList) (fun W b h => tell_in W b (go2 s.data.toList (nb s.size)).l 35 (by show 8 ≤ 100; omega) h) W
end Go.Proofs.YtpimliebiapnfaaGreatDoor.G