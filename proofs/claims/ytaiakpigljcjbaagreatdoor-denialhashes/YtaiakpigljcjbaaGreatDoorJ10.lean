/- Texts of this proof, joined: DTyAdd, DTyAdd2, DTyEnc, DNsec, ZTy. -/
import Derived.BigRegion
import Derived.Deep.RegionHeld3
import Derived.Test.YtaiakpigljcjbaaGreatDoorJ9
import Derived.Test.YtaiakpigljcjbaaGreatDoorJ8
/- typeList.add: one type more. -/
namespace Go.Proofs.YtaiakpigljcjbaaGreatDoor
set_option linter.unusedVariables false
open Go.RowKit

/-- the list in the making at block d: its bytes, where the bits of the last window begin, the last type. -/
def TL (W : World) (d : Nat) (L : List UInt8) (b : Nat) (last : Int) : Prop :=
  ∃ v, W.heap[d]? = some (.cells #[v, .int .i64 (b : Int), .int .i64 last] 182 (0, 0)) ∧ W.ownsRow (d + 1) 5 1 v L.length (Lib.byteCells L)

theorem newTypeList_in (w : World) : Calls Tryz.prog 206 #[] w fun e w' => e = .returned (boxV w.heap.size) ∧ TL w' w.heap.size [] 0 (-1) ∧ Below w.heap.size w w' := by
  go_enter Tryz.func206, Tryz.ntmps206
  go_wp2
  go_ret
  exact ⟨rfl, ⟨.slice none 0 0, heap_new _ _, World.ownsRow_nil ..⟩, (Below.refl _ _).alloc (Nat.le_refl _) _⟩

def slLen : Option Value → Nat
  | some (.slice _ n _) => n
  | _ => 0
theorem and255 (k : Nat) (hk : k ≤ 65535) : Go.bits BinOp.and IntKind.i64 (k : Int) 255 = ((k % 256 : Nat) : Int) := by
  have h1 : (BitVec.ofInt 64 (k : Int)).toNat = k := by
    rw [BitVec.ofInt_natCast, BitVec.toNat_ofNat]; exact Nat.mod_eq_of_lt (by omega)
  show IntKind.i64.wrap ((BitVec.ofInt 64 (k : Int) &&& BitVec.ofInt 64 (255 : Int)).toNat : Int) = _
  rw [BitVec.toNat_and, h1, show (BitVec.ofInt 64 (255 : Int)).toNat = 255 from rfl, show (255 : Nat) = 2 ^ 8 - 1 by decide, Nat.and_two_pow_sub_one_eq_mod k 8, IntKind.wrap_i64]
  omega

set_option maxRecDepth 10000 in
theorem add_no (W : World) (d : Nat) (L : List UInt8) (b : Nat) (last k : Int) (h : TL W d L b last) (hk : ¬ ((0 ≤ k ∧ k ≤ 65535) ∧ last < k)) :
    Calls Tryz.prog 207 #[boxV d, .int .i64 k] W fun e w' => e = .panicked mustV ∧ w' = W := by
  obtain ⟨v, hh, hrow⟩ := h
  obtain ⟨c2, _⟩ := cells_at (v := .int .i64 last) (j := 2) hh rfl
  by_cases h1 : 0 ≤ k ∧ k ≤ 65535
  · have hd : decide (0 ≤ k ∧ k ≤ 65535) = true := by simp [h1]
    have h2 : decide (last < k) = false := by
      rw [decide_eq_false_iff_not]
      exact fun e => hk ⟨h1, e⟩
    clear hk
    go_enter Tryz.func207, Tryz.ntmps207
    go_wp2_with fail
    refine (isType_in k _).mono ?_
    rintro e w1 ⟨rfl, rfl⟩
    rw [hd]
    go_wp2_with fail
    refine (must_no _).mono ?_
    rintro e w2 ⟨rfl, rfl⟩
    go_wp2
    exact ⟨rfl, rfl, rfl⟩
  · have hd : decide (0 ≤ k ∧ k ≤ 65535) = false := by simp; omega
    clear hk
    go_enter Tryz.func207, Tryz.ntmps207
    go_wp2_with fail
    refine (isType_in k _).mono ?_
    rintro e w1 ⟨rfl, rfl⟩
    rw [hd]
    go_wp2_with fail
    refine (must_no _).mono ?_
    rintro e w2 ⟨rfl, rfl⟩
    go_wp2
    exact ⟨rfl, rfl, rfl⟩

/-- what add makes of the bytes. -/
def addTail (L1 : List UInt8) (b1 k : Nat) : List UInt8 :=
  let L2 := L1 ++ List.replicate (b1 + k % 256 / 8 + 1 - L1.length) 0
  let L3 := L2.set (b1 + k % 256 / 8) (UInt8.ofNat ((L2.getD (b1 + k % 256 / 8) 0).toNat ||| 2 ^ (7 - k % 8)))
  L3.set (b1 - 1) (UInt8.ofNat (L3.length - b1))

theorem byte_cell {W : World} {base n c g : Nat} {l : List UInt8} (h : W.ownsRow base 5 1 (.slice (some ⟨g, 0, none⟩) n c) n (Lib.byteCells l)) (j : Nat) (hj : j < l.length) : W.cell? ⟨g, j, none⟩ = some (.int .u8 (l[j].toNat : Int)) := by
  have hn : l.length = n := by have := h.1; simpa [Lib.byteCells] using this
  rcases h.2 with ⟨_, h0⟩ | ⟨g', cap, cur, hv, _, hg, _, _, _, ht⟩
  · omega
  · cases hv
    have := Lib.cells_of_row (w := W) hg n j (.int .u8 (l[j].toNat : Int)) (by rw [Nat.mul_one] at ht; rw [ht]; simp [Lib.byteCells, hj])
    rwa [add_at] at this
theorem byteCells_set (l : List UInt8) (j : Nat) (b : UInt8) : (Lib.byteCells l).set j (.int .u8 (b.toNat : Int)) = Lib.byteCells (l.set j b) := by simp [Lib.byteCells, List.map_set]
theorem or_u8 (a c : Nat) (ha : a < 256) (hc : c < 256) : Go.bits BinOp.or IntKind.u8 (a : Int) (c : Int) = (((UInt8.ofNat (a ||| c)).toNat : Nat) : Int) := by
  have h1 : (BitVec.ofInt 8 (a : Int)).toNat = a := by
    rw [BitVec.ofInt_natCast, BitVec.toNat_ofNat]; exact Nat.mod_eq_of_lt (by omega)
  have h2 : (BitVec.ofInt 8 (c : Int)).toNat = c := by
    rw [BitVec.ofInt_natCast, BitVec.toNat_ofNat]; exact Nat.mod_eq_of_lt (by omega)
  show IntKind.u8.wrap ((BitVec.ofInt 8 (a : Int) ||| BitVec.ofInt 8 (c : Int)).toNat : Int) = _
  rw [BitVec.toNat_or, h1, h2, IntKind.wrap_u8, UInt8.toNat_ofNat']
  omega
theorem pow_lt8 (k : Nat) : 2 ^ (7 - k % 8) < 256 := Nat.lt_of_lt_of_le (Nat.pow_lt_pow_right (by omega) (by omega : 7 - k % 8 < 8)) (by decide)

set_option maxRecDepth 100000 in
set_option maxHeartbeats 2000000 in
theorem add_same (W : World) (d : Nat) (L : List UInt8) (b : Nat) (last : Int) (k : Nat) (h : TL W d L b last) (hk : k ≤ 65535) (hl : last < (k : Int)) (hL : L.length ≤ 10000) (hb1 : 1 ≤ b) (hb : b ≤ L.length) (hw : ((k / 256 : Nat) : Int) = last / 256) (hl0 : -1 ≤ last) :
    Calls Tryz.prog 207 #[boxV d, .int .i64 (k : Int)] W fun e w' => e = .returned (.tuple #[]) ∧ TL w' d (addTail L b k) b k ∧ Below d W w' := by
  obtain ⟨v, hh, hrow⟩ := h
  obtain ⟨i0, hi, hz0, hz1, hz2⟩ := info_parts info5
  have hmo : Tryz.prog.follows Departure.mixedOrders = true := by kernel_rfl
  have hd : decide (0 ≤ (k : Int) ∧ (k : Int) ≤ 65535) = true := by simp; omega
  obtain ⟨c2, _⟩ := cells_at (v := .int .i64 last) (j := 2) hh rfl
  obtain ⟨c1, _⟩ := cells_at (v := .int .i64 (b : Int)) (j := 1) hh rfl
  have hand := and255 k hk
  have hdl := box_lt hh
  obtain ⟨qv, cv, hqv⟩ := row_as hrow
  subst hqv
  obtain ⟨A, hA⟩ : ∃ A, A = b + k % 256 / 8 := ⟨_, rfl⟩
  have hwb : ((k : Int) / 256 != last / 256) = false := by rw [bne_eq_false_iff_eq]; omega
  clear hw
  have HAi : Hid ((b : Int) + (k : Int) % 256 / 8 = (A : Int)) := by rw [Hid]; omega
  have HA := Hid.mk hA
  have hA1 : A ≤ b + 31 := by omega
  have hA2 : b ≤ A := by omega
  clear hA
  go_enter Tryz.func207, Tryz.ntmps207
  go_wp2_with fail
  refine (isType_in k _).mono ?_
  rintro e w1 ⟨rfl, rfl⟩
  rw [hd]
  go_wp2_with fail
  refine (must_yes _).mono ?_
  rintro e w2 ⟨rfl, rfl⟩
  have HROW := Hid.mk hrow
  have HHH := Hid.mk hh
  clear hrow hh
  go_wp2
  rw [HAi.out]
  go_loopw [] (fun wr => ∃ n : Nat, L.length + n ≤ 10100 ∧ (n = 0 ∨ L.length + n ≤ A + 1) ∧ TL wr d (L ++ List.replicate n 0) b last ∧ Below d w2 wr ∧ d < wr.heap.size) (fun wr => A + 1 - slLen (wr.cell? ⟨d, 0, none⟩))
  case atStart => exact ⟨0, by omega, .inl rfl, ⟨_, HHH.out, by simpa using HROW.out⟩, Below.refl _ _, hdl⟩
  case round =>
    obtain ⟨n, hn, hn2, ⟨v, hh, hrow⟩, hbl, hdr⟩ := hrel
    obtain ⟨qw, cw, hqw⟩ := row_as hrow
    subst hqw
    have hlen : (L ++ List.replicate n 0).length = L.length + n := by simp
    rw [hlen] at hh hrow
    obtain ⟨c0, f0⟩ := cells_at (v := .slice qw (L.length + n) cw) (j := 0) hh rfl
    by_cases hlt : L.length + n ≤ A
    · have HL : Hid (∀ (G : Prop) (v1 : Value) (w3 : World), w3.ownsRow (d + 1) 5 1 v1 (L.length + n + 1) (Lib.byteCells (L ++ List.replicate n 0) ++ [.int .u8 0]) → (wr.alloc (.cells #[.int .u8 0] 5)).grownBy w3 (Value.slice qw (L.length + n) cw).ownBlock →
          (∀ q c, v1 = .slice q (L.length + n + 1) c → w3.heap[d]? = some (.cells #[.slice qw (L.length + n) cw, .int .i64 (b : Int), .int .i64 last] 182 (0, 0)) → w3.cell? ⟨d, 0, none⟩ = some (.slice qw (L.length + n) cw) → w3.frozen? ⟨d, 0, none⟩ = false → Below d w2 w3 → G) → G) := by
        intro G v1 w3 ho hg hG
        obtain ⟨q, c, hv⟩ := row_as ho
        have hne : some d ≠ (Value.slice qw (L.length + n) cw).ownBlock := fun e => by have := rowBaseB hrow d e.symm; omega
        have h3 := (hg.block d (by simp; omega) hne).trans ((alloc_old _ _ _ hdr).trans hh)
        obtain ⟨e1, e2⟩ := cells_at (v := .slice qw (L.length + n) cw) (j := 0) h3 rfl
        exact hG q c hv h3 e1 e2 ((hbl.alloc (by omega) _).grown hg (by simp; omega) (fun k hk => by have := rowBaseB hrow k hk; omega))
      go_wp2_with (at_builtin; refine wpList_append_own _ rfl _ _ 50 rfl (d + 1) 5 i0 (.int .u8 0) 1 1 Tryz.underlying50 hi hz0 hz1 hz2 rfl (by decide) _ _ _ rfl (row_alloc hrow _) ⟨wr.heap.size, 0, none⟩ 1 1 [.int .u8 0] rfl rfl (cell_one_new _ _ _) (by simp [Value.oneCell']) (by unfold maxLen; omega) (by omega) (by simp; omega) ?_; intro v1 w3 hown3 hgrow3 _; refine HL.out _ v1 w3 hown3 hgrow3 ?_; intro q3 cc3 hv3 hh3 c03 f03 hb3; subst hv3)
      have HST := Hid.mk (cells_put (j := 0) hh3 (.slice q3 (L.length + n + 1) cc3))
      have HSZ : Hid (d < w3.heap.size) := Nat.lt_of_lt_of_le hdl hb3.size
      have HRR : Hid (w3.ownsRow (d + 1) 5 1 (.slice q3 (L.length + n + 1) cc3) (L ++ List.replicate (n + 1) 0).length (Lib.byteCells (L ++ List.replicate (n + 1) 0))) := by
        have e1 : L ++ List.replicate (n + 1) (0 : UInt8) = (L ++ List.replicate n 0) ++ [0] := by rw [List.replicate_succ', List.append_assoc]
        have e2 : ((L ++ List.replicate n (0 : UInt8)) ++ [0]).length = L.length + n + 1 := by simp; omega
        rw [Hid, e1, byteCells_snoc, e2]
        exact hown3
      have HM1 : Hid (slLen (wr.cell? ⟨d, 0, none⟩) = L.length + n) := by rw [Hid, c0]; rfl
      clear hown3 hgrow3 HL hrow
      have HLT : Hid (A + 1 - slLen ((w3.setCell ⟨d, 0, none⟩ (.slice q3 (L.length + n + 1) cc3)).cell? ⟨d, 0, none⟩) < A + 1 - slLen (wr.cell? ⟨d, 0, none⟩)) := by
        rw [Hid, HM1.out, (cells_at (v := .slice q3 (L.length + n + 1) cc3) (j := 0) HST.out rfl).1]
        simp only [slLen]
        omega
      have hrelN : ∃ n' : Nat, L.length + n' ≤ 10100 ∧ (n' = 0 ∨ L.length + n' ≤ A + 1) ∧ TL (w3.setCell ⟨d, 0, none⟩ (.slice q3 (L.length + n + 1) cc3)) d (L ++ List.replicate n' 0) b last ∧ Below d w2 (w3.setCell ⟨d, 0, none⟩ (.slice q3 (L.length + n + 1) cc3)) ∧ d < (w3.setCell ⟨d, 0, none⟩ (.slice q3 (L.length + n + 1) cc3)).heap.size :=
        ⟨n + 1, by omega, .inr (by omega), ⟨_, HST.out, ownsRow_setCell_below HRR.out (a := ⟨d, 0, none⟩) (Nat.lt_succ_self d) _⟩, hb3.setCell (p := ⟨d, 0, none⟩) (Nat.le_refl _) _, by simp [World.setCell]; exact HSZ.out⟩
      go_wp2
      go_roundw
      case rel => exact hrelN
      case measure => exact HLT.out
    · have hn3 : n = A + 1 - L.length := by omega
      have hAl : A < (L ++ List.replicate n 0).length := by rw [hlen]; omega
      obtain ⟨g, cap, hgc⟩ := row_form hrow (by omega)
      cases hgc
      have HTL : Hid (addTail L b k = (((L ++ List.replicate n 0).set A (UInt8.ofNat ((L ++ List.replicate n (0 : UInt8))[A].toNat ||| 2 ^ (7 - k % 8)))).set (b - 1) (UInt8.ofNat (L.length + n - b)))) := by
        rw [Hid, addTail, ← HA.out, ← hn3, List.length_set, hlen, List.getD_eq_getElem?_getD, List.getElem?_eq_getElem hAl]
        rfl
      have hAc := byte_cell hrow A hAl
      obtain ⟨hAf, hgl, hgb⟩ := row_frozen (j := A) hrow (by omega)
      have hx := (L ++ List.replicate n (0 : UInt8))[A].toNat_lt
      have hst1 := row_store (j := A) hrow (by omega) (.int .u8 (((UInt8.ofNat ((L ++ List.replicate n (0 : UInt8))[A].toNat ||| 2 ^ (7 - k % 8))).toNat : Nat) : Int))
      rw [byteCells_set] at hst1
      have hor := or_u8 (L ++ List.replicate n (0 : UInt8))[A].toNat (2 ^ (7 - k % 8)) (by omega) (pow_lt8 k)
      have hAi0 : (0 : Int) ≤ (A : Int) := by omega
      have hAi1 : (A : Int) < ((L.length + n : Nat) : Int) := by omega
      have hdg : d ≠ g := by omega
      have hor3 : Go.bits BinOp.or IntKind.u8 ((L ++ List.replicate n (0 : UInt8))[A].toNat : Int) (2 ^ (7 - k % 8) % 256) = (((UInt8.ofNat ((L ++ List.replicate n (0 : UInt8))[A].toNat ||| 2 ^ (7 - k % 8))).toNat : Nat) : Int) := by
        have e : ((2 : Int) ^ (7 - k % 8) % 256) = ((2 ^ (7 - k % 8) : Nat) : Int) := by
          have hpw := pow_lt8 k
          have e2 : (2 : Int) ^ (7 - k % 8) = ((2 ^ (7 - k % 8) : Nat) : Int) := by push_cast; rfl
          rw [e2]
          generalize 2 ^ (7 - k % 8) = q at hpw
          omega
        rw [e]
        exact hor
      have hr0 : (0 : Int) ≤ 7 - (k : Int).tmod 8 := by rw [Int.tmod_eq_emod_of_nonneg (by omega)]; omega
      clear hlen hor
      generalize (L ++ List.replicate n (0 : UInt8))[A].toNat = x at hAc hx hst1 hor3 HTL
      generalize L ++ List.replicate n (0 : UInt8) = L2 at hst1 hrow hAl HTL
      have HST1 := Hid.mk hst1
      have HRW := Hid.mk hrow
      clear hst1 hrow hn2 hn3 hlt
      go_wp2
      have HOR := Hid.mk hor3
      clear hor3
      go_region
      rw [HOR.out]
      obtain ⟨y, hy⟩ : ∃ y, (UInt8.ofNat (x ||| 2 ^ (7 - k % 8))) = y := ⟨_, rfl⟩
      rw [hy] at HST1 HTL ⊢
      obtain ⟨W5, hW5⟩ : ∃ W5, W5 = (wr.setCell ⟨g, A, none⟩ (.int .u8 (y.toNat : Int))).drew := ⟨_, rfl⟩
      rw [← hW5]
      have hh5 : W5.heap[d]? = some (.cells #[.slice (some ⟨g, 0, none⟩) (L.length + n) cw, .int .i64 (b : Int), .int .i64 last] 182 (0, 0)) := by
        rw [hW5]
        exact (Below.heap_setCell wr ⟨g, A, none⟩ _ d hdg).trans hh
      have hrow5 : W5.ownsRow (d + 1) 5 1 (.slice (some ⟨g, 0, none⟩) (L.length + n) cw) (L.length + n) (Lib.byteCells (L2.set A y)) := by rw [hW5]; exact HST1.out
      have hbl5 : Below d w2 W5 := by rw [hW5]; exact (hbl.setCell (p := ⟨g, A, none⟩) (by simp; omega) _).drew
      obtain ⟨e0, _⟩ := cells_at (v := .slice (some ⟨g, 0, none⟩) (L.length + n) cw) (j := 0) hh5 rfl
      obtain ⟨e1, _⟩ := cells_at (v := .int .i64 (b : Int)) (j := 1) hh5 rfl
      obtain ⟨e2, f2⟩ := cells_at (v := .int .i64 last) (j := 2) hh5 rfl
      have hL2 : (L2.set A y).length = L.length + n := by
        have := hrow5.1
        simpa [Lib.byteCells] using this
      have hbc := byte_cell hrow5 (b - 1) (by omega)
      obtain ⟨hbf, _, _⟩ := row_frozen (j := b - 1) hrow5 (by omega)
      have hst2 := row_store (j := b - 1) hrow5 (by omega) (.int .u8 (((UInt8.ofNat (L.length + n - b)).toNat : Nat) : Int))
      rw [byteCells_set] at hst2
      have HST2 := Hid.mk hst2
      have HH5 := Hid.mk hh5
      have HL2 := Hid.mk hL2
      have hbi : ((b : Int) - 1) = ((b - 1 : Nat) : Int) := by omega
      have hbi0 : (0 : Int) ≤ (b : Int) - 1 := by omega
      have hbi1 : (b : Int) - 1 < ((L.length + n : Nat) : Int) := by omega
      have hcvb : IntKind.u8.wrap (((L.length + n : Nat) : Int) - (b : Int)) = (((UInt8.ofNat (L.length + n - b)).toNat : Nat) : Int) := wrapu8 _ _ (by omega)
      generalize (L2.set A y)[b - 1]'(by omega) = z at hbc
      clear hst2 hrow5 hh5 hL2 HST1 HRW HOR hW5 hh hAc hAf c0 f0
      have HVL : Hid (((L.length : Int) + (n : Int) - (b : Int)) % 256 = (((UInt8.ofNat (L.length + n - b)).toNat : Nat) : Int)) := by
        rw [Hid, UInt8.toNat_ofNat']
        omega
      go_wp2
      go_region
      rw [HVL.out]
      obtain ⟨W6, hW6⟩ : ∃ W6, W6 = (W5.setCell ⟨g, b - 1, none⟩ (.int .u8 (((UInt8.ofNat (L.length + n - b)).toNat : Nat) : Int))).drew := ⟨_, rfl⟩
      rw [← hW6]
      have hh6 : W6.heap[d]? = some (.cells #[.slice (some ⟨g, 0, none⟩) (L.length + n) cw, .int .i64 (b : Int), .int .i64 last] 182 (0, 0)) := by
        rw [hW6]
        exact (Below.heap_setCell W5 ⟨g, b - 1, none⟩ _ d hdg).trans HH5.out
      have hrow6 : W6.ownsRow (d + 1) 5 1 (.slice (some ⟨g, 0, none⟩) (L.length + n) cw) (addTail L b k).length (Lib.byteCells (addTail L b k)) := by
        rw [HTL.out, List.length_set, HL2.out, hW6]
        exact HST2.out
      have hbl6 : Below d w2 W6 := by rw [hW6]; exact (hbl5.setCell (p := ⟨g, b - 1, none⟩) (by simp; omega) _).drew
      have hlt6 : (addTail L b k).length = L.length + n := by rw [HTL.out, List.length_set, HL2.out]
      obtain ⟨c62, f62⟩ := cells_at (v := .int .i64 last) (j := 2) hh6 rfl
      have HP6 := Hid.mk (cells_put (j := 2) hh6 (.int .i64 (k : Int)))
      have HR6 := Hid.mk hrow6
      have HT6 := Hid.mk hlt6
      clear hrow6 hh6 hW6 hlt6 HTL e0 e1 e2 f2 hbc hbf
      go_wp2
      refine bodyPost_end (results_none rfl _ _ _) rfl ⟨rfl, ⟨_, HP6.out, ?_⟩, hbl6.setCell (p := ⟨d, 2, none⟩) (Nat.le_refl _) _⟩
      exact ownsRow_setCell_below HR6.out (a := ⟨d, 2, none⟩) (Nat.lt_succ_self d) _
end Go.Proofs.YtaiakpigljcjbaaGreatDoor

/- typeList.add: one type more, in a new window. -/
namespace Go.Proofs.YtaiakpigljcjbaaGreatDoor
set_option linter.unusedVariables false
open Go.RowKit

set_option maxRecDepth 100000 in
set_option maxHeartbeats 2000000 in
theorem add_new (W : World) (d : Nat) (L : List UInt8) (b : Nat) (last : Int) (k : Nat) (h : TL W d L b last) (hk : k ≤ 65535) (hl : last < (k : Int)) (hL0 : L.length ≤ 9900) (hw : ¬ ((k / 256 : Nat) : Int) = last / 256) (hl0 : -1 ≤ last) :
    Calls Tryz.prog 207 #[boxV d, .int .i64 (k : Int)] W fun e w' => e = .returned (.tuple #[]) ∧ TL w' d (addTail (L ++ [UInt8.ofNat (k / 256), 0]) (L.length + 2) k) (L.length + 2) k ∧ Below d W w' := by
  obtain ⟨L1, hL1⟩ : ∃ L1, L ++ [UInt8.ofNat (k / 256), 0] = L1 := ⟨_, rfl⟩
  obtain ⟨b1, hb1e⟩ : ∃ b1, L.length + 2 = b1 := ⟨_, rfl⟩
  have hL1l : L1.length = b1 := by rw [← hL1, ← hb1e]; simp
  have hL : L1.length ≤ 10000 := by omega
  have hb1 : 1 ≤ b1 := by omega
  have hb : b1 ≤ L1.length := by omega
  rw [hL1, hb1e]
  have HL1 := Hid.mk hL1
  have HB1E := Hid.mk hb1e
  have HL1L := Hid.mk hL1l
  obtain ⟨A, hA⟩ : ∃ A, A = b1 + k % 256 / 8 := ⟨_, rfl⟩
  have HAi : Hid ((b1 : Int) + (k : Int) % 256 / 8 = (A : Int)) := by rw [Hid]; omega
  have HA := Hid.mk hA
  have hA1 : A ≤ b1 + 31 := by omega
  have hA2 : b1 ≤ A := by omega
  have HCA : Hid ((L.length : Int) + 2 = (b1 : Int)) := by rw [Hid]; omega
  clear hA hL1 hb1e hL1l
  obtain ⟨v, hh, hrow⟩ := h
  obtain ⟨i0, hi, hz0, hz1, hz2⟩ := info_parts info5
  have hmo : Tryz.prog.follows Departure.mixedOrders = true := by kernel_rfl
  have hd : decide (0 ≤ (k : Int) ∧ (k : Int) ≤ 65535) = true := by simp; omega
  obtain ⟨c2, _⟩ := cells_at (v := .int .i64 last) (j := 2) hh rfl
  have hand := and255 k hk
  have hdl := box_lt hh
  obtain ⟨qv, cv, hqv⟩ := row_as hrow
  subst hqv
  obtain ⟨c0, f0⟩ := cells_at (v := .slice qv L.length cv) (j := 0) hh rfl
  have hwb : ((k : Int) / 256 != last / 256) = true := by rw [bne_iff_ne]; omega
  have hu8 : IntKind.u8.wrap ((k : Int) / 256) = (((UInt8.ofNat (k / 256)).toNat : Nat) : Int) := wrapu8 _ _ (by omega)
  clear hw
  have HL : Hid (∀ (G : Prop) (v1 : Value) (w3 : World) (o : Obj), w3.ownsRow (d + 1) 5 1 v1 (L.length + 2) (Lib.byteCells L ++ [.int .u8 (((UInt8.ofNat (k / 256)).toNat : Nat) : Int), .int .u8 0]) → (W.alloc o).grownBy w3 (Value.slice qv L.length cv).ownBlock →
      (∀ q c, v1 = .slice q (L.length + 2) c → w3.cell? ⟨d, 0, none⟩ = some (.slice qv L.length cv) → w3.frozen? ⟨d, 0, none⟩ = false → Below d W w3 →
        (∀ u, (w3.setCell ⟨d, 0, none⟩ u).cell? ⟨d, 0, none⟩ = some u) → (∀ u, (w3.setCell ⟨d, 0, none⟩ u).cell? ⟨d, 1, none⟩ = some (.int .i64 (b : Int))) → (∀ u, (w3.setCell ⟨d, 0, none⟩ u).frozen? ⟨d, 1, none⟩ = false) →
        (∀ u x, ((w3.setCell ⟨d, 0, none⟩ u).setCell ⟨d, 1, none⟩ x).cell? ⟨d, 1, none⟩ = some x) → (∀ u x, ((w3.setCell ⟨d, 0, none⟩ u).setCell ⟨d, 1, none⟩ x).heap[d]? = some (.cells #[u, x, .int .i64 last] 182 (0, 0))) → G) → G) := by
    intro G v1 w3 o ho hg hG
    obtain ⟨q, c, hv⟩ := row_as ho
    have hne : some d ≠ (Value.slice qv L.length cv).ownBlock := fun e => by have := rowBaseB hrow d e.symm; omega
    have h3 := (hg.block d (by simp; omega) hne).trans ((alloc_old _ _ _ hdl).trans hh)
    obtain ⟨e1, e2⟩ := cells_at (v := .slice qv L.length cv) (j := 0) h3 rfl
    have p1 := fun u => cells_put (j := 0) h3 u
    have p2 := fun u x => cells_put (j := 1) (p1 u) x
    exact hG q c hv e1 e2 (((Below.refl _ _).alloc (by omega) _).grown hg (by simp; omega) (fun k hk => by have := rowBaseB hrow k hk; omega)) (fun u => (cells_at (p1 u) rfl).1) (fun u => (cells_at (p1 u) rfl).1) (fun u => (cells_at (v := .int .i64 (b : Int)) (p1 u) rfl).2) (fun u x => (cells_at (p2 u x) rfl).1) (fun u x => p2 u x)
  go_enter Tryz.func207, Tryz.ntmps207
  go_wp2_with fail
  refine (isType_in k _).mono ?_
  rintro e w1 ⟨rfl, rfl⟩
  rw [hd]
  go_wp2_with fail
  refine (must_yes _).mono ?_
  rintro e w2 ⟨rfl, rfl⟩
  have hrwA : ∀ o, (w2.alloc o).ownsRow (d + 1) 5 1 (.slice qv L.length cv) L.length (Lib.byteCells L) := fun o => row_alloc hrow o
  have HHH := Hid.mk hh
  clear hrow hh
  go_wp2_with (at_builtin; refine wpList_append_own _ rfl _ _ 50 rfl (d + 1) 5 i0 (.int .u8 0) 1 1 Tryz.underlying50 hi hz0 hz1 hz2 rfl (by decide) _ _ _ rfl (hrwA _) ⟨w2.heap.size, 0, none⟩ 2 2 [.int .u8 (((UInt8.ofNat (k / 256)).toNat : Nat) : Int), .int .u8 0] rfl rfl (fun j u hj => cells_new1 _ _ _ j u hj) (by simp [Value.oneCell']) (by unfold maxLen; omega) (by omega) (by simp; omega) ?_; intro v1 w3 hown3 hgrow3 _; refine HL.out _ v1 w3 _ hown3 hgrow3 ?_; intro q3 cc3 hv3 c03 f03 hb3 g1 g2 g3 g4 g5; subst hv3)
  rw [HCA.out, HAi.out]
  obtain ⟨W2, hW2⟩ : ∃ W2, W2 = ((w3.setCell ⟨d, 0, none⟩ (.slice q3 (L.length + 2) cc3)).setCell ⟨d, 1, none⟩ (.int .i64 (b1 : Int))) := ⟨_, rfl⟩
  rw [← hW2]
  have HTL2 : Hid (TL W2 d L1 b1 last) := by
    refine ⟨.slice q3 (L.length + 2) cc3, by rw [hW2]; exact g5 _ _, ?_⟩
    rw [hW2, HL1L.out, ← HL1.out]
    have hx := ownsRow_setCell_below (ownsRow_setCell_below hown3 (a := ⟨d, 0, none⟩) (Nat.lt_succ_self d) (.slice q3 (L.length + 2) cc3)) (a := ⟨d, 1, none⟩) (Nat.lt_succ_self d) (.int .i64 (b1 : Int))
    rw [byteCells_snoc, ← HB1E.out]
    rw [← HB1E.out] at hx
    exact hx
  have HB2 : Hid (Below d w2 W2) := by
    rw [Hid, hW2]
    exact (hb3.setCell (p := ⟨d, 0, none⟩) (Nat.le_refl _) _).setCell (p := ⟨d, 1, none⟩) (Nat.le_refl _) _
  have hdl2 : d < W2.heap.size := Nat.lt_of_lt_of_le hdl HB2.out.size
  clear hown3 hgrow3 HL hrwA HHH hW2 c0 f0 c2 c03 f03 hb3 g1 g2 g3 g4 g5 hu8
  go_loopw [] (fun wr => ∃ n : Nat, L1.length + n ≤ 10100 ∧ (n = 0 ∨ L1.length + n ≤ A + 1) ∧ TL wr d (L1 ++ List.replicate n 0) b1 last ∧ Below d W2 wr ∧ d < wr.heap.size) (fun wr => A + 1 - slLen (wr.cell? ⟨d, 0, none⟩))
  case atStart => exact ⟨0, by omega, .inl rfl, by simpa using HTL2.out, Below.refl _ _, hdl2⟩
  case round =>
    obtain ⟨n, hn, hn2, ⟨v, hh, hrow⟩, hbl, hdr⟩ := hrel
    obtain ⟨qw, cw, hqw⟩ := row_as hrow
    subst hqw
    have hlen : (L1 ++ List.replicate n 0).length = L1.length + n := by simp
    rw [hlen] at hh hrow
    obtain ⟨c0, f0⟩ := cells_at (v := .slice qw (L1.length + n) cw) (j := 0) hh rfl
    by_cases hlt : L1.length + n ≤ A
    · have HL : Hid (∀ (G : Prop) (v1 : Value) (w3 : World), w3.ownsRow (d + 1) 5 1 v1 (L1.length + n + 1) (Lib.byteCells (L1 ++ List.replicate n 0) ++ [.int .u8 0]) → (wr.alloc (.cells #[.int .u8 0] 5)).grownBy w3 (Value.slice qw (L1.length + n) cw).ownBlock →
          (∀ q c, v1 = .slice q (L1.length + n + 1) c → w3.heap[d]? = some (.cells #[.slice qw (L1.length + n) cw, .int .i64 (b1 : Int), .int .i64 last] 182 (0, 0)) → w3.cell? ⟨d, 0, none⟩ = some (.slice qw (L1.length + n) cw) → w3.frozen? ⟨d, 0, none⟩ = false → Below d W2 w3 → G) → G) := by
        intro G v1 w3 ho hg hG
        obtain ⟨q, c, hv⟩ := row_as ho
        have hne : some d ≠ (Value.slice qw (L1.length + n) cw).ownBlock := fun e => by have := rowBaseB hrow d e.symm; omega
        have h3 := (hg.block d (by simp; omega) hne).trans ((alloc_old _ _ _ hdr).trans hh)
        obtain ⟨e1, e2⟩ := cells_at (v := .slice qw (L1.length + n) cw) (j := 0) h3 rfl
        exact hG q c hv h3 e1 e2 ((hbl.alloc (by omega) _).grown hg (by simp; omega) (fun k hk => by have := rowBaseB hrow k hk; omega))
      go_wp2_with (at_builtin; refine wpList_append_own _ rfl _ _ 50 rfl (d + 1) 5 i0 (.int .u8 0) 1 1 Tryz.underlying50 hi hz0 hz1 hz2 rfl (by decide) _ _ _ rfl (row_alloc hrow _) ⟨wr.heap.size, 0, none⟩ 1 1 [.int .u8 0] rfl rfl (cell_one_new _ _ _) (by simp [Value.oneCell']) (by unfold maxLen; omega) (by omega) (by simp; omega) ?_; intro v1 w3 hown3 hgrow3 _; refine HL.out _ v1 w3 hown3 hgrow3 ?_; intro q3 cc3 hv3 hh3 c03 f03 hb3; subst hv3)
      have HST := Hid.mk (cells_put (j := 0) hh3 (.slice q3 (L1.length + n + 1) cc3))
      have HSZ : Hid (d < w3.heap.size) := Nat.lt_of_lt_of_le hdl2 hb3.size
      have HRR : Hid (w3.ownsRow (d + 1) 5 1 (.slice q3 (L1.length + n + 1) cc3) (L1 ++ List.replicate (n + 1) 0).length (Lib.byteCells (L1 ++ List.replicate (n + 1) 0))) := by
        have e1 : L1 ++ List.replicate (n + 1) (0 : UInt8) = (L1 ++ List.replicate n 0) ++ [0] := by rw [List.replicate_succ', List.append_assoc]
        have e2 : ((L1 ++ List.replicate n (0 : UInt8)) ++ [0]).length = L1.length + n + 1 := by simp; omega
        rw [Hid, e1, byteCells_snoc, e2]
        exact hown3
      have HM1 : Hid (slLen (wr.cell? ⟨d, 0, none⟩) = L1.length + n) := by rw [Hid, c0]; rfl
      clear hown3 hgrow3 HL hrow
      have HLT : Hid (A + 1 - slLen ((w3.setCell ⟨d, 0, none⟩ (.slice q3 (L1.length + n + 1) cc3)).cell? ⟨d, 0, none⟩) < A + 1 - slLen (wr.cell? ⟨d, 0, none⟩)) := by
        rw [Hid, HM1.out, (cells_at (v := .slice q3 (L1.length + n + 1) cc3) (j := 0) HST.out rfl).1]
        simp only [slLen]
        omega
      have hrelN : ∃ n' : Nat, L1.length + n' ≤ 10100 ∧ (n' = 0 ∨ L1.length + n' ≤ A + 1) ∧ TL (w3.setCell ⟨d, 0, none⟩ (.slice q3 (L1.length + n + 1) cc3)) d (L1 ++ List.replicate n' 0) b1 last ∧ Below d W2 (w3.setCell ⟨d, 0, none⟩ (.slice q3 (L1.length + n + 1) cc3)) ∧ d < (w3.setCell ⟨d, 0, none⟩ (.slice q3 (L1.length + n + 1) cc3)).heap.size :=
        ⟨n + 1, by omega, .inr (by omega), ⟨_, HST.out, ownsRow_setCell_below HRR.out (a := ⟨d, 0, none⟩) (Nat.lt_succ_self d) _⟩, hb3.setCell (p := ⟨d, 0, none⟩) (Nat.le_refl _) _, by simp [World.setCell]; exact HSZ.out⟩
      go_wp2
      go_roundw
      case rel => exact hrelN
      case measure => exact HLT.out
    · have hn3 : n = A + 1 - L1.length := by omega
      have hAl : A < (L1 ++ List.replicate n 0).length := by rw [hlen]; omega
      obtain ⟨g, cap, hgc⟩ := row_form hrow (by omega)
      cases hgc
      have HTL : Hid (addTail L1 b1 k = (((L1 ++ List.replicate n 0).set A (UInt8.ofNat ((L1 ++ List.replicate n (0 : UInt8))[A].toNat ||| 2 ^ (7 - k % 8)))).set (b1 - 1) (UInt8.ofNat (L1.length + n - b1)))) := by
        rw [Hid, addTail, ← HA.out, ← hn3, List.length_set, hlen, List.getD_eq_getElem?_getD, List.getElem?_eq_getElem hAl]
        rfl
      have hAc := byte_cell hrow A hAl
      obtain ⟨hAf, hgl, hgb⟩ := row_frozen (j := A) hrow (by omega)
      have hx := (L1 ++ List.replicate n (0 : UInt8))[A].toNat_lt
      have hst1 := row_store (j := A) hrow (by omega) (.int .u8 (((UInt8.ofNat ((L1 ++ List.replicate n (0 : UInt8))[A].toNat ||| 2 ^ (7 - k % 8))).toNat : Nat) : Int))
      rw [byteCells_set] at hst1
      have hor := or_u8 (L1 ++ List.replicate n (0 : UInt8))[A].toNat (2 ^ (7 - k % 8)) (by omega) (pow_lt8 k)
      have hAi0 : (0 : Int) ≤ (A : Int) := by omega
      have hAi1 : (A : Int) < ((L1.length + n : Nat) : Int) := by omega
      have hdg : d ≠ g := by omega
      have hor3 : Go.bits BinOp.or IntKind.u8 ((L1 ++ List.replicate n (0 : UInt8))[A].toNat : Int) (2 ^ (7 - k % 8) % 256) = (((UInt8.ofNat ((L1 ++ List.replicate n (0 : UInt8))[A].toNat ||| 2 ^ (7 - k % 8))).toNat : Nat) : Int) := by
        have e : ((2 : Int) ^ (7 - k % 8) % 256) = ((2 ^ (7 - k % 8) : Nat) : Int) := by
          have hpw := pow_lt8 k
          have e2 : (2 : Int) ^ (7 - k % 8) = ((2 ^ (7 - k % 8) : Nat) : Int) := by push_cast; rfl
          rw [e2]
          generalize 2 ^ (7 - k % 8) = q at hpw
          omega
        rw [e]
        exact hor
      have hr0 : (0 : Int) ≤ 7 - (k : Int).tmod 8 := by rw [Int.tmod_eq_emod_of_nonneg (by omega)]; omega
      clear hlen hor
      generalize (L1 ++ List.replicate n (0 : UInt8))[A].toNat = x at hAc hx hst1 hor3 HTL
      generalize L1 ++ List.replicate n (0 : UInt8) = L2 at hst1 hrow hAl HTL
      have HST1 := Hid.mk hst1
      have HRW := Hid.mk hrow
      clear hst1 hrow hn2 hn3 hlt
      go_wp2
      have HOR := Hid.mk hor3
      clear hor3
      go_region
      rw [HOR.out]
      obtain ⟨y, hy⟩ : ∃ y, (UInt8.ofNat (x ||| 2 ^ (7 - k % 8))) = y := ⟨_, rfl⟩
      rw [hy] at HST1 HTL ⊢
      obtain ⟨W5, hW5⟩ : ∃ W5, W5 = (wr.setCell ⟨g, A, none⟩ (.int .u8 (y.toNat : Int))).drew := ⟨_, rfl⟩
      rw [← hW5]
      have hh5 : W5.heap[d]? = some (.cells #[.slice (some ⟨g, 0, none⟩) (L1.length + n) cw, .int .i64 (b1 : Int), .int .i64 last] 182 (0, 0)) := by
        rw [hW5]
        exact (Below.heap_setCell wr ⟨g, A, none⟩ _ d hdg).trans hh
      have hrow5 : W5.ownsRow (d + 1) 5 1 (.slice (some ⟨g, 0, none⟩) (L1.length + n) cw) (L1.length + n) (Lib.byteCells (L2.set A y)) := by rw [hW5]; exact HST1.out
      have hbl5 : Below d W2 W5 := by rw [hW5]; exact (hbl.setCell (p := ⟨g, A, none⟩) (by simp; omega) _).drew
      obtain ⟨e0, _⟩ := cells_at (v := .slice (some ⟨g, 0, none⟩) (L1.length + n) cw) (j := 0) hh5 rfl
      obtain ⟨e1, _⟩ := cells_at (v := .int .i64 (b1 : Int)) (j := 1) hh5 rfl
      obtain ⟨e2, f2⟩ := cells_at (v := .int .i64 last) (j := 2) hh5 rfl
      have hL2 : (L2.set A y).length = L1.length + n := by
        have := hrow5.1
        simpa [Lib.byteCells] using this
      have hbc := byte_cell hrow5 (b1 - 1) (by omega)
      obtain ⟨hbf, _, _⟩ := row_frozen (j := b1 - 1) hrow5 (by omega)
      have hst2 := row_store (j := b1 - 1) hrow5 (by omega) (.int .u8 (((UInt8.ofNat (L1.length + n - b1)).toNat : Nat) : Int))
      rw [byteCells_set] at hst2
      have HST2 := Hid.mk hst2
      have HH5 := Hid.mk hh5
      have HL2 := Hid.mk hL2
      have hbi : ((b1 : Int) - 1) = ((b1 - 1 : Nat) : Int) := by omega
      have hbi0 : (0 : Int) ≤ (b1 : Int) - 1 := by omega
      have hbi1 : (b1 : Int) - 1 < ((L1.length + n : Nat) : Int) := by omega
      have hcvb : IntKind.u8.wrap (((L1.length + n : Nat) : Int) - (b1 : Int)) = (((UInt8.ofNat (L1.length + n - b1)).toNat : Nat) : Int) := wrapu8 _ _ (by omega)
      generalize (L2.set A y)[b1 - 1]'(by omega) = z at hbc
      clear hst2 hrow5 hh5 hL2 HST1 HRW HOR hW5 hh hAc hAf c0 f0
      have HVL : Hid (((L1.length : Int) + (n : Int) - (b1 : Int)) % 256 = (((UInt8.ofNat (L1.length + n - b1)).toNat : Nat) : Int)) := by
        rw [Hid, UInt8.toNat_ofNat']
        omega
      go_wp2
      go_region
      rw [HVL.out]
      obtain ⟨W6, hW6⟩ : ∃ W6, W6 = (W5.setCell ⟨g, b1 - 1, none⟩ (.int .u8 (((UInt8.ofNat (L1.length + n - b1)).toNat : Nat) : Int))).drew := ⟨_, rfl⟩
      rw [← hW6]
      have hh6 : W6.heap[d]? = some (.cells #[.slice (some ⟨g, 0, none⟩) (L1.length + n) cw, .int .i64 (b1 : Int), .int .i64 last] 182 (0, 0)) := by
        rw [hW6]
        exact (Below.heap_setCell W5 ⟨g, b1 - 1, none⟩ _ d hdg).trans HH5.out
      have hrow6 : W6.ownsRow (d + 1) 5 1 (.slice (some ⟨g, 0, none⟩) (L1.length + n) cw) (addTail L1 b1 k).length (Lib.byteCells (addTail L1 b1 k)) := by
        rw [HTL.out, List.length_set, HL2.out, hW6]
        exact HST2.out
      have hbl6 : Below d W2 W6 := by rw [hW6]; exact (hbl5.setCell (p := ⟨g, b1 - 1, none⟩) (by simp; omega) _).drew
      have hlt6 : (addTail L1 b1 k).length = L1.length + n := by rw [HTL.out, List.length_set, HL2.out]
      obtain ⟨c62, f62⟩ := cells_at (v := .int .i64 last) (j := 2) hh6 rfl
      have HP6 := Hid.mk (cells_put (j := 2) hh6 (.int .i64 (k : Int)))
      have HR6 := Hid.mk hrow6
      have HT6 := Hid.mk hlt6
      clear hrow6 hh6 hW6 hlt6 HTL e0 e1 e2 f2 hbc hbf
      go_wp2
      refine bodyPost_end (results_none rfl _ _ _) rfl ⟨rfl, ⟨_, HP6.out, ?_⟩, HB2.out.trans (hbl6.setCell (p := ⟨d, 2, none⟩) (Nat.le_refl _) _)⟩
      exact ownsRow_setCell_below HR6.out (a := ⟨d, 2, none⟩) (Nat.lt_succ_self d) _
end Go.Proofs.YtaiakpigljcjbaaGreatDoor

/- bytesOfTypes: a list of types as bytes. -/
namespace Go.Proofs.YtaiakpigljcjbaaGreatDoor
set_option linter.unusedVariables false
open Go.RowKit

theorem addTail_eq (p0 bs : List UInt8) (c0 : UInt8) (b k : Nat) (hb : b = p0.length + 1) : addTail (p0 ++ c0 :: bs) b k = p0 ++ UInt8.ofNat (setB bs (k % 256)).length :: setB bs (k % 256) := by
  subst hb
  have hm : k % 256 % 8 = k % 8 := by omega
  have e2 : (p0 ++ c0 :: bs) ++ List.replicate (p0.length + 1 + k % 256 / 8 + 1 - (p0 ++ c0 :: bs).length) (0 : UInt8) = p0 ++ c0 :: padB bs (k % 256) := by
    rw [padB, List.append_assoc, List.cons_append, List.length_append, List.length_cons]
    rw [show p0.length + 1 + k % 256 / 8 + 1 - (p0.length + (bs.length + 1)) = k % 256 / 8 + 1 - bs.length by omega]
  have e3 : (p0 ++ c0 :: padB bs (k % 256)).getD (p0.length + 1 + k % 256 / 8) 0 = bs.getD (k % 256 / 8) 0 := by
    rw [← padB_get bs (k % 256) (k % 256 / 8), List.getD_eq_getElem?_getD, List.getD_eq_getElem?_getD, List.getElem?_append_right (by omega), show p0.length + 1 + k % 256 / 8 - p0.length = k % 256 / 8 + 1 by omega, List.getElem?_cons_succ]
  have e4 : (p0 ++ c0 :: padB bs (k % 256)).set (p0.length + 1 + k % 256 / 8) (UInt8.ofNat ((bs.getD (k % 256 / 8) 0).toNat ||| 2 ^ (7 - k % 8))) = p0 ++ c0 :: setB bs (k % 256) := by
    rw [List.set_append_right _ _ (by omega), show p0.length + 1 + k % 256 / 8 - p0.length = k % 256 / 8 + 1 by omega, List.set_cons_succ, setB, hm]
  unfold addTail
  simp only
  rw [e2, e3, e4, show p0.length + 1 - 1 = p0.length by omega, List.set_append_right _ _ (Nat.le_refl _), Nat.sub_self, List.set_cons_zero]
  rw [show (p0 ++ c0 :: setB bs (k % 256)).length - (p0.length + 1) = (setB bs (k % 256)).length by simp; omega]

/-- the list in the making is that of these windows. -/
structure Enc (ws : List Win) (L : List UInt8) (b : Nat) (last : Int) : Prop where
  bytes : L = encW ws
  ok : OkW (-1) ws
  low : -1 ≤ last
  high : last ≤ 65535
  le : ∀ x ∈ tysW ws, (x : Int) ≤ last
  none : ws = [] → last = -1
  some : ∀ r p, ws = r ++ [p] → b = (encW r).length + 2 ∧ ((p.1 : Nat) : Int) = last / 256
theorem Enc.nil : Enc [] [] 0 (-1) := ⟨rfl, trivial, by omega, by omega, by simp [tysW], fun _ => rfl, fun r p h => by simp at h⟩
theorem encW_snoc (r : List Win) (p : Win) : encW (r ++ [p]) = encW r ++ UInt8.ofNat p.1 :: UInt8.ofNat p.2.length :: p.2 := by rw [encW_app]; simp [encW]
theorem encW_len : ∀ (ws : List Win) (last : Int), OkW last ws → -1 ≤ last → last ≤ 255 → ((encW ws).length : Int) ≤ 34 * (255 - last)
  | [], last, _, h, h' => by simp [encW]; omega
  | p :: r, last, ⟨h1, h2, h3, h4, h5⟩, hl, _ => by
    have := encW_len r p.1 h5 (by omega) (by omega)
    simp [encW]
    omega
theorem Enc.len {ws : List Win} {L : List UInt8} {b : Nat} {last : Int} (h : Enc ws L b last) : L.length ≤ 8704 := by
  have := encW_len ws (-1) h.ok (by omega) (by omega)
  rw [h.bytes]
  omega
theorem Enc.next {ws : List Win} {L : List UInt8} {b : Nat} {last : Int} (h : Enc ws L b last) (k : Nat) (hk : k ≤ 65535) (hl : last < (k : Int)) (b' : Nat) (hb : ∀ r p, addT ws k = r ++ [p] → b' = (encW r).length + 2 ∧ p.1 = k / 256) (L' : List UInt8) (hL : L' = encW (addT ws k)) : Enc (addT ws k) L' b' k := by
  obtain ⟨a1, a2⟩ := addT_ok ws k hk h.ok (fun x hx => by have := h.le x hx; omega)
  refine ⟨hL, a1, by omega, by omega, fun x hx => ?_, fun e => ?_, fun r p e => ?_⟩
  · rw [a2, List.mem_append] at hx
    rcases hx with hx | hx
    · have := h.le x hx; omega
    · simp only [List.mem_singleton] at hx; omega
  · rw [e] at a2
    have := congrArg List.length a2
    simp [tysW] at this
  · obtain ⟨c1, c2⟩ := hb r p e
    exact ⟨c1, by rw [c2]; omega⟩
theorem snoc_inj {r r' : List Win} {p p' : Win} (h : r ++ [p] = r' ++ [p']) : r = r' ∧ p = p' := by
  have := List.append_inj' h rfl
  exact ⟨this.1, by simpa using this.2⟩
theorem Enc.same {ws : List Win} {L : List UInt8} {b : Nat} {last : Int} (h : Enc ws L b last) (k : Nat) (hk : k ≤ 65535) (hl : last < (k : Int)) (hw : ((k / 256 : Nat) : Int) = last / 256) : 1 ≤ b ∧ b ≤ L.length ∧ Enc (addT ws k) (addTail L b k) b k := by
  have hlow := h.low
  rcases List.eq_nil_or_concat ws with rfl | ⟨r, p, rfl⟩
  · have := h.none rfl
    omega
  · rw [List.concat_eq_append] at h ⊢
    obtain ⟨hb, hp⟩ := h.some r p rfl
    have hL := h.bytes
    rw [encW_snoc] at hL
    have hpk : p.1 = k / 256 := by omega
    have ha : addT (r ++ [p]) k = r ++ [(p.1, setB p.2 (k % 256))] := by
      unfold addT
      rw [List.getLast?_concat]
      simp only
      rw [if_pos hpk, List.dropLast_concat]
    refine ⟨by omega, by rw [hL, hb]; simp, h.next k hk hl b (fun r' p' e => ?_) _ ?_⟩
    · rw [ha] at e
      obtain ⟨rfl, rfl⟩ := snoc_inj e
      exact ⟨hb, hpk⟩
    · rw [ha, encW_snoc, hL]
      have := addTail_eq (encW r ++ [UInt8.ofNat p.1]) p.2 (UInt8.ofNat p.2.length) b k (by rw [hb]; simp)
      simp only [List.append_assoc, List.cons_append, List.nil_append] at this ⊢
      exact this
theorem Enc.new {ws : List Win} {L : List UInt8} {b : Nat} {last : Int} (h : Enc ws L b last) (k : Nat) (hk : k ≤ 65535) (hl : last < (k : Int)) (hw : ¬ ((k / 256 : Nat) : Int) = last / 256) : Enc (addT ws k) (addTail (L ++ [UInt8.ofNat (k / 256), 0]) (L.length + 2) k) (L.length + 2) k := by
  have ha : addT ws k = ws ++ [(k / 256, setB [] (k % 256))] := by
    rcases List.eq_nil_or_concat ws with rfl | ⟨r, p, rfl⟩
    · rfl
    · rw [List.concat_eq_append] at h ⊢
      obtain ⟨hb, hp⟩ := h.some r p rfl
      unfold addT
      rw [List.getLast?_concat]
      simp only
      rw [if_neg (by omega)]
  refine h.next k hk hl _ (fun r' p' e => ?_) _ ?_
  · rw [ha] at e
    obtain ⟨rfl, rfl⟩ := snoc_inj e
    exact ⟨by rw [h.bytes], rfl⟩
  · rw [ha, encW_snoc, ← h.bytes]
    have := addTail_eq (L ++ [UInt8.ofNat (k / 256)]) [] 0 (L.length + 2) k (by simp)
    simp only [List.append_assoc, List.cons_append, List.nil_append] at this ⊢
    exact this

theorem add_enc (W : World) (d : Nat) (ws : List Win) (L : List UInt8) (b : Nat) (last : Int) (k : Nat) (h : TL W d L b last) (he : Enc ws L b last) (hk : k ≤ 65535) (hl : last < (k : Int)) :
    Calls Tryz.prog 207 #[boxV d, .int .i64 (k : Int)] W fun e w' => e = .returned (.tuple #[]) ∧ (∃ L' b', TL w' d L' b' k ∧ Enc (addT ws k) L' b' k) ∧ Below d W w' := by
  have hlen := he.len
  by_cases hw : ((k / 256 : Nat) : Int) = last / 256
  · obtain ⟨h1, h2, h3⟩ := he.same k hk hl hw
    refine (add_same W d L b last k h hk hl (by omega) h1 h2 hw he.low).mono ?_
    rintro e w' ⟨rfl, ht, hb⟩
    exact ⟨rfl, ⟨_, _, ht, h3⟩, hb⟩
  · refine (add_new W d L b last k h hk hl (by omega) hw he.low).mono ?_
    rintro e w' ⟨rfl, ht, hb⟩
    exact ⟨rfl, ⟨_, _, ht, he.new k hk hl hw⟩, hb⟩

/-- the windows of a list of types; none: they do not rise, or are none. -/
def encGo : List Win → Int → List Int → Option (List Win)
  | ws, _, [] => some ws
  | ws, last, k :: r => if (0 ≤ k ∧ k ≤ 65535) ∧ last < k then encGo (addT ws k.toNat) k r else none
def encR (l : List Int) : Option (List UInt8) := (encGo [] (-1) l).map encW
theorem encGo_rise : ∀ (l : List Nat) (ws : List Win) (last : Int), Rise last l → encGo ws last (l.map fun n => ((n : Nat) : Int)) = some (l.foldl addT ws)
  | [], _, _, _ => rfl
  | k :: r, ws, last, ⟨h1, h2, h3⟩ => by
    rw [List.map_cons, encGo, if_pos ⟨⟨by omega, by omega⟩, h1⟩, Int.toNat_natCast, encGo_rise r _ _ h3, List.foldl_cons]
theorem encR_rise {l : List Nat} (h : Rise (-1) l) : encR (l.map fun n => ((n : Nat) : Int)) = some (encT l) := by
  rw [encR, encGo_rise l [] (-1) h]
  rfl

def IntsAt (W : World) (v : Value) (l : List Int) : Prop := ∃ q c, v = .slice q l.length c ∧ ∀ j (h : j < l.length), ∃ g, q = some ⟨g, 0, none⟩ ∧ g < W.heap.size ∧ W.cell? ⟨g, j, none⟩ = some (.int .i64 l[j])
def TbPost (R : Option (List UInt8)) (W : World) (e : Ending) (w' : World) : Prop := (match R with
  | some l => e = .returned (.string ⟨l.toArray⟩)
  | none => e = .panicked mustV) ∧ Below W.heap.size W w'

end Go.Proofs.YtaiakpigljcjbaaGreatDoor

/- NSEC: taken apart, and put together. -/
namespace Go.Proofs.YtaiakpigljcjbaaGreatDoor
set_option linter.unusedVariables false
open Go.RowKit

theorem IntsAt.below {W W' : World} {v : Value} {l : List Int} (h : IntsAt W v l) (hb : Below W.heap.size W W') : IntsAt W' v l := by
  obtain ⟨q, c, hv, hc⟩ := h
  refine ⟨q, c, hv, fun j hj => ?_⟩
  obtain ⟨g, hq, hg, hx⟩ := hc j hj
  exact ⟨g, hq, Nat.lt_of_lt_of_le hg hb.size, (hb.cell (p := ⟨g, j, none⟩) hg).trans hx⟩
theorem ints_of_row {W : World} {n₀ : Nat} {v : Value} {l : List Nat} (h : W.ownsRow n₀ 3 1 v l.length (intsV l)) : IntsAt W v (l.map fun n => ((n : Nat) : Int)) := by
  obtain ⟨q, c, rfl⟩ := row_as h
  refine ⟨q, c, by simp, fun j hj => ?_⟩
  rw [List.length_map] at hj
  rcases h.2 with ⟨_, h0⟩ | ⟨g, cap, cur, hv, _, hg, _, _, _, ht⟩
  · omega
  · cases hv
    refine ⟨g, rfl, box_lt hg, ?_⟩
    have := Lib.cells_of_row (w := W) hg l.length j (.int .i64 ((l[j] : Nat) : Int)) (by rw [Nat.mul_one] at ht; rw [ht]; simp [intsV, hj])
    rw [add_at] at this
    simpa using this
theorem encGo_ok : ∀ (l : List Int) (ws ws' : List Win) (last : Int), OkW (-1) ws → (∀ x ∈ tysW ws, (x : Int) ≤ last) → encGo ws last l = some ws' → OkW (-1) ws'
  | [], ws, ws', last, h, _, e => by cases e; exact h
  | k :: r, ws, ws', last, h, hl, e => by
    rw [encGo] at e
    split at e
    · rename_i hk
      obtain ⟨a1, a2⟩ := addT_ok ws k.toNat (by omega) h (fun x hx => by have := hl x hx; omega)
      refine encGo_ok r _ ws' k a1 (fun x hx => ?_) e
      rw [a2, List.mem_append] at hx
      rcases hx with hx | hx
      · have := hl x hx; omega
      · simp only [List.mem_singleton] at hx; omega
    · cases e
theorem encR_len {l : List Int} {bs : List UInt8} (h : encR l = some bs) : bs.length ≤ 8704 := by
  rw [encR, Option.map_eq_some_iff] at h
  obtain ⟨ws, hw, rfl⟩ := h
  have := encW_len ws (-1) (encGo_ok l [] ws (-1) trivial (by simp [tysW]) hw) (by omega) (by omega)
  omega

def TakeNsec (d : ByteArray) (W : World) (v : Value) (er : Int) : Prop := ∃ (nx : ByteArray) (v' : Value) (l : List Int) (bs : List UInt8), v = .agg #[.string nx, v'] ∧ IntsAt W v' l ∧ nx.size ≤ 2000 ∧ l.length ≤ 1000000 ∧ encR l = some bs ∧ (er = 0 → joinR 47 (some [nx, ⟨bs.toArray⟩]) = some d) ∧ (er = 0 ∨ (er = 6 ∧ splitR 47 d = none ∧ v = .agg #[.string ⟨#[]⟩, .slice none 0 0])) ∧ (er = 0 → ∃ tl : List Nat, l = tl.map (fun n => ((n : Nat) : Int)) ∧ typesR ⟨bs.toArray⟩ = some tl)
theorem rise_len : ∀ (l : List Nat) (last : Int), Rise last l → (l.length : Int) ≤ 65535 - last ∨ l = []
  | [], _, _ => .inr rfl
  | k :: r, last, ⟨h1, h2, h3⟩ => by
    left
    rcases rise_len r k h3 with h | rfl
    · simp; omega
    · simp; omega

set_option maxRecDepth 100000 in
set_option maxHeartbeats 4000000 in
theorem takeNsec_in (d : ByteArray) (hm : d.size ≤ maxLen) (W : World) :
    Calls Tryz.prog 67 #[.string d] W fun e w' => (∃ v er, e = .returned (.tuple #[v, .int .i64 er]) ∧ TakeNsec d w' v er) ∧ Below W.heap.size W w' := by
  have HS := Hid.mk (split_all 47 d hm)
  have hmo : Tryz.prog.follows Departure.mixedOrders = true := by kernel_rfl
  cases hsp : splitR 47 d with
  | none =>
    rw [hsp] at HS
    have HSP := Hid.mk hsp
    clear hsp
    go_enter Tryz.func67, Tryz.ntmps67
    go_wp2_with fail
    refine (HS.out _).mono ?_
    rintro e w1 ⟨rfl, hb1⟩
    have hbx := (hb1.block _ (by simp)).trans (heap_new W (.cells #[.string ⟨#[]⟩, .slice none 0 0] 90))
    obtain ⟨a0, f0⟩ := cells_at (v := .string ⟨#[]⟩) (j := 0) hbx rfl
    obtain ⟨a1, f1⟩ := cells_at (v := .slice none 0 0) (j := 1) hbx rfl
    have HBX := Hid.mk hbx
    clear hbx
    go_wp2
    have hfin : ((w1.setCell ⟨W.heap.size, 0, none⟩ (.string ⟨#[]⟩)).setCell ⟨W.heap.size, 1, none⟩ (.slice none 0 0)).heap[W.heap.size]? = some (.cells #[.string ⟨#[]⟩, .slice none 0 0] 90 (0, 0)) := cells_put (j := 1) (cells_put (j := 0) HBX.out (.string ⟨#[]⟩)) (.slice none 0 0)
    refine bodyPost_ret (v := .tuple #[.agg #[.string ⟨#[]⟩, .slice none 0 0], .int .i64 6]) (by simp [results, Tryz.results67, go_sem, (cells_at (v := .string ⟨#[]⟩) (j := 0) hfin rfl).1, (cells_at (v := .slice none 0 0) (j := 1) hfin rfl).1]) rfl ⟨⟨_, _, rfl, ⟨#[]⟩, .slice none 0 0, [], [], rfl, ⟨none, 0, rfl, fun j hj => by simp at hj⟩, by decide, by simp, rfl, (fun h => by cases h), .inr ⟨rfl, HSP.out, rfl⟩, fun h => by cases h⟩, ?_⟩
    exact ((((Below.refl _ _).alloc (Nat.le_refl _) _).trans (hb1.mono (by simp))).setCell (p := ⟨W.heap.size, 0, none⟩) (Nat.le_refl _) _).setCell (p := ⟨W.heap.size, 1, none⟩) (Nat.le_refl _) _
  | some ps =>
    obtain ⟨p0, p1, hps⟩ : ∃ p0 p1, ps = [p0, p1] := by
      have hl := ((split_iff 47 d ps).1 hsp).2.2.2.len
      match ps, hl with
      | [p0, p1], _ => exact ⟨_, _, rfl⟩
    subst hps
    obtain ⟨hk, hs, hd, hg⟩ := (split_iff 47 d _).1 hsp
    have hg' : IsName p0 ∧ (typesR p1).isSome = true ∧ True := hg
    obtain ⟨tl, htl⟩ := Option.isSome_iff_exists.1 hg'.2.1
    obtain ⟨hrise, hp1⟩ := typesR_back htl
    have hcs : p0.size + p1.size ≤ 2000 := by
      rw [hd] at hs
      simp only [cat, app_size] at hs
      have : (⟨#[]⟩ : ByteArray).size = 0 := rfl
      omega
    have hrl : tl.length ≤ 1000000 := by
      rcases rise_len tl (-1) hrise with h | rfl
      · omega
      · simp
    have HTK : Hid (encR (tl.map fun n => ((n : Nat) : Int)) = some (encT tl) ∧ joinR 47 (some [p0, ⟨(encT tl).toArray⟩]) = some d ∧ typesR ⟨(encT tl).toArray⟩ = some tl) := by
      refine ⟨encR_rise hrise, ?_, by rw [← hp1]; exact htl⟩
      rw [← hp1, joinR, ← hd, hsp]
      exact if_pos rfl
    have HTY := Hid.mk (fun w => typesOf_in w p1 (by omega))
    rw [htl] at HTY
    rw [hsp] at HS
    clear hsp hg hg' hp1 htl hd hs hrise
    go_enter Tryz.func67, Tryz.ntmps67
    go_wp2_with fail
    refine (HS.out _).mono ?_
    rintro e w1 ⟨⟨v, rfl, hrow⟩, hb1⟩
    obtain ⟨q, c, hv⟩ := row_as hrow
    subst hv
    obtain ⟨g, hq, hgl, _⟩ := row_cell hrow 0 (by simp)
    subst hq
    obtain ⟨_, _, hgb⟩ := row_frozen (j := 0) hrow (by simp)
    simp only [World.size_alloc] at hgb
    have hgne : g ≠ W.heap.size := by omega
    have hgne2 : W.heap.size ≠ g := by omega
    have r0 : w1.cell? ⟨g, 0, none⟩ = some (.string p0) := row_at hrow 0 p0 rfl
    have r1 : w1.cell? ⟨g, 1, none⟩ = some (.string p1) := row_at hrow 1 p1 rfl
    have hbx := (hb1.block _ (by simp)).trans (heap_new W (.cells #[.string ⟨#[]⟩, .slice none 0 0] 90))
    have HL : Hid (∀ (G : Prop) (v1 : Value) (x1 : World), x1.ownsRow w1.drew.heap.size 3 1 v1 tl.length (intsV tl) → Below w1.drew.heap.size w1.drew x1 →
        (∀ q1 c1, v1 = .slice q1 tl.length c1 → x1.cell? ⟨g, 0, none⟩ = some (.string p0) → x1.cell? ⟨g, 1, none⟩ = some (.string p1) → x1.heap[W.heap.size]? = some (.cells #[.string ⟨#[]⟩, .slice none 0 0] 90 (0, 0)) →
          x1.cell? ⟨W.heap.size, 0, none⟩ = some (.string ⟨#[]⟩) → x1.frozen? ⟨W.heap.size, 0, none⟩ = false → x1.cell? ⟨W.heap.size, 1, none⟩ = some (.slice none 0 0) → x1.frozen? ⟨W.heap.size, 1, none⟩ = false → Below w1.heap.size w1 x1 → G) → G) := by
      intro G v1 x1 hr hb hG
      obtain ⟨q1, c1, hv1⟩ := row_as hr
      have hb' : Below w1.heap.size w1 x1 := ⟨hb.os, hb.tape, hb.output, hb.size, hb.block⟩
      have hx1 := (hb'.block _ (box_lt hbx)).trans hbx
      obtain ⟨e0, e1⟩ := cells_at (v := .string ⟨#[]⟩) (j := 0) hx1 rfl
      obtain ⟨e2, e3⟩ := cells_at (v := .slice none 0 0) (j := 1) hx1 rfl
      exact hG q1 c1 hv1 ((hb'.cell (p := ⟨g, 0, none⟩) hgl).trans r0) ((hb'.cell (p := ⟨g, 1, none⟩) hgl).trans r1) hx1 e0 e1 e2 e3 hb'
    clear hrow hbx
    go_wp2
    go_region_held3 (fun w' => w'.cell? ⟨g, 0, none⟩ = some (.string p0) ∧ w'.cell? ⟨g, 1, none⟩ = some (.string p1)) (first | ((repeat' apply And.intro) <;> assumption) | go_keep)
      (first | (go_at_call 91; refine (HTY.out _).mono ?_; rintro e x1 ⟨⟨v1, rfl, hrow1⟩, y1⟩; refine HL.out _ v1 x1 hrow1 y1 ?_; intro q1 c1 hv1 s0 s1 hx1 b0 g0 b1 g1 hbb; subst hv1))
    go_wp2
    have hfin : ((x1.setCell ⟨W.heap.size, 0, none⟩ (.string p0)).setCell ⟨W.heap.size, 1, none⟩ (.slice q1 tl.length c1)).heap[W.heap.size]? = some (.cells #[.string p0, .slice q1 tl.length c1] 90 (0, 0)) := cells_put (j := 1) (cells_put (j := 0) hx1 (.string p0)) (.slice q1 tl.length c1)
    have hW1 : W.heap.size < w1.heap.size := by have := hb1.size; simp at this; omega
    have hin : IntsAt ((x1.setCell ⟨W.heap.size, 0, none⟩ (.string p0)).setCell ⟨W.heap.size, 1, none⟩ (.slice q1 tl.length c1)) (.slice q1 tl.length c1) (tl.map fun n => ((n : Nat) : Int)) := by
      have h1 := ownsRow_setCell_below (ownsRow_setCell_below hrow1 (a := ⟨W.heap.size, 0, none⟩) hW1 (.string p0)) (a := ⟨W.heap.size, 1, none⟩) hW1 (.slice q1 tl.length c1)
      exact ints_of_row (W := ((x1.setCell ⟨W.heap.size, 0, none⟩ (.string p0)).setCell ⟨W.heap.size, 1, none⟩ (.slice q1 tl.length c1))) h1
    refine bodyPost_ret (v := .tuple #[.agg #[.string p0, .slice q1 tl.length c1], .int .i64 0]) (by simp [results, Tryz.results67, go_sem, (cells_at (v := .string p0) (j := 0) hfin rfl).1, (cells_at (v := .slice q1 tl.length c1) (j := 1) hfin rfl).1]) rfl ⟨⟨_, _, rfl, p0, .slice q1 tl.length c1, _, _, rfl, hin, by omega, by simpa using hrl, HTK.out.1, fun _ => HTK.out.2.1, .inl rfl, fun _ => ⟨_, rfl, HTK.out.2.2⟩⟩, ?_⟩
    have hW2 : Below W.heap.size W x1 := (((Below.refl _ _).alloc (Nat.le_refl _) _).trans (hb1.mono (by simp))).trans (hbb.mono (by omega))
    exact (hW2.setCell (p := ⟨W.heap.size, 0, none⟩) (Nat.le_refl _) _).setCell (p := ⟨W.heap.size, 1, none⟩) (Nat.le_refl _) _
end Go.Proofs.YtaiakpigljcjbaaGreatDoor

/- Types in memory: has, delegated, lack. -/
namespace Go.Proofs.YtaiakpigljcjbaaGreatDoor
set_option linter.unusedVariables false
open Go.RowKit
set_option maxRecDepth 100000 in
set_option maxHeartbeats 1000000 in
theorem idx_in (W : World) (v : Value) (l : List Int) (k : Int) (hl : l.length ≤ 1000000) (h : IntsAt W v l) :
    Calls Tryz.prog 139 #[v, .int .i64 k] W fun e w' => ∃ r : Int, e = .returned (.int .i64 r) ∧ (0 ≤ r ↔ k ∈ l) ∧ w' = W := by
  obtain ⟨q, c, rfl, hc⟩ := h
  have HC := Hid.mk hc
  clear hc
  obtain ⟨n, hn⟩ : ∃ n, l.length = n := ⟨_, rfl⟩
  have HN := Hid.mk hn
  rw [hn] at hl ⊢
  clear hn
  go_enter Tryz.func139, Tryz.ntmps139
  go_wp2_with fail
  go_loopw [8] (fun iv wr => ∃ i : Nat, i ≤ n ∧ iv = .int .i64 (i : Int) ∧ wr = W ∧ Hid (∀ j, j < i → l[j]? ≠ some k)) (fun iv _ => n - (intOf iv).toNat)
  case atStart => exact ⟨0, Nat.zero_le _, rfl, rfl, fun j hj => absurd hj (Nat.not_lt_zero _)⟩
  case round =>
    obtain ⟨i, hi, rfl, rfl, hno⟩ := hrel
    by_cases hlt : i < n
    · have hil : i < l.length := by rw [HN.out]; exact hlt
      obtain ⟨g, rfl, hg, hcell⟩ := HC.out i hil
      obtain ⟨x, hx⟩ : ∃ x, l[i] = x := ⟨_, rfl⟩
      rw [hx] at hcell
      have hx? : Hid (l[i]? = some x) := by rw [Hid, List.getElem?_eq_getElem hil, hx]
      have hi' : (i : Int) < (n : Int) := by omega
      clear hil hx
      by_cases hk : k = x
      · subst hk
        have HM : Hid (k ∈ l) := List.mem_of_getElem? hx?.out
        clear hno hx?
        go_wp2
        go_ret
        exact ⟨(i : Int), rfl, ⟨fun _ => HM.out, fun _ => by omega⟩, rfl⟩
      · have e1 : (k == x) = false := by simpa using hk
        have e2 : decide (k = x) = false := by simpa using hk
        have HNo : Hid (∀ j, j < i + 1 → l[j]? ≠ some k) := fun j hj => by
          rcases Nat.lt_succ_iff_lt_or_eq.1 hj with h | h
          · exact hno j h
          · subst h
            rw [hx?.out]
            exact fun e => hk (Option.some.inj e).symm
        clear hno hx?
        go_wp2
        go_roundw
        case rel => exact ⟨i + 1, by omega, by go_num, by first | rfl | trivial, HNo⟩
        case measure => simp [intOf]; omega
    · obtain rfl : i = n := by omega
      have HM : Hid (¬ k ∈ l) := fun hm => by
        obtain ⟨j, hj⟩ := List.getElem?_of_mem hm
        have : j < l.length := (List.getElem?_eq_some_iff.1 hj).1
        exact hno j (by rw [HN.out] at this; exact this) hj
      clear hno
      go_wp2
      go_ret
      exact ⟨-1, rfl, ⟨fun h => absurd h (by decide), fun h => absurd h HM.out⟩, rfl⟩
/-- is a type in a list? -/
def hasB (l : List Int) (k : Int) : Bool := decide (k ∈ l)
set_option maxRecDepth 100000 in
set_option maxHeartbeats 1000000 in
theorem cont_in (W : World) (v : Value) (l : List Int) (k : Int) (hl : l.length ≤ 1000000) (h : IntsAt W v l) :
    Calls Tryz.prog 119 #[v, .int .i64 k] W fun e w' => e = .returned (.bool (hasB l k)) ∧ w' = W := by
  have HI := Hid.mk (idx_in W v l k hl h)
  have HB : Hid (∀ r : Int, (0 ≤ r ↔ k ∈ l) → decide (0 ≤ r) = hasB l k) := fun r hr => by
    unfold hasB
    by_cases hm : k ∈ l
    · rw [decide_eq_true hm, decide_eq_true (hr.2 hm)]
    · rw [decide_eq_false hm, decide_eq_false fun h => hm (hr.1 h)]
  generalize hasB l k = D at HB ⊢
  clear h hl
  go_enter Tryz.func119, Tryz.ntmps119
  go_wp2_with fail
  refine HI.out.mono ?_
  rintro e w1 ⟨r, rfl, hr, rfl⟩
  have hd := HB.out r hr
  have HD := Hid.mk hd
  clear hr hd
  go_wp2
  go_ret
  exact ⟨by rw [← HD.out]; rfl, rfl⟩
set_option maxRecDepth 100000 in
set_option maxHeartbeats 1000000 in
theorem has_in (W : World) (v : Value) (l : List Int) (k : Int) (hl : l.length ≤ 1000000) (h : IntsAt W v l) :
    Calls Tryz.prog 98 #[v, .int .i64 k] W fun e w' => e = .returned (.bool (hasB l k)) ∧ w' = W := by
  have HI := Hid.mk (cont_in W v l k hl h)
  generalize hasB l k = D at HI ⊢
  clear h hl
  go_enter Tryz.func98, Tryz.ntmps98
  go_wp2_with fail
  refine HI.out.mono ?_
  rintro e w1 ⟨rfl, rfl⟩
  go_wp2
  go_ret
  exact ⟨rfl, rfl⟩
/-- is it another zone's? -/
def delB (l : List Int) : Bool := hasB l 2 && !hasB l 6
set_option maxRecDepth 100000 in
set_option maxHeartbeats 1000000 in
theorem del_in (W : World) (v : Value) (l : List Int) (hl : l.length ≤ 1000000) (h : IntsAt W v l) :
    Calls Tryz.prog 97 #[v] W fun e w' => e = .returned (.bool (delB l)) ∧ w' = W := by
  have H2 := Hid.mk (has_in W v l 2 hl h)
  have H6 := Hid.mk (has_in W v l 6 hl h)
  unfold delB
  generalize hasB l 2 = A at H2 ⊢
  generalize hasB l 6 = B at H6 ⊢
  clear h hl
  cases A with
  | false =>
    go_enter Tryz.func97, Tryz.ntmps97
    go_wp2_with fail
    refine H2.out.mono ?_
    rintro e w1 ⟨rfl, rfl⟩
    go_wp2
    go_ret
    exact ⟨rfl, rfl⟩
  | true =>
    go_enter Tryz.func97, Tryz.ntmps97
    go_wp2_with fail
    refine H2.out.mono ?_
    rintro e w1 ⟨rfl, rfl⟩
    go_wp2_with fail
    refine H6.out.mono ?_
    rintro e w1 ⟨rfl, rfl⟩
    go_wp2
    go_ret
    exact ⟨by simp, rfl⟩
/-- has it none of a type, and may the zone say so? -/
def lackB (l : List Int) (k : Int) (rt : Bool) : Bool := !hasB l k && !hasB l 5 && (if k = 43 then rt || !hasB l 6 else !delB l)
set_option maxRecDepth 100000 in
set_option maxHeartbeats 1000000 in
theorem lack_in (W : World) (v : Value) (l : List Int) (k : Int) (rt : Bool) (hl : l.length ≤ 1000000) (h : IntsAt W v l) :
    Calls Tryz.prog 95 #[v, .int .i64 k, .bool rt] W fun e w' => e = .returned (.bool (lackB l k rt)) ∧ w' = W := by
  have HK := Hid.mk (has_in W v l k hl h)
  have H5 := Hid.mk (has_in W v l 5 hl h)
  have H6 := Hid.mk (has_in W v l 6 hl h)
  have HD := Hid.mk (del_in W v l hl h)
  unfold lackB
  generalize hasB l k = A at HK ⊢
  generalize hasB l 5 = B at H5 ⊢
  generalize hasB l 6 = C at H6 ⊢
  generalize delB l = D at HD ⊢
  clear h hl
  by_cases hk : k = 43
  · subst hk
    rw [if_pos rfl]
    cases A with
    | true =>
      go_enter Tryz.func95, Tryz.ntmps95
      go_wp2_with fail
      refine HK.out.mono ?_
      rintro e w1 ⟨rfl, rfl⟩
      go_wp2
      go_ret
      exact ⟨rfl, rfl⟩
    | false =>
      go_enter Tryz.func95, Tryz.ntmps95
      go_wp2_with fail
      refine HK.out.mono ?_
      rintro e w1 ⟨rfl, rfl⟩
      go_wp2_with fail
      refine H5.out.mono ?_
      rintro e w1 ⟨rfl, rfl⟩
      cases B with
      | true =>
        go_wp2
        go_ret
        exact ⟨rfl, rfl⟩
      | false =>
        cases rt with
        | true =>
          go_wp2
          go_ret
          exact ⟨rfl, rfl⟩
        | false =>
          go_wp2_with fail
          refine H6.out.mono ?_
          rintro e w1 ⟨rfl, rfl⟩
          go_wp2
          go_ret
          exact ⟨by simp, rfl⟩
  · rw [if_neg hk]
    have e1 : (k == 43) = false := by simpa using hk
    have e2 : decide (k = 43) = false := by simpa using hk
    cases A with
    | true =>
      go_enter Tryz.func95, Tryz.ntmps95
      go_wp2_with fail
      refine HK.out.mono ?_
      rintro e w1 ⟨rfl, rfl⟩
      go_wp2
      go_ret
      exact ⟨rfl, rfl⟩
    | false =>
      go_enter Tryz.func95, Tryz.ntmps95
      go_wp2_with fail
      refine HK.out.mono ?_
      rintro e w1 ⟨rfl, rfl⟩
      go_wp2_with fail
      refine H5.out.mono ?_
      rintro e w1 ⟨rfl, rfl⟩
      cases B with
      | true =>
        go_wp2
        go_ret
        exact ⟨rfl, rfl⟩
      | false =>
        go_wp2_with fail
        refine HD.out.mono ?_
        rintro e w1 ⟨rfl, rfl⟩
        go_wp2
        go_ret
        exact ⟨by simp, rfl⟩
end Go.Proofs.YtaiakpigljcjbaaGreatDoor
