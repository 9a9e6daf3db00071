/- hex: bytes as digits of four bits. -/
import Derived.Deep.RegionLaw
import Derived.Test.YtkohkkakbcjgcabGreatDoorDSplit
import Derived.Test.YtkohkkakbcjgcabGreatDoorDraft
namespace Go.Proofs.YtkohkkakbcjgcabGreatDoor
set_option linter.unusedVariables false
open Go.RowKit

/-- the digit of a number below 32. -/
def dig (n : Nat) : UInt8 := if n < 10 then UInt8.ofNat (48 + n) else UInt8.ofNat (87 + n)
def hexB (b : UInt8) : List UInt8 := [dig (b.toNat / 16), dig (b.toNat % 16)]
def hexL (l : List UInt8) : List UInt8 := l.flatMap hexB
theorem hexL_snoc (l : List UInt8) (b : UInt8) : hexL (l ++ [b]) = hexL l ++ hexB b := by simp [hexL]
theorem hexL_len (l : List UInt8) : (hexL l).length = 2 * l.length := by
  induction l with
  | nil => rfl
  | cons b l ih => simp only [hexL, List.flatMap_cons, List.length_append, List.length_cons] at *; rw [ih]; simp [hexB]; omega

def digB : ByteArray := ⟨#[48, 49, 50, 51, 52, 53, 54, 55, 56, 57, 97, 98, 99, 100, 101, 102, 103, 104, 105, 106, 107, 108, 109, 110, 111, 112, 113, 114, 115, 116, 117, 118]⟩
theorem digB_at : ∀ (n : Nat) (h : n < 32), digB[n]'h = dig n := by
  have : ∀ n : Fin 32, digB[n.1]'n.2 = dig n.1 := by decide
  intro n h; exact this ⟨n, h⟩
theorem digs_at (n : Nat) (h : n < (⟨#[48, 49, 50, 51, 52, 53, 54, 55, 56, 57, 97, 98, 99, 100, 101, 102, 103, 104, 105, 106, 107, 108, 109, 110, 111, 112, 113, 114, 115, 116, 117, 118]⟩ : ByteArray).size) : (⟨#[48, 49, 50, 51, 52, 53, 54, 55, 56, 57, 97, 98, 99, 100, 101, 102, 103, 104, 105, 106, 107, 108, 109, 110, 111, 112, 113, 114, 115, 116, 117, 118]⟩ : ByteArray)[n]'h = dig n := digB_at n h

theorem bits_or_u16 (a b : Nat) (ha : a < 65536) (hb : b < 65536) : bits BinOp.or IntKind.u16 (a : Int) (b : Int) = ((a ||| b : Nat) : Int) := by
  have hx : a ||| b < 2 ^ 16 := Nat.or_lt_two_pow (by omega) (by omega)
  have h1 : (BitVec.ofInt 16 (a : Int)).toNat = a := by
    rw [BitVec.ofInt_natCast, BitVec.toNat_ofNat]; exact Nat.mod_eq_of_lt (by omega)
  have h2 : (BitVec.ofInt 16 (b : Int)).toNat = b := by
    rw [BitVec.ofInt_natCast, BitVec.toNat_ofNat]; exact Nat.mod_eq_of_lt (by omega)
  show IntKind.u16.wrap ((BitVec.ofInt 16 (a : Int) ||| BitVec.ofInt 16 (b : Int)).toNat : Int) = _
  rw [BitVec.toNat_or, h1, h2, IntKind.wrap_u16]
  omega
theorem bits_and_u16 (a b : Nat) (ha : a < 65536) (hb : b < 65536) : bits BinOp.and IntKind.u16 (a : Int) (b : Int) = ((a &&& b : Nat) : Int) := by
  have hx : a &&& b < 2 ^ 16 := Nat.and_lt_two_pow _ (by omega)
  have h1 : (BitVec.ofInt 16 (a : Int)).toNat = a := by
    rw [BitVec.ofInt_natCast, BitVec.toNat_ofNat]; exact Nat.mod_eq_of_lt (by omega)
  have h2 : (BitVec.ofInt 16 (b : Int)).toNat = b := by
    rw [BitVec.ofInt_natCast, BitVec.toNat_ofNat]; exact Nat.mod_eq_of_lt (by omega)
  show IntKind.u16.wrap ((BitVec.ofInt 16 (a : Int) &&& BitVec.ofInt 16 (b : Int)).toNat : Int) = _
  rw [BitVec.toNat_and, h1, h2, IntKind.wrap_u16]
  omega
theorem held_next (h b : Nat) (hb : b < 256) : bits BinOp.or IntKind.u16 (IntKind.u16.wrap ((h : Int) * 256)) (b : Int) = ((h % 256 * 256 + b : Nat) : Int) := by
  have e : IntKind.u16.wrap ((h : Int) * 256) = ((h % 256 * 256 : Nat) : Int) := by rw [IntKind.wrap_u16]; omega
  rw [e, bits_or_u16 _ _ (by omega) (by omega)]
  congr 1
  have := Nat.two_pow_add_eq_or_of_lt (i := 8) (b := b) (by omega) (h % 256)
  rw [show h % 256 * 256 = 2 ^ 8 * (h % 256) by omega, ← this]

/-- 'append' to a row of one's own, as one step of a region that draws. -/
theorem step_append_own {w : World} {ops : Array Oper} {o : Oper} {a : Act} {K : Act → World → Prop} {Q : Exit → Act → World → Prop} {E : Prop} (hgd : o.guard = none) (s x : Operand) (t : TypeId)
    (ho : o.op = .call { callee := .builtin .append, args := #[s, x], argTypes := #[t, t] })
    (base : Nat) (e : TypeId) (i : TypeInfo) (z : Value) (size bytes : Nat) (ht : Tryz.prog.underlying t = some (.slice e)) (hi : Tryz.prog.info? e = some i) (hz : i.zero = some z)
    (hsize : i.size = size) (hby : i.bytes = bytes) (hzs : z.cells.size = size) (hsz : 0 < size)
    (v : Value) (n : Nat) (xs : List Value) (hs : a.eval s = v) (hown : w.ownsRow base e size v n xs)
    (ad : Addr) (m c : Nat) (news : List Value) (hx : a.eval x = .slice (some ad) m c) (hl : news.length = m * size) (hnews : ∀ j u, news[j]? = some u → w.cell? (ad.add j) = some u) (h1 : ∀ u ∈ news, u.oneCell' = true)
    (h63 : n + m ≤ maxLen) (hbytes : (n + m) * bytes ≤ 140737488355328) (hbase : base ≤ w.heap.size)
    (h : ∀ v' w', w'.ownsRow base e size v' (n + m) (xs ++ news) → w.grownBy w' v.ownBlock → K (a.put o.dst v') w') :
    if Region.wanted o (yielded ops a.tmps) = true then Oper.wp Tryz.prog o a w K Q else E := by
  have hw : Region.wanted o (yielded ops a.tmps) = true := by simp [Region.wanted, hgd]
  rw [if_pos hw]
  exact wp_append_own w s x t ho base e i z size bytes ht hi hz hsize hby hzs hsz v n xs hs hown ad m c news hx hl hnews h1 h63 hbytes hbase fun v' w' h2 h3 _ => h v' w' h2 h3

set_option maxRecDepth 100000 in
set_option maxHeartbeats 4000000 in
theorem spelt4_in (s : ByteArray) (hs : s.size ≤ 2000) (w : World) :
    Calls Tryz.prog 140 #[.string s, .int .i64 4] w fun e w' => e = .returned (.string ⟨(hexL s.data.toList).toArray⟩) ∧ Below w.heap.size w w' := by
  obtain ⟨i0, hi, hz0, hz1, hz2⟩ := info_parts info5
  go_enter Tryz.func140, Tryz.ntmps140
  go_wp2
  go_loopw [5, 6, 7, 11] (fun tv hv bv i wr => ∃ (k h : Nat), k ≤ s.size ∧ h < 65536 ∧ i = .int .i64 k ∧ hv = .int .u16 h ∧ bv = .int .i64 0 ∧ wr.ownsRow w.heap.size 5 1 tv (hexL (s.data.toList.take k)).length (Lib.byteCells (hexL (s.data.toList.take k))) ∧ Below w.heap.size w wr) (fun _ _ _ i _ => s.size - (intOf i).toNat)
  case atStart => exact ⟨0, 0, Nat.zero_le _, by omega, rfl, rfl, rfl, World.ownsRow_nil .., Below.refl _ _⟩
  case round =>
    obtain ⟨wo, rfl⟩ : ∃ wo : World, wo = wr := ⟨_, rfl⟩
    obtain ⟨k, h, hk, hh, rfl, rfl, rfl, hrow, hbl⟩ := hrel
    by_cases hlt : k < s.size
    · have hb8 := s[k].toNat_lt
      have hhn := held_next h s[k].toNat (by omega)
      obtain ⟨g, hg⟩ : ∃ g : Nat, g = h % 256 * 256 + s[k].toNat := ⟨_, rfl⟩
      rw [← hg] at hhn
      have hg1 : g < 65536 := by omega
      have HG2 : Hid (g / 16 % 16 = s[k].toNat / 16) := by rw [Hid]; omega
      have HG3 : Hid (g % 16 = s[k].toNat % 16) := by rw [Hid]; omega
      have hnx : hexL (s.data.toList.take (k + 1)) = hexL (s.data.toList.take k) ++ hexB s[k] := by
        rw [List.take_succ_eq_append_getElem (by rw [size_list]; exact hlt), hexL_snoc]; rfl
      have HNX := Hid.mk hnx
      have hL := hexL_len (s.data.toList.take k)
      rw [List.length_take] at hL
      have hLl : (hexL (s.data.toList.take k)).length ≤ 4000 := by omega
      clear hnx hg hL
      generalize hexL (s.data.toList.take k) = T at hrow HNX hLl
      go_wp2
      clear hhn
      go_loopw [5, 7] (fun tv bv wr => ∃ j : Nat, j ≤ 2 ∧ bv = .int .i64 ((8 - 4 * j : Nat) : Int) ∧ wr.ownsRow w.heap.size 5 1 tv (T ++ (hexB s[k]).take j).length (Lib.byteCells (T ++ (hexB s[k]).take j)) ∧ Below w.heap.size w wr) (fun _ bv _ => (intOf bv).toNat)
      case atStart => exact ⟨0, by omega, rfl, by simpa using hrow, hbl⟩
      case round =>
        obtain ⟨j, hj, rfl, hrw, hbl2⟩ := hrel
        have hsz2 := hbl2.size
        have hw16 : IntKind.u16.wrap 16 = 16 := by rw [IntKind.wrap_u16]; rfl
        have hw15 : IntKind.u16.wrap 15 = 15 := by rw [IntKind.wrap_u16]; rfl
        have HAND : Hid (∀ x q : Nat, x < 65536 → x % 16 = q → bits BinOp.and IntKind.u16 (x : Int) 15 = (q : Int)) := by
          intro x q hx hq
          have h1 := bits_and_u16 x 15 (by omega) (by omega)
          have h2 := Nat.and_two_pow_sub_one_eq_mod x 4
          simp at h2
          rw [h2, hq] at h1
          exact h1
        rcases (show j = 0 ∨ j = 1 ∨ j = 2 by omega) with rfl | rfl | rfl
        · obtain ⟨q, hq⟩ : ∃ q, q = s[k].toNat / 16 := ⟨_, rfl⟩
          have hd1 : bits BinOp.and IntKind.u16 ((g : Int) / 16) 15 = (q : Int) := by
            rw [show ((g : Int) / 16) = ((g / 16 : Nat) : Int) by omega]
            exact HAND.out _ _ (by omega) (by rw [hq]; exact HG2.out)
          have hq16 : q < 16 := by omega
          have hq32 : (q : Int) < 32 := by omega
          have hdg := digs_at q
          have HX : Hid (T ++ (hexB s[k]).take 1 = T ++ (hexB s[k]).take 0 ++ [dig q]) := by rw [Hid, hexB, ← hq]; simp
          clear hq
          go_wp2
          go_region_law (refine step_append_own rfl (.tmp 29) (.tmp 38) 100 rfl w.heap.size 5 i0 (.int .u8 0) 1 1 Tryz.underlying100 hi hz0 hz1 hz2 rfl (by decide) _ _ _ rfl (row_alloc (W := wr.drew) hrw _) ⟨wr.heap.size, 0, none⟩ 1 1 [.int .u8 ((dig q).toNat : Int)] rfl rfl (cell_one_new _ _ _) (by simp [Value.oneCell']) (by unfold maxLen; simp; omega) (by simp; omega) (by simp; omega) ?_; intro v1 w1 hown1 hgrow1)
          go_wp2
          have hrel1 : ∃ j : Nat, j ≤ 2 ∧ Value.int .i64 4 = .int .i64 ((8 - 4 * j : Nat) : Int) ∧ w1.ownsRow w.heap.size 5 1 v1 (T ++ (hexB s[k]).take j).length (Lib.byteCells (T ++ (hexB s[k]).take j)) ∧ Below w.heap.size w w1 := by
            refine ⟨1, by omega, rfl, ?_, (hbl2.drew.alloc hsz2 _).grown hgrow1 (by simp; omega) (own_base (W := wr.drew) hrw)⟩
            rw [HX.out, List.length_append, byteCells_snoc]; exact hown1
          go_roundw
          case rel =>
            (repeat apply Exists.intro)
            exact ⟨hrel1, rfl⟩
          case measure => exact (show (4 : Nat) < 8 by omega)
        · obtain ⟨q, hq⟩ : ∃ q, q = s[k].toNat % 16 := ⟨_, rfl⟩
          have hd1 : bits BinOp.and IntKind.u16 (g : Int) 15 = (q : Int) := HAND.out _ _ (by omega) (by rw [hq]; exact HG3.out)
          have hq16 : q < 16 := by omega
          have hq32 : (q : Int) < 32 := by omega
          have hdg := digs_at q
          have HX : Hid (T ++ (hexB s[k]).take 2 = T ++ (hexB s[k]).take 1 ++ [dig q]) := by rw [Hid, hexB, ← hq]; simp
          clear hq
          go_wp2
          go_region_law (refine step_append_own rfl (.tmp 29) (.tmp 38) 100 rfl w.heap.size 5 i0 (.int .u8 0) 1 1 Tryz.underlying100 hi hz0 hz1 hz2 rfl (by decide) _ _ _ rfl (row_alloc (W := wr.drew) hrw _) ⟨wr.heap.size, 0, none⟩ 1 1 [.int .u8 ((dig q).toNat : Int)] rfl rfl (cell_one_new _ _ _) (by simp [Value.oneCell']) (by unfold maxLen; simp; omega) (by simp; omega) (by simp; omega) ?_; intro v1 w1 hown1 hgrow1)
          go_wp2
          have hrel2 : ∃ j : Nat, j ≤ 2 ∧ Value.int .i64 0 = .int .i64 ((8 - 4 * j : Nat) : Int) ∧ w1.ownsRow w.heap.size 5 1 v1 (T ++ (hexB s[k]).take j).length (Lib.byteCells (T ++ (hexB s[k]).take j)) ∧ Below w.heap.size w w1 := by
            refine ⟨2, by omega, rfl, ?_, (hbl2.drew.alloc hsz2 _).grown hgrow1 (by simp; omega) (own_base (W := wr.drew) hrw)⟩
            rw [HX.out, List.length_append, byteCells_snoc]; exact hown1
          go_roundw
          case rel =>
            (repeat apply Exists.intro)
            exact ⟨hrel2, rfl⟩
          case measure => exact (show (0 : Nat) < 4 by omega)
        · go_wp2
          refine ⟨⟨k + 1, g, by omega, hg1, by go_num, rfl, rfl, ?_, hbl2⟩, by simp [intOf]; omega⟩
          rw [HNX.out]; exact hrw
    · have hall : s.data.toList.take k = s.data.toList := List.take_of_length_le (by rw [size_list]; omega)
      rw [hall] at hrow
      clear hall
      obtain ⟨T, hT⟩ : ∃ T, hexL s.data.toList = T := ⟨_, rfl⟩
      rw [hT] at hrow
      have HT := Hid.mk hT
      clear hT
      rcases hrow.2 with ⟨rfl, h0⟩ | ⟨g', cap', cur, rfl, _, hg, _, _, _, ht⟩
      · obtain rfl : T = [] := List.length_eq_zero_iff.1 h0
        have hcv : ∀ W : World, (convert 100 9 (.slice none 0 0)).run Tryz.prog W = .ok (.string ⟨#[]⟩) W := fun W => by kernel_rfl
        go_wp2
        go_ret
        exact ⟨by rw [HT.out]; rfl, hbl⟩
      · have hcv := run_convert_bytes_back (P := Tryz.prog) wo 100 9 5 ⟨g', 0, none⟩ cap' T Tryz.underlying100 Tryz.underlying5 Tryz.underlying9 (fun j hj => Lib.cells_of_row (w := wo) hg T.length j _ (by rw [Nat.mul_one] at ht; rw [ht]; simp [Lib.byteCells, hj]))
        clear hg ht hrow
        go_wp2
        go_ret
        exact ⟨by rw [HT.out]; rfl, hbl⟩

theorem hex_in (s : ByteArray) (hs : s.size ≤ 2000) (w : World) :
    Calls Tryz.prog 101 #[.string s] w fun e w' => e = .returned (.string ⟨(hexL s.data.toList).toArray⟩) ∧ Below w.heap.size w w' := by
  go_enter Tryz.func101, Tryz.ntmps101
  go_wp2_with fail
  refine (spelt4_in s hs _).mono ?_
  rintro e w1 ⟨rfl, hb⟩
  go_wp2
  go_ret
  exact ⟨rfl, hb⟩
end Go.Proofs.YtkohkkakbcjgcabGreatDoor
