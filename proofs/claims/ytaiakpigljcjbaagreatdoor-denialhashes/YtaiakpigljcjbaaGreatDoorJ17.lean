/- Texts of this proof, joined: ZHash, GReg, GNum, GSpelt. -/
import Derived.Test.YtaiakpigljcjbaaGreatDoorJ12
import Derived.Test.YtaiakpigljcjbaaGreatDoorJ16
import Derived.Lib.ConvBytes
import Derived.Laws.OwnMore
/- hashed, Hash. -/
namespace Go.Proofs.YtaiakpigljcjbaaGreatDoor
set_option linter.unusedVariables false
set_option linter.unusedSimpArgs false
open Go.RowKit
attribute [local go_sem ↓] storeAt_lk loadAt_lk
theorem low_yes (ls : List (List UInt8)) (ho : OkN ls) (w : World) :
    Calls Tryz.prog 32 #[.string (nm ls)] w fun e w' => e = .returned (.string (nm (lowN ls))) ∧ Below w.heap.size w w' := by
  go_enter Tryz.func32, Tryz.ntmps32
  go_wp2_with fail
  refine (right_yes ls ho _).mono ?_
  rintro e w1 ⟨rfl, hb1⟩
  go_wp2_with fail
  refine (lowered_nm ls ho _).mono ?_
  rintro e w2 ⟨rfl, hb2⟩
  go_wp2
  go_ret
  exact ⟨rfl, bthen hb1 hb2⟩
/-- the hash of bytes, round by round. -/
def hsh (a salt : List UInt8) : Nat → List UInt8
  | 0 => a
  | i + 1 => G.sha1 (hsh a salt i ++ salt)
theorem hsh_len (a salt : List UInt8) (ha : a.length ≤ 255) : ∀ i, (hsh a salt i).length ≤ 255
  | 0 => ha
  | i + 1 => by rw [hsh]; exact Nat.le_trans (Nat.le_of_eq (G.sha1_len _)) (by decide)
def hashB (ls : List (List UInt8)) (salt : ByteArray) (r : Nat) : ByteArray := ⟨(hsh (nmL (lowN ls)) salt.data.toList (r + 1)).toArray⟩
set_option maxRecDepth 100000 in
set_option maxHeartbeats 1000000 in
theorem hashed_in (ls : List (List UInt8)) (ho : OkN ls) (salt : ByteArray) (hs : salt.size ≤ 255) (r : Nat) (hr : r ≤ 65535) (W : World) : Calls Tryz.prog 19 #[.string (nm ls), .string salt, .int .i64 (r : Int)] W fun e w' => e = .returned (.string (hashB ls salt r)) ∧ Below W.heap.size W w' := by
  have HL := Hid.mk (low_yes ls ho)
  have hlen : (nmL (lowN ls)).length ≤ 255 := by
    have h1 := ho.low.len
    have h2 := nm_size (lowN ls)
    rw [← size_list, nm_list] at h2
    omega
  have HN := Hid.mk (hsh_len (nmL (lowN ls)) salt.data.toList hlen)
  obtain ⟨H, hH⟩ : ∃ H : Nat → ByteArray, H = fun i => ⟨(hsh (nmL (lowN ls)) salt.data.toList i).toArray⟩ := ⟨_, rfl⟩
  have H0 : nm (lowN ls) = H 0 := by rw [hH]; rfl
  have HS : Hid (∀ i w, Calls Tryz.prog 33 #[.string (H i ++ salt)] w fun e w' => e = .returned (.string (H (i + 1))) ∧ Below w.heap.size w w') := fun i w => by
    have hz : (H i ++ salt).size ≤ 140737488355328 := by
      rw [ByteArray.size_append, hH]
      have := HN.out i
      show (hsh (nmL (lowN ls)) salt.data.toList i).toArray.size + salt.size ≤ _
      simp only [List.size_toArray]
      omega
    have := G.sum1_in (H i ++ salt) hz w
    rwa [show (⟨(G.sha1 (H i ++ salt).data.toList).toArray⟩ : ByteArray) = H (i + 1) by
      rw [hH]
      show (⟨(G.sha1 _).toArray⟩ : ByteArray) = ⟨(G.sha1 _).toArray⟩
      rw [ByteArray.data_append, Array.toList_append]] at this
  have HZ : Hid (∀ i, ¬ (9223372036854775807 < (H i).size + salt.size)) := fun i => by
    have := HN.out i
    rw [hH]
    show ¬ (9223372036854775807 < (hsh (nmL (lowN ls)) salt.data.toList i).toArray.size + salt.size)
    simp only [List.size_toArray]
    omega
  have HE : Hid (hashB ls salt r = H (r + 1)) := by rw [Hid, hH]; rfl
  rw [HE.out]
  rw [H0] at HL
  generalize nm ls = sn at HL ⊢
  obtain ⟨R, hR⟩ : ∃ R, H (r + 1) = R := ⟨_, rfl⟩
  have HR := Hid.mk hR
  rw [hR]
  clear hH H0 HE HN hlen hR hs
  have hw : IntKind.i64.wrap ((r : Int) + 1) = ((r + 1 : Nat) : Int) := by rw [IntKind.wrap_i64]; omega
  obtain ⟨n, hn⟩ : ∃ n, r + 1 = n := ⟨_, rfl⟩
  rw [hn] at hw HR
  have hn2 : n ≤ 65536 := by omega
  clear hn
  go_enter Tryz.func19, Tryz.ntmps19
  go_wp2_with fail
  refine (HL.out _).mono ?_
  rintro e w1 ⟨rfl, b1⟩
  go_wp2_with fail
  go_loopw [7, 12] (fun sv iv wr => ∃ i : Nat, i ≤ n ∧ iv = .int .i64 (i : Int) ∧ sv = .string (H i) ∧ Below W.heap.size W wr) (fun _ iv _ => n - (intOf iv).toNat)
  case atStart => exact ⟨0, Nat.zero_le _, rfl, rfl, b1⟩
  case round =>
    obtain ⟨i, hi, rfl, rfl, hbl⟩ := hrel
    by_cases hlt : i < n
    · have hi' : (i : Int) < (n : Int) := by omega
      have hz := HZ.out i
      have HSi := Hid.mk (HS.out i)
      obtain ⟨A, hA⟩ : ∃ A, H i = A := ⟨_, rfl⟩
      obtain ⟨B, hB⟩ : ∃ B, H (i + 1) = B := ⟨_, rfl⟩
      rw [hA, hB] at HSi
      rw [hA] at hz ⊢
      have HB := Hid.mk hB
      clear hA hB
      go_wp2_with fail
      refine (HSi.out _).mono ?_
      rintro e w2 ⟨rfl, b2⟩
      have b3 := bthen hbl b2
      clear b2
      go_wp2
      go_roundw
      case rel => exact ⟨i + 1, by omega, by go_num, by rw [HB.out], b3⟩
      case measure => simp [intOf]; omega
    · obtain rfl : i = n := by omega
      rw [HR.out]
      go_wp2
      go_ret
      exact ⟨rfl, hbl⟩
set_option maxRecDepth 100000 in
set_option maxHeartbeats 1000000 in
theorem hash_ok (ls : List (List UInt8)) (ho : OkN ls) (salt : ByteArray) (hs : salt.size ≤ 255) (r : Nat) (hr : r ≤ 65535) (W : World) : Calls Tryz.prog 7 #[.string (nm ls), .string salt, .int .i64 (r : Int)] W fun e w' => e = .returned (.tuple #[.string (hashB ls salt r), .int .i64 0]) ∧ Below W.heap.size W w' := by
  have HR := Hid.mk (right_yes ls ho)
  have HH := Hid.mk (hashed_in ls ho salt hs r hr)
  have d1 : decide ((r : Int) < 0) = false := decide_eq_false (by omega)
  have d2 : decide ((65535 : Int) < (r : Int)) = false := decide_eq_false (by omega)
  have d3 : decide (255 < salt.size) = false := decide_eq_false (by omega)
  have d4 : decide ((255 : Int) < (salt.size : Int)) = false := decide_eq_false (by omega)
  have d5 : decide (65535 < r) = false := decide_eq_false (by omega)
  have e1 : ¬ 255 < salt.size := by omega
  have e2 : ¬ 65535 < r := by omega
  generalize hashB ls salt r = D at HH ⊢
  generalize nm ls = sn at HR HH ⊢
  clear hs hr
  go_enter Tryz.func7, Tryz.ntmps7
  go_wp2_with fail
  refine (HR.out _).mono ?_
  rintro e w1 ⟨rfl, b1⟩
  go_wp2_with fail
  refine (HH.out _).mono ?_
  rintro e w2 ⟨rfl, b2⟩
  go_wp2
  go_ret2
  exact ⟨rfl, bthen b1 b2⟩
end Go.Proofs.YtaiakpigljcjbaaGreatDoor

/- counts, regrouped. -/
namespace Go.Proofs.YtaiakpigljcjbaaGreatDoor.G
set_option linter.unusedVariables false
open Go.RowKit

/-- what a letter counts. -/
def cnt (c : UInt8) : UInt8 := if 48 ≤ c.toNat ∧ c.toNat ≤ 57 then UInt8.ofNat (c.toNat - 48) else if 97 ≤ c.toNat ∧ c.toNat ≤ 118 then UInt8.ofNat (c.toNat - 87) else if 65 ≤ c.toNat ∧ c.toNat ≤ 86 then UInt8.ofNat (c.toNat - 55) else 255
theorem counts_in (c : UInt8) (w : World) : Calls Tryz.prog 140 #[.int .u8 (c.toNat : Int)] w fun e w' => e = .returned (.int .u8 ((cnt c).toNat : Int)) ∧ w' = w := by
  have hc := c.toNat_lt
  unfold cnt
  by_cases h1 : 48 ≤ c.toNat ∧ c.toNat ≤ 57
  · obtain ⟨a1, a2⟩ := h1
    rw [if_pos ⟨a1, a2⟩]
    go_enter Tryz.func140, Tryz.ntmps140
    go_wp2
    go_ret
    exact ⟨ret_int (by first | omega | (rw [UInt8.toNat_ofNat']; omega)), rfl⟩
  · rw [if_neg h1]
    by_cases h2 : 97 ≤ c.toNat ∧ c.toNat ≤ 118
    · obtain ⟨a1, a2⟩ := h2
      have b1 : (57 : Int) < (c.toNat : Int) := by omega
      rw [if_pos ⟨a1, a2⟩]
      clear h1
      go_enter Tryz.func140, Tryz.ntmps140
      go_wp2
      go_ret
      exact ⟨ret_int (by first | omega | (rw [UInt8.toNat_ofNat']; omega)), rfl⟩
    · rw [if_neg h2]
      by_cases h3 : 65 ≤ c.toNat ∧ c.toNat ≤ 86
      · obtain ⟨a1, a2⟩ := h3
        have b1 : (57 : Int) < (c.toNat : Int) := by omega
        have b2 : (c.toNat : Int) < 97 := by omega
        rw [if_pos ⟨a1, a2⟩]
        clear h1 h2
        go_enter Tryz.func140, Tryz.ntmps140
        go_wp2
        go_ret
        exact ⟨ret_int (by first | omega | (rw [UInt8.toNat_ofNat']; omega)), rfl⟩
      · rw [if_neg h3]
        rcases (show c.toNat < 48 ∨ (57 < c.toNat ∧ c.toNat < 65) ∨ (86 < c.toNat ∧ c.toNat < 97) ∨ 118 < c.toNat by omega) with a | ⟨a, b⟩ | ⟨a, b⟩ | a
        all_goals (
          clear h1 h2 h3
          go_enter Tryz.func140, Tryz.ntmps140
          go_wp2
          go_ret
          exact ⟨rfl, rfl⟩)

/-- bits in hand put down as whole groups, as far as they go. -/
def fin (tw : Nat) (made : List UInt8) (rest over : Nat) : List UInt8 × Nat × Nat :=
  if h : 0 < tw ∧ tw ≤ over then fin tw (made ++ [UInt8.ofNat (rest / 2 ^ (over - tw))]) (rest % 2 ^ (over - tw)) (over - tw) else (made, rest, over)
termination_by over
def rgs (fr tw : Nat) (st : List UInt8 × Nat × Nat) (g : UInt8) : List UInt8 × Nat × Nat := fin tw st.1 (st.2.1 * 2 ^ fr + g.toNat) (st.2.2 + fr)
def rg (fr tw : Nat) (gs : List UInt8) : List UInt8 × Nat × Nat := gs.foldl (rgs fr tw) ([], 0, 0)

theorem fin_step (tw : Nat) (made : List UInt8) (rest o : Nat) (ht : 0 < tw) : fin tw made rest (o + tw) = fin tw (made ++ [UInt8.ofNat (rest / 2 ^ o)]) (rest % 2 ^ o) o := by
  rw [fin, dif_pos ⟨ht, by omega⟩, Nat.add_sub_cancel]
theorem fin_end (tw : Nat) (made : List UInt8) (rest over : Nat) (h : over < tw) : fin tw made rest over = (made, rest, over) := by
  rw [fin, dif_neg (by omega)]
/-- what stands behind the first m groups. -/
def rgm (fr tw : Nat) (gs : List UInt8) (m : Nat) : List UInt8 × Nat × Nat := (gs.take m).foldl (rgs fr tw) ([], 0, 0)
theorem rgm_succ (fr tw : Nat) (gs : List UInt8) (m : Nat) (h : m < gs.length) : rgm fr tw gs (m + 1) = rgs fr tw (rgm fr tw gs m) (gs[m]?.getD 0) := by
  unfold rgm
  rw [List.take_add_one, List.foldl_append, List.getElem?_eq_getElem h]
  rfl
theorem rgm_all (fr tw : Nat) (gs : List UInt8) (m : Nat) (h : gs.length = m) : rgm fr tw gs m = rg fr tw gs := by
  unfold rgm rg
  rw [List.take_of_length_le (by omega)]
theorem u16_sum (r g fr : Nat) (hg : g < 2 ^ fr) (h : r * 2 ^ fr + g < 65536) : bits .or .u16 (IntKind.u16.wrap ((r : Int) * 2 ^ fr)) (g : Int) = ((r * 2 ^ fr + g : Nat) : Int) := by
  have hw : IntKind.u16.wrap ((r : Int) * 2 ^ fr) = (r : Int) * 2 ^ fr := by
    rw [show ((r : Int) * 2 ^ fr) = ((r * 2 ^ fr : Nat) : Int) by rw [Int.natCast_mul, Int.natCast_pow]; rfl]
    generalize r * 2 ^ fr = k at h
    simp only [IntKind.wrap, IntKind.bits, IntKind.signed, Bool.false_and, Bool.false_eq_true, if_false]
    omega
  rw [hw, show ((r : Int) * 2 ^ fr) = ((r * 2 ^ fr : Nat) : Int) by rw [Int.natCast_mul, Int.natCast_pow]; rfl, u16_or_nat _ _ (by omega) (by omega), Nat.mul_comm, or_sum fr r g hg]
theorem u16_low (r o : Nat) (hr : r < 65536) (ho : o ≤ 15) : bits .and .u16 (r : Int) ((2 : Int) ^ o - 1) = ((r % 2 ^ o : Nat) : Int) := by
  have hp : 2 ^ o ≤ 2 ^ 15 := Nat.pow_le_pow_right (by omega) ho
  have h1 : 1 ≤ 2 ^ o := Nat.one_le_two_pow
  rw [show ((2 : Int) ^ o - 1) = ((2 ^ o - 1 : Nat) : Int) by rw [Int.natCast_sub h1, Int.natCast_pow]; rfl, u16_and_nat _ _ hr (by omega), Nat.and_two_pow_sub_one_eq_mod]

set_option maxRecDepth 100000 in
set_option maxHeartbeats 1000000 in
theorem regrouped_in (W : World) (g cap : Nat) (gs : List UInt8) (fr tw : Nat) (hf : 1 ≤ fr ∧ fr ≤ 8) (ht : 1 ≤ tw ∧ tw ≤ 8) (hl : gs.length ≤ 10000000) (hg : ∀ j, j < gs.length → W.cell? ⟨g, j, none⟩ = some (.int .u8 ((gs[j]?.getD 0).toNat : Int))) (hb : g < W.heap.size) (hs : ∀ x ∈ gs, x.toNat < 2 ^ fr) :
    Calls Tryz.prog 59 #[.slice (some ⟨g, 0, none⟩) gs.length cap, .int .i64 (fr : Int), .int .i64 (tw : Int)] W fun e w' => ∃ v, e = .returned (.tuple #[v, .int .u16 (((rg fr tw gs).2.1 : Nat) : Int), .int .i64 (((rg fr tw gs).2.2 : Nat) : Int)]) ∧ w'.ownsRow W.heap.size 5 1 v (rg fr tw gs).1.length (bcl (rg fr tw gs).1) ∧ Below W.heap.size W w' := by
  obtain ⟨i0, hi, hz0, hz1, hz2⟩ := info_of info5
  obtain ⟨N, hN⟩ : ∃ N, gs.length = N := ⟨_, rfl⟩
  have HE := Hid.mk (rgm_all fr tw gs N hN)
  have HNx : Hid (∀ m, m < N → rgm fr tw gs (m + 1) = rgs fr tw (rgm fr tw gs m) (gs[m]?.getD 0)) := fun m hm => rgm_succ fr tw gs m (by omega)
  have HGc : Hid (∀ j, j < N → W.cell? ⟨g, j, none⟩ = some (.int .u8 ((gs[j]?.getD 0).toNat : Int))) := fun j hj => hg j (by omega)
  have HS : Hid (∀ m, m < N → (gs[m]?.getD 0).toNat < 2 ^ fr) := fun m hm => by
    rw [List.getElem?_eq_getElem (by omega)]
    exact hs _ (List.getElem_mem _)
  have H0 : Hid (rgm fr tw gs 0 = ([], 0, 0)) := rfl
  rw [← HE.out, hN]
  have hNl : N ≤ 10000000 := by omega
  generalize rgm fr tw gs = st at HNx H0 ⊢
  obtain ⟨hf1, hf2⟩ := hf
  obtain ⟨ht1, ht2⟩ := ht
  clear HE hg hs hl hN
  go_enter Tryz.func59, Tryz.ntmps59
  go_wp2_with fail
  go_loopw [6, 7, 8, 13] (fun v r o i wr => ∃ (m : Nat) (made : List UInt8) (rest over : Nat), m ≤ N ∧ i = .int .i64 m ∧ r = .int .u16 (rest : Int) ∧ o = .int .i64 (over : Int) ∧ Hid (st m = (made, rest, over)) ∧ wr.ownsRow W.heap.size 5 1 v made.length (bcl made) ∧ over < tw ∧ rest < 2 ^ over ∧ made.length * tw + over = fr * m ∧ Below W.heap.size W wr) (fun _ _ _ i _ => N - (intOf i).toNat)
  case atStart => exact ⟨0, [], 0, 0, by omega, rfl, rfl, rfl, H0, ⟨rfl, .inl ⟨rfl, rfl⟩⟩, by omega, by simp, by simp, Below.refl _ _⟩
  case round =>
    obtain ⟨m, made, rest, over, hm, rfl, rfl, rfl, HST, hown, hov, hre, hsum, hbl⟩ := hrel
    have HO := Hid.mk hown
    have HSUM := Hid.mk hsum
    have HRE := Hid.mk hre
    clear hown hsum hre
    by_cases hlt : m < N
    · have hc : wr.cell? ⟨g, m, none⟩ = some (.int .u8 ((gs[m]?.getD 0).toNat : Int)) := (hbl.cell (p := ⟨g, m, none⟩) hb).trans (HGc.out m hlt)
      have HX := Hid.mk (HS.out m hlt)
      have HNm : Hid (st (m + 1) = fin tw made (rest * 2 ^ fr + (gs[m]?.getD 0).toNat) (over + fr)) := by rw [Hid, HNx.out m hlt, HST.out]; rfl
      generalize gs[m]?.getD 0 = x at hc HX HNm
      have hbig : rest * 2 ^ fr + x.toNat < 2 ^ (over + fr) := by
        have h1 : rest + 1 ≤ 2 ^ over := HRE.out
        have h2 := Nat.mul_le_mul_right (2 ^ fr) h1
        have h3 := HX.out
        rw [Nat.pow_add]
        rw [Nat.add_mul] at h2
        omega
      have hp16 : 2 ^ (over + fr) ≤ 2 ^ 15 := Nat.pow_le_pow_right (by omega) (by omega)
      have hx8 := x.toNat_lt
      have hor := u16_sum rest x.toNat fr HX.out (by omega)
      have HBIG := Hid.mk hbig
      clear hbig
      generalize rest * 2 ^ fr + x.toNat = q at hor HBIG HNm
      have HTG : Hid (st (m + 1) = fin tw made q (over + fr)) := HNm.out
      clear HNm HRE hp16
      go_wp2_with fail
      go_loopw [6, 7, 8] (fun v r o w2 => ∃ (md : List UInt8) (q2 ov : Nat), r = .int .u16 (q2 : Int) ∧ o = .int .i64 (ov : Int) ∧ Hid (fin tw md q2 ov = fin tw made q (over + fr)) ∧ w2.ownsRow W.heap.size 5 1 v md.length (bcl md) ∧ q2 < 2 ^ ov ∧ ov ≤ 15 ∧ md.length * tw + ov = fr * (m + 1) ∧ Below W.heap.size W w2) (fun _ _ o _ => (intOf o).toNat)
      case atStart => exact ⟨made, q, over + fr, rfl, by go_num, rfl, HO.out, HBIG.out, by omega, by have := HSUM.out; rw [Nat.mul_add]; omega, hbl⟩
      case round =>
        obtain ⟨md, q2, ov, rfl, rfl, HFN, hown2, hq2, hov2, hsum2, hbl2⟩ := hrel
        have HO2 := Hid.mk hown2
        have HS2 := Hid.mk hsum2
        have hml : md.length ≤ 100000000 := by
          have h1 : md.length * 1 ≤ md.length * tw := Nat.mul_le_mul_left _ ht1
          have h2 : fr * (m + 1) ≤ 8 * (m + 1) := Nat.mul_le_mul_right _ hf2
          omega
        have hsz := hbl2.size
        have HQ2 := Hid.mk hq2
        clear hown2 hsum2 hq2
        by_cases hge : tw ≤ ov
        · obtain ⟨o, rfl⟩ : ∃ o, ov = o + tw := ⟨ov - tw, by omega⟩
          have hf := fin_step tw md q2 o (by omega)
          have hp15 : 2 ^ (o + tw) ≤ 2 ^ 15 := Nat.pow_le_pow_right (by omega) hov2
          have hq16 : q2 < 65536 := by have := HQ2.out; omega
          have hdv : q2 / 2 ^ o < 256 := by
            have h1 := HQ2.out
            rw [Nat.pow_add, Nat.mul_comm] at h1
            have h2 : q2 / 2 ^ o < 2 ^ tw := Nat.div_lt_of_lt_mul (by rw [Nat.mul_comm]; exact h1)
            have h3 : 2 ^ tw ≤ 2 ^ 8 := Nat.pow_le_pow_right (by omega) ht2
            omega
          have hdi : (q2 : Int) / 2 ^ o = ((q2 / 2 ^ o : Nat) : Int) := by rw [Int.natCast_ediv, Int.natCast_pow]; rfl
          have hyi : ((UInt8.ofNat (q2 / 2 ^ o)).toNat : Int) = (q2 : Int) / 2 ^ o := by rw [hdi, UInt8.toNat_ofNat']; generalize q2 / 2 ^ o = k at hdv; omega
          have hw1 : IntKind.u8.wrap ((q2 : Int) / 2 ^ o) = ((UInt8.ofNat (q2 / 2 ^ o)).toNat : Int) := by rw [IntKind.wrap_u8, hdi, UInt8.toNat_ofNat']; generalize q2 / 2 ^ o = k at hdv; omega
          have hlow := u16_low q2 o hq16 (by omega)
          have ho15 : 2 ^ o ≤ 2 ^ 15 := Nat.pow_le_pow_right (by omega) (by omega)
          have ho1 : 1 ≤ 2 ^ o := Nat.one_le_two_pow
          have hpi : (2 : Int) ^ o = ((2 ^ o : Nat) : Int) := by rw [Int.natCast_pow]; rfl
          have m1 : IntKind.u16.wrap ((2 : Int) ^ o) = (2 : Int) ^ o := by rw [hpi]; generalize 2 ^ o = k at ho15; simp only [IntKind.wrap, IntKind.bits, IntKind.signed, Bool.false_and, Bool.false_eq_true, if_false]; omega
          have m2 : IntKind.u16.wrap ((2 : Int) ^ o - 1) = (2 : Int) ^ o - 1 := by rw [hpi]; generalize 2 ^ o = k at ho15 ho1; simp only [IntKind.wrap, IntKind.bits, IntKind.signed, Bool.false_and, Bool.false_eq_true, if_false]; omega
          have hlt2 : q2 % 2 ^ o < 2 ^ o := Nat.mod_lt _ (by omega)
          have HLT := Hid.mk hlt2
          have HF2 := Hid.mk hf
          have HYI := Hid.mk hyi
          generalize q2 % 2 ^ o = q3 at hlow HLT HF2
          generalize UInt8.ofNat (q2 / 2 ^ o) = y at hw1 HF2 HYI
          clear hf hp15 hdi hyi hpi hlt2 ho15 ho1 hdv
          go_wp2_with (at_builtin; refine wpList_append_own _ rfl _ _ 50 rfl W.heap.size 5 i0 (.int .u8 0) 1 1 Tryz.underlying50 hi hz0 hz1 hz2 rfl (by decide) _ _ _ rfl (HO2.out.alloc _) ⟨wr.heap.size, 0, none⟩ 1 1 [.int .u8 (y.toNat : Int)] rfl rfl (cell_one_new _ _ _) (by simp [Value.oneCell']) (by unfold maxLen; omega) (by omega) (by simp; omega) ?_; intro v1 w1 hown1 hgrow1 _)
          have B2 : Below W.heap.size W w1 := (hbl2.alloc hbl2.size _).grown hgrow1 (Nat.le_trans hbl2.size (by simp)) (fun k hk => (HO2.out.lt k hk).1)
          go_roundw
          case rel =>
            refine ⟨md ++ [y], q3, o, rfl, rfl, ?_, ?_, HLT.out, by omega, ?_, B2⟩
            · rw [Hid, ← HF2.out]; exact HFN.out
            · rw [List.length_append, bcl_app]; exact hown1
            · have h := HS2.out
              rw [List.length_append, Nat.add_mul]
              simp only [List.length_singleton, Nat.one_mul]
              omega
          case measure => simp [intOf]; omega
        · have hfe := fin_end tw md q2 ov (by omega)
          have HFE : Hid (st (m + 1) = (md, q2, ov)) := by rw [Hid, HTG.out, ← HFN.out, hfe]
          clear hfe
          go_wp2
          go_roundw
          case rel => exact ⟨m + 1, md, q2, ov, by omega, by go_num, rfl, rfl, HFE, HO2.out, by omega, HQ2.out, HS2.out, hbl2⟩
          case measure => simp [intOf]; omega
    · obtain rfl : m = N := by omega
      go_wp2
      refine bodyPost_ret (v := .tuple #[u6, .int .u16 (rest : Int), .int .i64 (over : Int)]) (by simp [results, Tryz.results59, go_sem]) rfl ?_
      rw [HST.out]
      exact ⟨_, rfl, HO.out, hbl⟩
end Go.Proofs.YtaiakpigljcjbaaGreatDoor.G

/- What regrouping makes, as numbers; what is told is read again. Nothing here speaks of the program. -/
namespace Go.Proofs.YtaiakpigljcjbaaGreatDoor.G
set_option linter.unusedVariables false

/-- digits of a base as a number. -/
def num (b : Nat) (l : List UInt8) : Nat := l.foldl (fun a x => a * b + x.toNat) 0
theorem num_snoc (b : Nat) (l : List UInt8) (x : UInt8) : num b (l ++ [x]) = num b l * b + x.toNat := by simp [num]
/-- what holds of bits in hand. -/
structure Ok (tw : Nat) (V B : Nat) (made : List UInt8) (rest over : Nat) : Prop where
  val : num (2 ^ tw) made * 2 ^ over + rest = V
  len : made.length * tw + over = B
  low : rest < 2 ^ over
  dig : ∀ x ∈ made, x.toNat < 2 ^ tw
theorem fin_ok (tw V B : Nat) (ht : 1 ≤ tw ∧ tw ≤ 8) : ∀ (over : Nat) (made : List UInt8) (rest : Nat), Ok tw V B made rest over → Ok tw V B (fin tw made rest over).1 (fin tw made rest over).2.1 (fin tw made rest over).2.2 ∧ (fin tw made rest over).2.2 < tw := by
  intro over
  induction over using Nat.strongRecOn with
  | ind over ih =>
    intro made rest h
    by_cases hge : tw ≤ over
    · obtain ⟨o, rfl⟩ : ∃ o, over = o + tw := ⟨over - tw, by omega⟩
      rw [fin_step tw made rest o (by omega)]
      have hdiv : rest / 2 ^ o < 2 ^ tw := by
        have h1 := h.low
        rw [Nat.pow_add] at h1
        exact Nat.div_lt_of_lt_mul h1
      have h8 : 2 ^ tw ≤ 2 ^ 8 := Nat.pow_le_pow_right (by omega) ht.2
      have hy : (UInt8.ofNat (rest / 2 ^ o)).toNat = rest / 2 ^ o := by
        rw [UInt8.toNat_ofNat']
        exact Nat.mod_eq_of_lt (by omega)
      refine ih o (by omega) _ _ ⟨?_, ?_, Nat.mod_lt _ (Nat.two_pow_pos o), ?_⟩
      · rw [num_snoc, hy, Nat.add_mul, Nat.mul_assoc, ← Nat.pow_add, Nat.add_comm tw o, Nat.add_assoc, Nat.mul_comm (rest / 2 ^ o), Nat.div_add_mod]
        exact h.val
      · rw [List.length_append, Nat.add_mul]
        have := h.len
        simp only [List.length_singleton, Nat.one_mul]
        omega
      · intro x hx
        rcases List.mem_append.1 hx with hx | hx
        · exact h.dig x hx
        · rw [List.mem_singleton.1 hx, hy]; exact hdiv
    · rw [fin_end tw made rest over (by omega)]
      exact ⟨h, by show over < tw; omega⟩
theorem rgs_ok (fr tw : Nat) (ht : 1 ≤ tw ∧ tw ≤ 8) (V B : Nat) (st : List UInt8 × Nat × Nat) (g : UInt8) (hg : g.toNat < 2 ^ fr) (h : Ok tw V B st.1 st.2.1 st.2.2) :
    Ok tw (V * 2 ^ fr + g.toNat) (B + fr) (rgs fr tw st g).1 (rgs fr tw st g).2.1 (rgs fr tw st g).2.2 ∧ (rgs fr tw st g).2.2 < tw := by
  refine fin_ok tw _ _ ht _ _ _ ⟨?_, ?_, ?_, h.dig⟩
  · rw [← h.val, Nat.pow_add, ← Nat.mul_assoc, Nat.add_mul]
    omega
  · have := h.len; omega
  · have h1 : st.2.1 + 1 ≤ 2 ^ st.2.2 := h.low
    have h2 := Nat.mul_le_mul_right (2 ^ fr) h1
    rw [Nat.pow_add]
    rw [Nat.add_mul] at h2
    omega
theorem fold_ok (fr tw : Nat) (ht : 1 ≤ tw ∧ tw ≤ 8) : ∀ (gs : List UInt8) (V B : Nat) (st : List UInt8 × Nat × Nat), (∀ x ∈ gs, x.toNat < 2 ^ fr) → Ok tw V B st.1 st.2.1 st.2.2 → st.2.2 < tw →
    Ok tw (gs.foldl (fun a x => a * 2 ^ fr + x.toNat) V) (B + fr * gs.length) (gs.foldl (rgs fr tw) st).1 (gs.foldl (rgs fr tw) st).2.1 (gs.foldl (rgs fr tw) st).2.2 ∧ (gs.foldl (rgs fr tw) st).2.2 < tw
  | [], V, B, st, _, h, ho => ⟨h, ho⟩
  | g :: gs, V, B, st, hs, h, ho => by
    obtain ⟨h1, h2⟩ := rgs_ok fr tw ht V B st g (hs g (by simp)) h
    have := fold_ok fr tw ht gs _ _ (rgs fr tw st g) (fun x hx => hs x (by simp [hx])) h1 h2
    rw [List.foldl_cons, List.foldl_cons, List.length_cons]
    rwa [show B + fr * (gs.length + 1) = B + fr + fr * gs.length by rw [Nat.mul_add]; omega]
theorem rg_ok (fr tw : Nat) (ht : 1 ≤ tw ∧ tw ≤ 8) (gs : List UInt8) (hs : ∀ x ∈ gs, x.toNat < 2 ^ fr) : Ok tw (num (2 ^ fr) gs) (fr * gs.length) (rg fr tw gs).1 (rg fr tw gs).2.1 (rg fr tw gs).2.2 ∧ (rg fr tw gs).2.2 < tw := by
  have := fold_ok fr tw ht gs 0 0 ([], 0, 0) hs ⟨by simp [num], by simp, by simp, by simp⟩ (by show 0 < tw; omega)
  rwa [Nat.zero_add] at this
theorem byte_lt (l : List UInt8) : ∀ x ∈ l, x.toNat < 2 ^ 8 := fun x _ => x.toNat_lt

/-- the letters. -/
def lettersL : List UInt8 := [48, 49, 50, 51, 52, 53, 54, 55, 56, 57, 97, 98, 99, 100, 101, 102, 103, 104, 105, 106, 107, 108, 109, 110, 111, 112, 113, 114, 115, 116, 117, 118]
def ltr (x : UInt8) : UInt8 := lettersL[x.toNat]?.getD 0
/-- the groups that are told. -/
def grp (w : Nat) (s : List UInt8) : List UInt8 := (rg 8 w s).1 ++ if 0 < (rg 8 w s).2.2 then [UInt8.ofNat ((rg 8 w s).2.1 * 2 ^ (w - (rg 8 w s).2.2))] else []
/-- bytes told by letters of w bits. -/
def spl (w : Nat) (s : List UInt8) : List UInt8 := (grp w s).map ltr
/-- what letters of w bits tell. -/
def uns (w : Nat) (t : List UInt8) : Option (List UInt8) := if ∀ c ∈ t, (cnt c).toNat < 2 ^ w then (if w ≤ (rg w 8 (t.map cnt)).2.2 ∨ (rg w 8 (t.map cnt)).2.1 ≠ 0 then none else some (rg w 8 (t.map cnt)).1) else none
theorem grp_ok (w : Nat) (hw : w = 4 ∨ w = 5) (s : List UInt8) : ∃ p, p < w ∧ num (2 ^ w) (grp w s) = num (2 ^ 8) s * 2 ^ p ∧ (grp w s).length * w = 8 * s.length + p ∧ ∀ x ∈ grp w s, x.toNat < 2 ^ w := by
  obtain ⟨h, ho⟩ := rg_ok 8 w (by omega) s (byte_lt s)
  unfold grp
  generalize (rg 8 w s).1 = made at h ho ⊢
  generalize (rg 8 w s).2.1 = rest at h ho ⊢
  generalize (rg 8 w s).2.2 = over at h ho ⊢
  by_cases hz : 0 < over
  · rw [if_pos hz]
    have hsum : 2 ^ over * 2 ^ (w - over) = 2 ^ w := by rw [← Nat.pow_add]; congr 1; omega
    have hlt : rest * 2 ^ (w - over) < 2 ^ w := by
      rw [← hsum]
      exact Nat.mul_lt_mul_of_pos_right h.low (Nat.two_pow_pos _)
    have h8 : 2 ^ w ≤ 2 ^ 8 := Nat.pow_le_pow_right (by omega) (by omega)
    have hy : (UInt8.ofNat (rest * 2 ^ (w - over))).toNat = rest * 2 ^ (w - over) := by
      rw [UInt8.toNat_ofNat']
      exact Nat.mod_eq_of_lt (by omega)
    refine ⟨w - over, by omega, ?_, ?_, ?_⟩
    · rw [num_snoc, hy, ← h.val, Nat.add_mul, Nat.mul_assoc, hsum]
    · rw [List.length_append, Nat.add_mul]
      have := h.len
      simp only [List.length_singleton, Nat.one_mul]
      omega
    · intro x hx
      rcases List.mem_append.1 hx with hx | hx
      · exact h.dig x hx
      · rw [List.mem_singleton.1 hx, hy]; exact hlt
  · rw [if_neg hz, List.append_nil]
    obtain rfl : over = 0 := by omega
    have hr : rest = 0 := by have := h.low; simpa using this
    refine ⟨0, by omega, ?_, ?_, h.dig⟩
    · have := h.val
      rw [hr] at this
      simpa using this
    · have := h.len
      omega
theorem num_inj (b : Nat) : ∀ (n : Nat) (l m : List UInt8), l.length = n → m.length = n → (∀ x ∈ l, x.toNat < b) → (∀ x ∈ m, x.toNat < b) → num b l = num b m → l = m
  | 0, l, m, hl, hm, _, _, _ => by rw [List.eq_nil_of_length_eq_zero hl, List.eq_nil_of_length_eq_zero hm]
  | n + 1, l, m, hl, hm, h1, h2, h => by
    obtain ⟨l', x, rfl⟩ : ∃ l' x, l = l' ++ [x] := ⟨l.dropLast, l.getLast (by intro e; rw [e] at hl; cases hl), (List.dropLast_concat_getLast _).symm⟩
    obtain ⟨m', y, rfl⟩ : ∃ m' y, m = m' ++ [y] := ⟨m.dropLast, m.getLast (by intro e; rw [e] at hm; cases hm), (List.dropLast_concat_getLast _).symm⟩
    rw [num_snoc, num_snoc] at h
    have hx := h1 x (by simp)
    have hy := h2 y (by simp)
    have hb : 0 < b := by omega
    have e1 : num b l' = num b m' := by
      have a1 : (num b l' * b + x.toNat) / b = num b l' := by rw [Nat.mul_comm, Nat.mul_add_div hb, Nat.div_eq_of_lt hx, Nat.add_zero]
      have a2 : (num b m' * b + y.toNat) / b = num b m' := by rw [Nat.mul_comm, Nat.mul_add_div hb, Nat.div_eq_of_lt hy, Nat.add_zero]
      rw [← a1, ← a2, h]
    have e2 : x = y := by
      rw [e1] at h
      exact UInt8.toNat_inj.1 (by omega)
    rw [e2, num_inj b n l' m' (by simp at hl; exact hl) (by simp at hm; exact hm) (fun z hz => h1 z (by simp [hz])) (fun z hz => h2 z (by simp [hz])) e1]
theorem cnt_ltr (x : UInt8) (h : x.toNat < 32) : cnt (ltr x) = x := by
  obtain ⟨n, hn⟩ : ∃ n, x.toNat = n := ⟨_, rfl⟩
  have hx : x = UInt8.ofNat n := by rw [← hn, UInt8.ofNat_toNat]
  subst hx
  rw [hn] at h
  clear hn
  revert n
  decide
/-- what is told is read again. -/
theorem uns_spl (w : Nat) (hw : w = 4 ∨ w = 5) (s : List UInt8) : uns w (spl w s) = some s := by
  obtain ⟨p, hp, hv, hl, hd⟩ := grp_ok w hw s
  have hm : (spl w s).map cnt = grp w s := by
    unfold spl
    rw [List.map_map]
    conv => rhs; rw [← List.map_id (grp w s)]
    apply List.map_congr_left
    intro x hx
    have h1 := hd x hx
    have h2 : 2 ^ w ≤ 2 ^ 5 := Nat.pow_le_pow_right (by omega) (by omega)
    exact cnt_ltr x (by omega)
  have hall : ∀ c ∈ spl w s, (cnt c).toNat < 2 ^ w := by
    intro c hc
    have : cnt c ∈ (spl w s).map cnt := List.mem_map_of_mem hc
    rw [hm] at this
    exact hd _ this
  unfold uns
  rw [if_pos hall, hm]
  obtain ⟨h, ho⟩ := rg_ok w 8 (by omega) (grp w s) hd
  generalize (rg w 8 (grp w s)).1 = made at h ho ⊢
  generalize (rg w 8 (grp w s)).2.1 = rest at h ho ⊢
  generalize (rg w 8 (grp w s)).2.2 = over at h ho ⊢
  have hlen := h.len
  have hlow := h.low
  have hval := h.val
  rw [Nat.mul_comm w, hl] at hlen
  have e1 : over = p := by omega
  have e2 : made.length = s.length := by omega
  subst e1
  rw [hv] at hval
  have hpos := Nat.two_pow_pos over
  have e3 : rest = 0 := by
    have a : (num (2 ^ 8) made * 2 ^ over + rest) % 2 ^ over = rest := by rw [Nat.add_comm, Nat.add_mul_mod_self_right, Nat.mod_eq_of_lt hlow]
    rw [hval, Nat.mul_mod_left] at a
    exact a.symm
  subst e3
  rw [if_neg (by omega)]
  congr 1
  refine num_inj (2 ^ 8) s.length made s e2 rfl h.dig (byte_lt s) ?_
  exact Nat.eq_of_mul_eq_mul_right hpos (by simpa using hval)
theorem spl_len (w : Nat) (hw : w = 4 ∨ w = 5) (s : List UInt8) : ∃ p, p < w ∧ (spl w s).length * w = 8 * s.length + p := by
  obtain ⟨p, hp, _, hl, _⟩ := grp_ok w hw s
  exact ⟨p, hp, by rw [spl, List.length_map]; exact hl⟩
end Go.Proofs.YtaiakpigljcjbaaGreatDoor.G

/- spelt. -/
namespace Go.Proofs.YtaiakpigljcjbaaGreatDoor.G
set_option linter.unusedVariables false
open Go.RowKit

theorem conv_bytes (s : ByteArray) (W : World) : (convert 9 50 (.string s)).run Tryz.prog W = .ok (.slice (some ⟨W.heap.size, 0, none⟩) s.size (grownCap W s.size 0 5)) (Lib.bytesWorld W 5 s) :=
  Lib.run_convert_string_bytes W 9 50 5 s Tryz.underlying9 Tryz.underlying50 Tryz.underlying5
theorem conv_below (s : ByteArray) (W : World) : Below W.heap.size W (Lib.bytesWorld W 5 s) :=
  ⟨rfl, rfl, rfl, by rw [Lib.bytesWorld_size]; omega, fun k hk => Lib.bytesWorld_at_old W 5 s k hk⟩
/-- regrouped of a text's bytes. -/
theorem reg_text (s : ByteArray) (hs : s.size ≤ 10000000) (w : Nat) (hw : 1 ≤ w ∧ w ≤ 8) (W : World) (cap : Nat) :
    Calls Tryz.prog 59 #[.slice (some ⟨W.heap.size, 0, none⟩) s.size cap, .int .i64 8, .int .i64 (w : Int)] (Lib.bytesWorld W 5 s) fun e w' => ∃ v, e = .returned (.tuple #[v, .int .u16 (((rg 8 w s.data.toList).2.1 : Nat) : Int), .int .i64 (((rg 8 w s.data.toList).2.2 : Nat) : Int)]) ∧ w'.ownsRow W.heap.size 5 1 v (rg 8 w s.data.toList).1.length (bcl (rg 8 w s.data.toList).1) ∧ Below W.heap.size W w' := by
  have h := regrouped_in (Lib.bytesWorld W 5 s) W.heap.size cap s.data.toList 8 w (by omega) hw (by rw [size_list]; exact hs) (fun j hj => by
    rw [Lib.bytesWorld_cell W 5 s j (by rw [← size_list]; exact hj)]
    simp [List.getD]) (by rw [Lib.bytesWorld_size]; omega) (byte_lt _)
  refine h.mono ?_
  rintro e w' ⟨v, rfl, ho, hb⟩
  have hsz : W.heap.size ≤ (Lib.bytesWorld W 5 s).heap.size := (conv_below s W).size
  refine ⟨v, rfl, ⟨ho.1, ?_⟩, (conv_below s W).trans (hb.mono hsz)⟩
  rcases ho.2 with h | ⟨g, c, cur, h1, h2, h3⟩
  · exact .inl h
  · exact .inr ⟨g, c, cur, h1, Nat.le_trans hsz h2, h3⟩

def lettersB : ByteArray := ⟨#[48, 49, 50, 51, 52, 53, 54, 55, 56, 57, 97, 98, 99, 100, 101, 102, 103, 104, 105, 106, 107, 108, 109, 110, 111, 112, 113, 114, 115, 116, 117, 118]⟩
theorem index_ltr (x : UInt8) (h : x.toNat < 32) (W : World) : (Instr.index 9 (.string ⟨#[48, 49, 50, 51, 52, 53, 54, 55, 56, 57, 97, 98, 99, 100, 101, 102, 103, 104, 105, 106, 107, 108, 109, 110, 111, 112, 113, 114, 115, 116, 117, 118]⟩) (.int .u8 (x.toNat : Int))).run Tryz.prog W = .ok (.int .u8 ((ltr x).toNat : Int)) W := by
  rw [run_index_string _ _ _ _ _ Tryz.underlying9]
  have h0 : (0 : Int) ≤ (x.toNat : Int) := by omega
  have hn : ((x.toNat : Int)).toNat = x.toNat := by omega
  have hs : x.toNat < lettersB.size := h
  have : lettersB[x.toNat]? = some (ltr x) := by
    rw [getElem?_pos lettersB x.toNat hs]
    unfold ltr
    rw [← getElem_list lettersB x.toNat hs]
    rw [show lettersL = lettersB.data.toList from rfl, List.getElem?_eq_getElem (by rw [size_list]; exact hs)]
    rfl
  simp only [h0, hn]
  have hg : lettersB[x.toNat] = ltr x := by
    rw [getElem?_pos lettersB x.toNat hs] at this
    exact Option.some.inj this
  have hs' : (x.toNat : Int) < (lettersB.size : Int) := by omega
  rw [show (⟨#[48, 49, 50, 51, 52, 53, 54, 55, 56, 57, 97, 98, 99, 100, 101, 102, 103, 104, 105, 106, 107, 108, 109, 110, 111, 112, 113, 114, 115, 116, 117, 118]⟩ : ByteArray) = lettersB from rfl, dif_pos ⟨trivial, hs'⟩, hg]
theorem own_form {w : World} {base e n : Nat} {v : Value} {xs : List Value} (h : w.ownsRow base e 1 v n xs) (hn : 0 < n) : ∃ g cap, v = .slice (some ⟨g, 0, none⟩) n cap := by
  rcases h.2 with ⟨_, h0⟩ | ⟨g, cap, _, hv, _⟩
  · omega
  · exact ⟨g, cap, hv⟩
/-- letters laid over the first m groups. -/
def lay (gs : List UInt8) (m : Nat) : List UInt8 := (gs.take m).map ltr ++ gs.drop m
theorem lay_len (gs : List UInt8) (m : Nat) (h : m ≤ gs.length) : (lay gs m).length = gs.length := by
  rw [lay, List.length_append, List.length_map, List.length_take, List.length_drop]; omega
theorem lay_at (gs : List UInt8) (m : Nat) (h : m < gs.length) : (lay gs m)[m]? = some (gs[m]?.getD 0) := by
  rw [lay, List.getElem?_append_right (by rw [List.length_map, List.length_take]; omega), List.length_map, List.length_take, Nat.min_eq_left (by omega), Nat.sub_self, List.getElem?_drop, Nat.add_zero, List.getElem?_eq_getElem h]
  rfl
theorem lay_set (gs : List UInt8) (m : Nat) (h : m < gs.length) : (lay gs m).set m (ltr (gs[m]?.getD 0)) = lay gs (m + 1) := by
  unfold lay
  rw [List.set_append_right _ _ (by rw [List.length_map, List.length_take]; omega), List.length_map, List.length_take, Nat.min_eq_left (by omega), Nat.sub_self, List.take_add_one, List.map_append, List.append_assoc, List.drop_eq_getElem_cons h, List.getElem?_eq_getElem h]
  rfl
theorem bcl_set (l : List UInt8) (k : Nat) (x : UInt8) : (bcl l).set k (.int .u8 (x.toNat : Int)) = bcl (l.set k x) := by simp [bcl, List.map_set]
theorem bcl_at (l : List UInt8) (k : Nat) : (bcl l)[k]? = l[k]?.map fun c => Value.int .u8 (c.toNat : Int) := by simp [bcl]

set_option maxRecDepth 100000 in
set_option maxHeartbeats 1000000 in
theorem spelt_in (s : ByteArray) (hs : s.size ≤ 1048576) (w : Nat) (hw : w = 4 ∨ w = 5) (W : World) :
    Calls Tryz.prog 31 #[.string s, .int .i64 (w : Int)] W fun e w' => e = .returned (.string ⟨(spl w s.data.toList).toArray⟩) ∧ Below W.heap.size W w' := by
  obtain ⟨i0, hi, hz0, hz1, hz2⟩ := info_of info5
  have HRT := Hid.mk (fun W cap => reg_text s (by omega) w (by omega) W cap)
  obtain ⟨hok, hov⟩ := rg_ok 8 w (by omega) s.data.toList (byte_lt _)
  have hcv := conv_bytes s
  have HSP : Hid (spl w s.data.toList = (grp w s.data.toList).map ltr) := rfl
  have HGR : Hid (grp w s.data.toList = (rg 8 w s.data.toList).1 ++ if 0 < (rg 8 w s.data.toList).2.2 then [UInt8.ofNat ((rg 8 w s.data.toList).2.1 * 2 ^ (w - (rg 8 w s.data.toList).2.2))] else []) := rfl
  obtain ⟨p, hp, _, hlen, hdig⟩ := grp_ok w hw s.data.toList
  rw [HSP.out]
  have hml : (rg 8 w s.data.toList).1.length ≤ 8388608 := by
    have h1 : (rg 8 w s.data.toList).1.length * 1 ≤ (rg 8 w s.data.toList).1.length * w := Nat.mul_le_mul_left _ (by omega)
    have h2 := hok.len
    rw [size_list] at h2
    omega
  have HLOW := Hid.mk hok.low
  have hgl : (grp w s.data.toList).length ≤ 8388613 := by
    have h1 : (grp w s.data.toList).length * 1 ≤ (grp w s.data.toList).length * w := Nat.mul_le_mul_left _ (by omega)
    rw [size_list] at hlen
    omega
  have HD := Hid.mk hdig
  clear hok hlen hdig HSP
  generalize rg 8 w s.data.toList = st at HRT HGR hov hml HLOW
  obtain ⟨made, rest, over⟩ := st
  generalize grp w s.data.toList = gs at HGR hgl HD ⊢
  dsimp only at HRT HGR hov hml HLOW
  go_enter Tryz.func31, Tryz.ntmps31
  go_wp2_with fail
  refine (HRT.out _ _).mono ?_
  rintro e w1 ⟨v, rfl, hown, hb1⟩
  have HO := Hid.mk hown
  have hsz := hb1.size
  clear hown HRT hcv
  by_cases hz : 0 < over
  · have hsum : rest * 2 ^ (w - over) < 2 ^ w := by
      rw [show 2 ^ w = 2 ^ over * 2 ^ (w - over) by rw [← Nat.pow_add]; congr 1; omega]
      exact Nat.mul_lt_mul_of_pos_right HLOW.out (Nat.two_pow_pos _)
    have h25 : 2 ^ w ≤ 2 ^ 5 := Nat.pow_le_pow_right (by omega) (by omega)
    have hgr : gs = made ++ [UInt8.ofNat (rest * 2 ^ (w - over))] := by rw [HGR.out, if_pos hz]
    have hpi : (rest : Int) * 2 ^ (w - over) = ((rest * 2 ^ (w - over) : Nat) : Int) := by rw [Int.natCast_mul, Int.natCast_pow]; rfl
    have hw1 : IntKind.u16.wrap ((rest : Int) * 2 ^ (w - over)) = ((UInt8.ofNat (rest * 2 ^ (w - over))).toNat : Int) := by
      rw [hpi, UInt8.toNat_ofNat']
      generalize rest * 2 ^ (w - over) = k at hsum
      simp only [IntKind.wrap, IntKind.bits, IntKind.signed, Bool.false_and, Bool.false_eq_true, if_false]
      omega
    have hwo : ((w : Int) - (over : Int)).toNat = w - over := by omega
    generalize UInt8.ofNat (rest * 2 ^ (w - over)) = y at hgr hw1
    have hy8 := y.toNat_lt
    have HGG := Hid.mk hgr
    obtain ⟨n, hn⟩ : ∃ n, made.length + 1 = n := ⟨_, rfl⟩
    have HLN : Hid (gs.length = n) := by rw [Hid, hgr, List.length_append]; exact hn
    have hn2 : n ≤ 8388613 := by omega
    have HNN := Hid.mk hn
    clear hgr hsum h25 hpi hn
    go_wp2_with (at_builtin; refine wpList_append_own _ rfl _ _ 50 rfl W.heap.size 5 i0 (.int .u8 0) 1 1 Tryz.underlying50 hi hz0 hz1 hz2 rfl (by decide) _ _ _ rfl (HO.out.alloc _) ⟨w1.heap.size, 0, none⟩ 1 1 [.int .u8 (y.toNat : Int)] rfl rfl (cell_one_new _ _ _) (by simp [Value.oneCell']) (by unfold maxLen; omega) (by omega) (by simp; omega) ?_; intro v2 w2 hown2 hgrow2 _; have hBL : Below W.heap.size W w2 := (hb1.alloc hb1.size _).grown hgrow2 (Nat.le_trans hb1.size (by simp)) (fun k hk => (HO.out.lt k hk).1); rw [HNN.out] at hown2; obtain ⟨g, cap, rfl⟩ := own_form hown2 (by have := HNN.out; omega); have HB2 : Hid (w2.ownsRow W.heap.size 5 1 (.slice (some ⟨g, 0, none⟩) n cap) n (bcl gs)) := (by rw [Hid, HGG.out, bcl_app]; exact hown2); clear hown2 hgrow2)
    clear HGR HO HGG hgl
    go_loopw [31] (fun i wr => ∃ m : Nat, m ≤ n ∧ i = .int .i64 m ∧ wr.ownsRow W.heap.size 5 1 (.slice (some ⟨g, 0, none⟩) n cap) n (bcl (lay gs m)) ∧ Below W.heap.size W wr) (fun i _ => n - (intOf i).toNat)
    case atStart => exact ⟨0, by omega, rfl, HB2.out, hBL⟩
    case round =>
      obtain ⟨m, hm, rfl, hown2, hbl⟩ := hrel
      have HO2 := Hid.mk hown2
      by_cases hlt : m < n
      · have hmg : m < gs.length := by rw [HLN.out]; exact hlt
        have hc : wr.cell? ⟨g, m, none⟩ = some (.int .u8 ((gs[m]?.getD 0).toNat : Int)) := by rw [hown2.cellAt m (by omega), bcl_at, lay_at gs m hmg]; rfl
        have hf := hown2.frozenAt m
        have HLS := Hid.mk (lay_set gs m hmg)
        have hx32 : (gs[m]?.getD 0).toNat < 32 := by
          have h1 := HD.out (gs[m]?.getD 0) (by rw [List.getElem?_eq_getElem hmg]; exact List.getElem_mem _)
          have h2 : 2 ^ w ≤ 2 ^ 5 := Nat.pow_le_pow_right (by omega) (by omega)
          omega
        have hix := index_ltr (gs[m]?.getD 0) hx32
        generalize gs[m]?.getD 0 = x at hc HLS hix hx32
        clear hown2 hmg
        go_wp2
        go_roundw
        case rel =>
          obtain ⟨h1, h2⟩ := HO2.out.stored m (.int .u8 ((ltr x).toNat : Int))
          rw [bcl_set, HLS.out] at h1
          exact ⟨m + 1, by omega, by go_num, h1, hbl.grown h2 hbl.size (fun k hk => by cases hk; exact (HO2.out.lt g rfl).1)⟩
        case measure => simp [intOf]; omega
      · obtain rfl : m = n := by omega
        have hla : lay gs m = gs.map ltr := by rw [lay, List.take_of_length_le (by rw [HLN.out]; omega), List.drop_eq_nil_of_le (by rw [HLN.out]; omega), List.append_nil]
        have hcv := own_back HO2.out (by rw [lay_len gs m (by rw [HLN.out]; omega)]; exact HLN.out)
        rw [hla] at hcv
        clear hown2 hla
        go_wp2
        go_ret
        exact ⟨rfl, hbl⟩
  · have hgr : gs = made := by rw [HGR.out, if_neg hz, List.append_nil]
    have hB2 : w1.ownsRow W.heap.size 5 1 v gs.length (bcl gs) := by rw [hgr]; exact HO.out
    have hover : over = 0 := by omega
    subst hover
    clear hgr hz
    rcases hB2.2 with ⟨hv, hn0⟩ | ⟨g, cap, cur, hv, hg1, hg2, hg3⟩
    · subst hv
      have hnil : gs = [] := List.eq_nil_of_length_eq_zero hn0
      subst hnil
      have hcv : ∀ W : World, (convert 50 9 (.slice none 0 0)).run Tryz.prog W = .ok (.string ⟨#[]⟩) W := fun W => by kernel_rfl
      clear hB2 HGR HO HD
      go_wp2_with fail
      refine wp_loop_rounds 1 ?_
      rw [rounds_succ]
      go_wp2
      go_ret
      exact ⟨rfl, hb1⟩
    · subst hv
      obtain ⟨n, hn⟩ : ∃ n, gs.length = n := ⟨_, rfl⟩
      have HLN := Hid.mk hn
      have hn2 : n ≤ 8388613 := by omega
      rw [hn] at hB2
      have HB2 := Hid.mk hB2
      rw [hn]
      clear hB2 hn HGR HO hg1 hg2 hg3 hgl
      go_wp2_with fail
      go_loopw [31] (fun i wr => ∃ m : Nat, m ≤ n ∧ i = .int .i64 m ∧ wr.ownsRow W.heap.size 5 1 (.slice (some ⟨g, 0, none⟩) n cap) n (bcl (lay gs m)) ∧ Below W.heap.size W wr) (fun i _ => n - (intOf i).toNat)
      case atStart => exact ⟨0, by omega, rfl, HB2.out, hb1⟩
      case round =>
        obtain ⟨m, hm, rfl, hown2, hbl⟩ := hrel
        have HO2 := Hid.mk hown2
        by_cases hlt : m < n
        · have hmg : m < gs.length := by rw [HLN.out]; exact hlt
          have hc : wr.cell? ⟨g, m, none⟩ = some (.int .u8 ((gs[m]?.getD 0).toNat : Int)) := by rw [hown2.cellAt m (by omega), bcl_at, lay_at gs m hmg]; rfl
          have hf := hown2.frozenAt m
          have HLS := Hid.mk (lay_set gs m hmg)
          have hx32 : (gs[m]?.getD 0).toNat < 32 := by
            have h1 := HD.out (gs[m]?.getD 0) (by rw [List.getElem?_eq_getElem hmg]; exact List.getElem_mem _)
            have h2 : 2 ^ w ≤ 2 ^ 5 := Nat.pow_le_pow_right (by omega) (by omega)
            omega
          have hix := index_ltr (gs[m]?.getD 0) hx32
          generalize gs[m]?.getD 0 = x at hc HLS hix hx32
          clear hown2 hmg
          go_wp2
          go_roundw
          case rel =>
            obtain ⟨h1, h2⟩ := HO2.out.stored m (.int .u8 ((ltr x).toNat : Int))
            rw [bcl_set, HLS.out] at h1
            exact ⟨m + 1, by omega, by go_num, h1, hbl.grown h2 hbl.size (fun k hk => by cases hk; exact (HO2.out.lt g rfl).1)⟩
          case measure => simp [intOf]; omega
        · obtain rfl : m = n := by omega
          have hla : lay gs m = gs.map ltr := by rw [lay, List.take_of_length_le (by rw [HLN.out]; omega), List.drop_eq_nil_of_le (by rw [HLN.out]; omega), List.append_nil]
          have hcv := own_back HO2.out (by rw [lay_len gs m (by rw [HLN.out]; omega)]; exact HLN.out)
          rw [hla] at hcv
          clear hown2 hla
          go_wp2
          go_ret
          exact ⟨rfl, hbl⟩
end Go.Proofs.YtaiakpigljcjbaaGreatDoor.G
