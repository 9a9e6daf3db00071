/- Texts of this proof, joined: GReg, GNum, GSpelt, GUns, GTop, ZEx. -/
import Derived.Test.YtnchoogjjnjikaaGreatDoorJ16
import Derived.Lib.ConvBytes
import Derived.Laws.OwnMore
import Derived.Test.YtnchoogjjnjikaaGreatDoorJ14
/- counts, regrouped. -/
namespace Go.Proofs.YtnchoogjjnjikaaGreatDoor.G
set_option linter.unusedVariables false
open Go.RowKit
def cnt (c : UInt8) : UInt8 := if 48 ≤ c.toNat ∧ c.toNat ≤ 57 then UInt8.ofNat (c.toNat - 48) else if 97 ≤ c.toNat ∧ c.toNat ≤ 118 then UInt8.ofNat (c.toNat - 87) else if 65 ≤ c.toNat ∧ c.toNat ≤ 86 then UInt8.ofNat (c.toNat - 55) else 255
def fin (tw : Nat) (made : List UInt8) (rest over : Nat) : List UInt8 × Nat × Nat :=
  if h : 0 < tw ∧ tw ≤ over then fin tw (made ++ [UInt8.ofNat (rest / 2 ^ (over - tw))]) (rest % 2 ^ (over - tw)) (over - tw) else (made, rest, over)
termination_by over
def rgs (fr tw : Nat) (st : List UInt8 × Nat × Nat) (g : UInt8) : List UInt8 × Nat × Nat := fin tw st.1 (st.2.1 * 2 ^ fr + g.toNat) (st.2.2 + fr)
def rg (fr tw : Nat) (gs : List UInt8) : List UInt8 × Nat × Nat := gs.foldl (rgs fr tw) ([], 0, 0)
theorem fin_step (tw : Nat) (made : List UInt8) (rest o : Nat) (ht : 0 < tw) : fin tw made rest (o + tw) = fin tw (made ++ [UInt8.ofNat (rest / 2 ^ o)]) (rest % 2 ^ o) o := by
  rw [fin, dif_pos ⟨ht, by omega⟩, Nat.add_sub_cancel]
theorem fin_end (tw : Nat) (made : List UInt8) (rest over : Nat) (h : over < tw) : fin tw made rest over = (made, rest, over) := by
  rw [fin, dif_neg (by omega)]
def rgm (fr tw : Nat) (gs : List UInt8) (m : Nat) : List UInt8 × Nat × Nat := (gs.take m).foldl (rgs fr tw) ([], 0, 0)
theorem rgm_succ (fr tw : Nat) (gs : List UInt8) (m : Nat) (h : m < gs.length) : rgm fr tw gs (m + 1) = rgs fr tw (rgm fr tw gs m) (gs[m]?.getD 0) := by
  unfold rgm
  rw [List.take_add_one, List.foldl_append, List.getElem?_eq_getElem h]
  rfl
theorem rgm_all (fr tw : Nat) (gs : List UInt8) (m : Nat) (h : gs.length = m) : rgm fr tw gs m = rg fr tw gs := by
  unfold rgm rg
  rw [List.take_of_length_le (by omega)]
theorem u16_sum (r g fr : Nat) (hg : g < 2 ^ fr) (h : r * 2 ^ fr + g < 65536) : bits .or .u16 (IntKind.u16.wrap ((r : Int) * 2 ^ fr)) (g : Int) = ((r * 2 ^ fr + g : Nat) : Int) := by
  have hw : IntKind.u16.wrap ((r : Int) * 2 ^ fr) = (r : Int) * 2 ^ fr := by
    rw [show ((r : Int) * 2 ^ fr) = ((r * 2 ^ fr : Nat) : Int) by rw [Int.natCast_mul, Int.natCast_pow]; rfl]
    generalize r * 2 ^ fr = k at h
    simp only [IntKind.wrap, IntKind.bits, IntKind.signed, Bool.false_and, Bool.false_eq_true, if_false]
    omega
  rw [hw, show ((r : Int) * 2 ^ fr) = ((r * 2 ^ fr : Nat) : Int) by rw [Int.natCast_mul, Int.natCast_pow]; rfl, u16_or_nat _ _ (by omega) (by omega), Nat.mul_comm, or_sum fr r g hg]
theorem u16_low (r o : Nat) (hr : r < 65536) (ho : o ≤ 15) : bits .and .u16 (r : Int) ((2 : Int) ^ o - 1) = ((r % 2 ^ o : Nat) : Int) := by
  have hp : 2 ^ o ≤ 2 ^ 15 := Nat.pow_le_pow_right (by omega) ho
  have h1 : 1 ≤ 2 ^ o := Nat.one_le_two_pow
  rw [show ((2 : Int) ^ o - 1) = ((2 ^ o - 1 : Nat) : Int) by rw [Int.natCast_sub h1, Int.natCast_pow]; rfl, u16_and_nat _ _ hr (by omega), Nat.and_two_pow_sub_one_eq_mod]
set_option maxRecDepth 100000 in
set_option maxHeartbeats 1000000 in
theorem regrouped_in (W : World) (g cap : Nat) (gs : List UInt8) (fr tw : Nat) (hf : 1 ≤ fr ∧ fr ≤ 8) (ht : 1 ≤ tw ∧ tw ≤ 8) (hl : gs.length ≤ 10000000) (hg : ∀ j, j < gs.length → W.cell? ⟨g, j, none⟩ = some (.int .u8 ((gs[j]?.getD 0).toNat : Int))) (hb : g < W.heap.size) (hs : ∀ x ∈ gs, x.toNat < 2 ^ fr) :
    Calls Tryz.prog 51 #[.slice (some ⟨g, 0, none⟩) gs.length cap, .int .i64 (fr : Int), .int .i64 (tw : Int)] W fun e w' => ∃ v, e = .returned (.tuple #[v, .int .u16 (((rg fr tw gs).2.1 : Nat) : Int), .int .i64 (((rg fr tw gs).2.2 : Nat) : Int)]) ∧ w'.ownsRow W.heap.size 5 1 v (rg fr tw gs).1.length (bcl (rg fr tw gs).1) ∧ Below W.heap.size W w' := by
  obtain ⟨i0, hi, hz0, hz1, hz2⟩ := info_of info5
  obtain ⟨N, hN⟩ : ∃ N, gs.length = N := ⟨_, rfl⟩
  have HE := Hid.mk (rgm_all fr tw gs N hN)
  have HNx : Hid (∀ m, m < N → rgm fr tw gs (m + 1) = rgs fr tw (rgm fr tw gs m) (gs[m]?.getD 0)) := fun m hm => rgm_succ fr tw gs m (by omega)
  have HGc : Hid (∀ j, j < N → W.cell? ⟨g, j, none⟩ = some (.int .u8 ((gs[j]?.getD 0).toNat : Int))) := fun j hj => hg j (by omega)
  have HS : Hid (∀ m, m < N → (gs[m]?.getD 0).toNat < 2 ^ fr) := fun m hm => by
    rw [List.getElem?_eq_getElem (by omega)]
    exact hs _ (List.getElem_mem _)
  have H0 : Hid (rgm fr tw gs 0 = ([], 0, 0)) := rfl
  rw [← HE.out, hN]
  have hNl : N ≤ 10000000 := by omega
  generalize rgm fr tw gs = st at HNx H0 ⊢
  obtain ⟨hf1, hf2⟩ := hf
  obtain ⟨ht1, ht2⟩ := ht
  clear HE hg hs hl hN
  go_enter Tryz.func51, Tryz.ntmps51
  go_wp2_with fail
  go_loopw [6, 7, 8, 13] (fun v r o i wr => ∃ (m : Nat) (made : List UInt8) (rest over : Nat), m ≤ N ∧ i = .int .i64 m ∧ r = .int .u16 (rest : Int) ∧ o = .int .i64 (over : Int) ∧ Hid (st m = (made, rest, over)) ∧ wr.ownsRow W.heap.size 5 1 v made.length (bcl made) ∧ over < tw ∧ rest < 2 ^ over ∧ made.length * tw + over = fr * m ∧ Below W.heap.size W wr) (fun _ _ _ i _ => N - (intOf i).toNat)
  case atStart => exact ⟨0, [], 0, 0, by omega, rfl, rfl, rfl, H0, ⟨rfl, .inl ⟨rfl, rfl⟩⟩, by omega, by simp, by simp, Below.refl _ _⟩
  case round =>
    obtain ⟨m, made, rest, over, hm, rfl, rfl, rfl, HST, hown, hov, hre, hsum, hbl⟩ := hrel
    have HO := Hid.mk hown
    have HSUM := Hid.mk hsum
    have HRE := Hid.mk hre
    clear hown hsum hre
    by_cases hlt : m < N
    · have hc : wr.cell? ⟨g, m, none⟩ = some (.int .u8 ((gs[m]?.getD 0).toNat : Int)) := (hbl.cell (p := ⟨g, m, none⟩) hb).trans (HGc.out m hlt)
      have HX := Hid.mk (HS.out m hlt)
      have HNm : Hid (st (m + 1) = fin tw made (rest * 2 ^ fr + (gs[m]?.getD 0).toNat) (over + fr)) := by rw [Hid, HNx.out m hlt, HST.out]; rfl
      generalize gs[m]?.getD 0 = x at hc HX HNm
      have hbig : rest * 2 ^ fr + x.toNat < 2 ^ (over + fr) := by
        have h1 : rest + 1 ≤ 2 ^ over := HRE.out
        have h2 := Nat.mul_le_mul_right (2 ^ fr) h1
        have h3 := HX.out
        rw [Nat.pow_add]
        rw [Nat.add_mul] at h2
        omega
      have hp16 : 2 ^ (over + fr) ≤ 2 ^ 15 := Nat.pow_le_pow_right (by omega) (by omega)
      have hx8 := x.toNat_lt
      have hor := u16_sum rest x.toNat fr HX.out (by omega)
      have HBIG := Hid.mk hbig
      clear hbig
      generalize rest * 2 ^ fr + x.toNat = q at hor HBIG HNm
      have HTG : Hid (st (m + 1) = fin tw made q (over + fr)) := HNm.out
      clear HNm HRE hp16
      go_wp2_with fail
      go_loopw [6, 7, 8] (fun v r o w2 => ∃ (md : List UInt8) (q2 ov : Nat), r = .int .u16 (q2 : Int) ∧ o = .int .i64 (ov : Int) ∧ Hid (fin tw md q2 ov = fin tw made q (over + fr)) ∧ w2.ownsRow W.heap.size 5 1 v md.length (bcl md) ∧ q2 < 2 ^ ov ∧ ov ≤ 15 ∧ md.length * tw + ov = fr * (m + 1) ∧ Below W.heap.size W w2) (fun _ _ o _ => (intOf o).toNat)
      case atStart => exact ⟨made, q, over + fr, rfl, by go_num, rfl, HO.out, HBIG.out, by omega, by have := HSUM.out; rw [Nat.mul_add]; omega, hbl⟩
      case round =>
        obtain ⟨md, q2, ov, rfl, rfl, HFN, hown2, hq2, hov2, hsum2, hbl2⟩ := hrel
        have HO2 := Hid.mk hown2
        have HS2 := Hid.mk hsum2
        have hml : md.length ≤ 100000000 := by
          have h1 : md.length * 1 ≤ md.length * tw := Nat.mul_le_mul_left _ ht1
          have h2 : fr * (m + 1) ≤ 8 * (m + 1) := Nat.mul_le_mul_right _ hf2
          omega
        have hsz := hbl2.size
        have HQ2 := Hid.mk hq2
        clear hown2 hsum2 hq2
        by_cases hge : tw ≤ ov
        · obtain ⟨o, rfl⟩ : ∃ o, ov = o + tw := ⟨ov - tw, by omega⟩
          have hf := fin_step tw md q2 o (by omega)
          have hp15 : 2 ^ (o + tw) ≤ 2 ^ 15 := Nat.pow_le_pow_right (by omega) hov2
          have hq16 : q2 < 65536 := by have := HQ2.out; omega
          have hdv : q2 / 2 ^ o < 256 := by
            have h1 := HQ2.out
            rw [Nat.pow_add, Nat.mul_comm] at h1
            have h2 : q2 / 2 ^ o < 2 ^ tw := Nat.div_lt_of_lt_mul (by rw [Nat.mul_comm]; exact h1)
            have h3 : 2 ^ tw ≤ 2 ^ 8 := Nat.pow_le_pow_right (by omega) ht2
            omega
          have hdi : (q2 : Int) / 2 ^ o = ((q2 / 2 ^ o : Nat) : Int) := by rw [Int.natCast_ediv, Int.natCast_pow]; rfl
          have hyi : ((UInt8.ofNat (q2 / 2 ^ o)).toNat : Int) = (q2 : Int) / 2 ^ o := by rw [hdi, UInt8.toNat_ofNat']; generalize q2 / 2 ^ o = k at hdv; omega
          have hw1 : IntKind.u8.wrap ((q2 : Int) / 2 ^ o) = ((UInt8.ofNat (q2 / 2 ^ o)).toNat : Int) := by rw [IntKind.wrap_u8, hdi, UInt8.toNat_ofNat']; generalize q2 / 2 ^ o = k at hdv; omega
          have hlow := u16_low q2 o hq16 (by omega)
          have ho15 : 2 ^ o ≤ 2 ^ 15 := Nat.pow_le_pow_right (by omega) (by omega)
          have ho1 : 1 ≤ 2 ^ o := Nat.one_le_two_pow
          have hpi : (2 : Int) ^ o = ((2 ^ o : Nat) : Int) := by rw [Int.natCast_pow]; rfl
          have m1 : IntKind.u16.wrap ((2 : Int) ^ o) = (2 : Int) ^ o := by rw [hpi]; generalize 2 ^ o = k at ho15; simp only [IntKind.wrap, IntKind.bits, IntKind.signed, Bool.false_and, Bool.false_eq_true, if_false]; omega
          have m2 : IntKind.u16.wrap ((2 : Int) ^ o - 1) = (2 : Int) ^ o - 1 := by rw [hpi]; generalize 2 ^ o = k at ho15 ho1; simp only [IntKind.wrap, IntKind.bits, IntKind.signed, Bool.false_and, Bool.false_eq_true, if_false]; omega
          have hlt2 : q2 % 2 ^ o < 2 ^ o := Nat.mod_lt _ (by omega)
          have HLT := Hid.mk hlt2
          have HF2 := Hid.mk hf
          have HYI := Hid.mk hyi
          generalize q2 % 2 ^ o = q3 at hlow HLT HF2
          generalize UInt8.ofNat (q2 / 2 ^ o) = y at hw1 HF2 HYI
          clear hf hp15 hdi hyi hpi hlt2 ho15 ho1 hdv
          go_wp2_with (at_builtin; refine wpList_append_own _ rfl _ _ 58 rfl W.heap.size 5 i0 (.int .u8 0) 1 1 Tryz.underlying58 hi hz0 hz1 hz2 rfl (by decide) _ _ _ rfl (HO2.out.alloc _) ⟨wr.heap.size, 0, none⟩ 1 1 [.int .u8 (y.toNat : Int)] rfl rfl (cell_one_new _ _ _) (by simp [Value.oneCell']) (by unfold maxLen; omega) (by omega) (by simp; omega) ?_; intro v1 w1 hown1 hgrow1 _)
          have B2 : Below W.heap.size W w1 := (hbl2.alloc hbl2.size _).grown hgrow1 (Nat.le_trans hbl2.size (by simp)) (fun k hk => (HO2.out.lt k hk).1)
          go_roundw
          case rel =>
            refine ⟨md ++ [y], q3, o, rfl, rfl, ?_, ?_, HLT.out, by omega, ?_, B2⟩
            · rw [Hid, ← HF2.out]; exact HFN.out
            · rw [List.length_append, bcl_app]; exact hown1
            · have h := HS2.out
              rw [List.length_append, Nat.add_mul]
              simp only [List.length_singleton, Nat.one_mul]
              omega
          case measure => simp [intOf]; omega
        · have hfe := fin_end tw md q2 ov (by omega)
          have HFE : Hid (st (m + 1) = (md, q2, ov)) := by rw [Hid, HTG.out, ← HFN.out, hfe]
          clear hfe
          go_wp2
          go_roundw
          case rel => exact ⟨m + 1, md, q2, ov, by omega, by go_num, rfl, rfl, HFE, HO2.out, by omega, HQ2.out, HS2.out, hbl2⟩
          case measure => simp [intOf]; omega
    · obtain rfl : m = N := by omega
      go_wp2
      refine bodyPost_ret (v := .tuple #[u6, .int .u16 (rest : Int), .int .i64 (over : Int)]) (by simp [results, Tryz.results51, go_sem]) rfl ?_
      rw [HST.out]
      exact ⟨_, rfl, HO.out, hbl⟩
end Go.Proofs.YtnchoogjjnjikaaGreatDoor.G
/- What regrouping makes, as numbers; what is told is read again. Nothing here speaks of the program. -/
namespace Go.Proofs.YtnchoogjjnjikaaGreatDoor.G
set_option linter.unusedVariables false
def num (b : Nat) (l : List UInt8) : Nat := l.foldl (fun a x => a * b + x.toNat) 0
theorem num_snoc (b : Nat) (l : List UInt8) (x : UInt8) : num b (l ++ [x]) = num b l * b + x.toNat := by simp [num]
structure Ok (tw : Nat) (V B : Nat) (made : List UInt8) (rest over : Nat) : Prop where
  val : num (2 ^ tw) made * 2 ^ over + rest = V
  len : made.length * tw + over = B
  low : rest < 2 ^ over
  dig : ∀ x ∈ made, x.toNat < 2 ^ tw
theorem fin_ok (tw V B : Nat) (ht : 1 ≤ tw ∧ tw ≤ 8) : ∀ (over : Nat) (made : List UInt8) (rest : Nat), Ok tw V B made rest over → Ok tw V B (fin tw made rest over).1 (fin tw made rest over).2.1 (fin tw made rest over).2.2 ∧ (fin tw made rest over).2.2 < tw := by
  intro over
  induction over using Nat.strongRecOn with
  | ind over ih =>
    intro made rest h
    by_cases hge : tw ≤ over
    · obtain ⟨o, rfl⟩ : ∃ o, over = o + tw := ⟨over - tw, by omega⟩
      rw [fin_step tw made rest o (by omega)]
      have hdiv : rest / 2 ^ o < 2 ^ tw := by
        have h1 := h.low
        rw [Nat.pow_add] at h1
        exact Nat.div_lt_of_lt_mul h1
      have h8 : 2 ^ tw ≤ 2 ^ 8 := Nat.pow_le_pow_right (by omega) ht.2
      have hy : (UInt8.ofNat (rest / 2 ^ o)).toNat = rest / 2 ^ o := by
        rw [UInt8.toNat_ofNat']
        exact Nat.mod_eq_of_lt (by omega)
      refine ih o (by omega) _ _ ⟨?_, ?_, Nat.mod_lt _ (Nat.two_pow_pos o), ?_⟩
      · rw [num_snoc, hy, Nat.add_mul, Nat.mul_assoc, ← Nat.pow_add, Nat.add_comm tw o, Nat.add_assoc, Nat.mul_comm (rest / 2 ^ o), Nat.div_add_mod]
        exact h.val
      · rw [List.length_append, Nat.add_mul]
        have := h.len
        simp only [List.length_singleton, Nat.one_mul]
        omega
      · intro x hx
        rcases List.mem_append.1 hx with hx | hx
        · exact h.dig x hx
        · rw [List.mem_singleton.1 hx, hy]; exact hdiv
    · rw [fin_end tw made rest over (by omega)]
      exact ⟨h, by show over < tw; omega⟩
theorem rgs_ok (fr tw : Nat) (ht : 1 ≤ tw ∧ tw ≤ 8) (V B : Nat) (st : List UInt8 × Nat × Nat) (g : UInt8) (hg : g.toNat < 2 ^ fr) (h : Ok tw V B st.1 st.2.1 st.2.2) :
    Ok tw (V * 2 ^ fr + g.toNat) (B + fr) (rgs fr tw st g).1 (rgs fr tw st g).2.1 (rgs fr tw st g).2.2 ∧ (rgs fr tw st g).2.2 < tw := by
  refine fin_ok tw _ _ ht _ _ _ ⟨?_, ?_, ?_, h.dig⟩
  · rw [← h.val, Nat.pow_add, ← Nat.mul_assoc, Nat.add_mul]
    omega
  · have := h.len; omega
  · have h1 : st.2.1 + 1 ≤ 2 ^ st.2.2 := h.low
    have h2 := Nat.mul_le_mul_right (2 ^ fr) h1
    rw [Nat.pow_add]
    rw [Nat.add_mul] at h2
    omega
theorem fold_ok (fr tw : Nat) (ht : 1 ≤ tw ∧ tw ≤ 8) : ∀ (gs : List UInt8) (V B : Nat) (st : List UInt8 × Nat × Nat), (∀ x ∈ gs, x.toNat < 2 ^ fr) → Ok tw V B st.1 st.2.1 st.2.2 → st.2.2 < tw →
    Ok tw (gs.foldl (fun a x => a * 2 ^ fr + x.toNat) V) (B + fr * gs.length) (gs.foldl (rgs fr tw) st).1 (gs.foldl (rgs fr tw) st).2.1 (gs.foldl (rgs fr tw) st).2.2 ∧ (gs.foldl (rgs fr tw) st).2.2 < tw
  | [], V, B, st, _, h, ho => ⟨h, ho⟩
  | g :: gs, V, B, st, hs, h, ho => by
    obtain ⟨h1, h2⟩ := rgs_ok fr tw ht V B st g (hs g (by simp)) h
    have := fold_ok fr tw ht gs _ _ (rgs fr tw st g) (fun x hx => hs x (by simp [hx])) h1 h2
    rw [List.foldl_cons, List.foldl_cons, List.length_cons]
    rwa [show B + fr * (gs.length + 1) = B + fr + fr * gs.length by rw [Nat.mul_add]; omega]
theorem rg_ok (fr tw : Nat) (ht : 1 ≤ tw ∧ tw ≤ 8) (gs : List UInt8) (hs : ∀ x ∈ gs, x.toNat < 2 ^ fr) : Ok tw (num (2 ^ fr) gs) (fr * gs.length) (rg fr tw gs).1 (rg fr tw gs).2.1 (rg fr tw gs).2.2 ∧ (rg fr tw gs).2.2 < tw := by
  have := fold_ok fr tw ht gs 0 0 ([], 0, 0) hs ⟨by simp [num], by simp, by simp, by simp⟩ (by show 0 < tw; omega)
  rwa [Nat.zero_add] at this
theorem byte_lt (l : List UInt8) : ∀ x ∈ l, x.toNat < 2 ^ 8 := fun x _ => x.toNat_lt
def lettersL : List UInt8 := [48, 49, 50, 51, 52, 53, 54, 55, 56, 57, 97, 98, 99, 100, 101, 102, 103, 104, 105, 106, 107, 108, 109, 110, 111, 112, 113, 114, 115, 116, 117, 118]
def ltr (x : UInt8) : UInt8 := lettersL[x.toNat]?.getD 0
def grp (w : Nat) (s : List UInt8) : List UInt8 := (rg 8 w s).1 ++ if 0 < (rg 8 w s).2.2 then [UInt8.ofNat ((rg 8 w s).2.1 * 2 ^ (w - (rg 8 w s).2.2))] else []
def spl (w : Nat) (s : List UInt8) : List UInt8 := (grp w s).map ltr
theorem grp_ok (w : Nat) (hw : w = 4 ∨ w = 5) (s : List UInt8) : ∃ p, p < w ∧ num (2 ^ w) (grp w s) = num (2 ^ 8) s * 2 ^ p ∧ (grp w s).length * w = 8 * s.length + p ∧ ∀ x ∈ grp w s, x.toNat < 2 ^ w := by
  obtain ⟨h, ho⟩ := rg_ok 8 w (by omega) s (byte_lt s)
  unfold grp
  generalize (rg 8 w s).1 = made at h ho ⊢
  generalize (rg 8 w s).2.1 = rest at h ho ⊢
  generalize (rg 8 w s).2.2 = over at h ho ⊢
  by_cases hz : 0 < over
  · rw [if_pos hz]
    have hsum : 2 ^ over * 2 ^ (w - over) = 2 ^ w := by rw [← Nat.pow_add]; congr 1; omega
    have hlt : rest * 2 ^ (w - over) < 2 ^ w := by
      rw [← hsum]
      exact Nat.mul_lt_mul_of_pos_right h.low (Nat.two_pow_pos _)
    have h8 : 2 ^ w ≤ 2 ^ 8 := Nat.pow_le_pow_right (by omega) (by omega)
    have hy : (UInt8.ofNat (rest * 2 ^ (w - over))).toNat = rest * 2 ^ (w - over) := by
      rw [UInt8.toNat_ofNat']
      exact Nat.mod_eq_of_lt (by omega)
    refine ⟨w - over, by omega, ?_, ?_, ?_⟩
    · rw [num_snoc, hy, ← h.val, Nat.add_mul, Nat.mul_assoc, hsum]
    · rw [List.length_append, Nat.add_mul]
      have := h.len
      simp only [List.length_singleton, Nat.one_mul]
      omega
    · intro x hx
      rcases List.mem_append.1 hx with hx | hx
      · exact h.dig x hx
      · rw [List.mem_singleton.1 hx, hy]; exact hlt
  · rw [if_neg hz, List.append_nil]
    obtain rfl : over = 0 := by omega
    have hr : rest = 0 := by have := h.low; simpa using this
    refine ⟨0, by omega, ?_, ?_, h.dig⟩
    · have := h.val
      rw [hr] at this
      simpa using this
    · have := h.len
      omega
end Go.Proofs.YtnchoogjjnjikaaGreatDoor.G
/- spelt. -/
namespace Go.Proofs.YtnchoogjjnjikaaGreatDoor.G
set_option linter.unusedVariables false
open Go.RowKit
theorem conv_bytes (s : ByteArray) (W : World) : (convert 9 58 (.string s)).run Tryz.prog W = .ok (.slice (some ⟨W.heap.size, 0, none⟩) s.size (grownCap W s.size 0 5)) (Lib.bytesWorld W 5 s) :=
  Lib.run_convert_string_bytes W 9 58 5 s Tryz.underlying9 Tryz.underlying58 Tryz.underlying5
theorem conv_below (s : ByteArray) (W : World) : Below W.heap.size W (Lib.bytesWorld W 5 s) :=
  ⟨rfl, rfl, rfl, by rw [Lib.bytesWorld_size]; omega, fun k hk => Lib.bytesWorld_at_old W 5 s k hk⟩
theorem reg_text (s : ByteArray) (hs : s.size ≤ 10000000) (w : Nat) (hw : 1 ≤ w ∧ w ≤ 8) (W : World) (cap : Nat) :
    Calls Tryz.prog 51 #[.slice (some ⟨W.heap.size, 0, none⟩) s.size cap, .int .i64 8, .int .i64 (w : Int)] (Lib.bytesWorld W 5 s) fun e w' => ∃ v, e = .returned (.tuple #[v, .int .u16 (((rg 8 w s.data.toList).2.1 : Nat) : Int), .int .i64 (((rg 8 w s.data.toList).2.2 : Nat) : Int)]) ∧ w'.ownsRow W.heap.size 5 1 v (rg 8 w s.data.toList).1.length (bcl (rg 8 w s.data.toList).1) ∧ Below W.heap.size W w' := by
  have h := regrouped_in (Lib.bytesWorld W 5 s) W.heap.size cap s.data.toList 8 w (by omega) hw (by rw [size_list]; exact hs) (fun j hj => by
    rw [Lib.bytesWorld_cell W 5 s j (by rw [← size_list]; exact hj)]
    simp [List.getD]) (by rw [Lib.bytesWorld_size]; omega) (byte_lt _)
  refine h.mono ?_
  rintro e w' ⟨v, rfl, ho, hb⟩
  have hsz : W.heap.size ≤ (Lib.bytesWorld W 5 s).heap.size := (conv_below s W).size
  refine ⟨v, rfl, ⟨ho.1, ?_⟩, (conv_below s W).trans (hb.mono hsz)⟩
  rcases ho.2 with h | ⟨g, c, cur, h1, h2, h3⟩
  · exact .inl h
  · exact .inr ⟨g, c, cur, h1, Nat.le_trans hsz h2, h3⟩
def lettersB : ByteArray := ⟨#[48, 49, 50, 51, 52, 53, 54, 55, 56, 57, 97, 98, 99, 100, 101, 102, 103, 104, 105, 106, 107, 108, 109, 110, 111, 112, 113, 114, 115, 116, 117, 118]⟩
theorem index_ltr (x : UInt8) (h : x.toNat < 32) (W : World) : (Instr.index 9 (.string ⟨#[48, 49, 50, 51, 52, 53, 54, 55, 56, 57, 97, 98, 99, 100, 101, 102, 103, 104, 105, 106, 107, 108, 109, 110, 111, 112, 113, 114, 115, 116, 117, 118]⟩) (.int .u8 (x.toNat : Int))).run Tryz.prog W = .ok (.int .u8 ((ltr x).toNat : Int)) W := by
  rw [run_index_string _ _ _ _ _ Tryz.underlying9]
  have h0 : (0 : Int) ≤ (x.toNat : Int) := by omega
  have hn : ((x.toNat : Int)).toNat = x.toNat := by omega
  have hs : x.toNat < lettersB.size := h
  have : lettersB[x.toNat]? = some (ltr x) := by
    rw [getElem?_pos lettersB x.toNat hs]
    unfold ltr
    rw [← getElem_list lettersB x.toNat hs]
    rw [show lettersL = lettersB.data.toList from rfl, List.getElem?_eq_getElem (by rw [size_list]; exact hs)]
    rfl
  simp only [h0, hn]
  have hg : lettersB[x.toNat] = ltr x := by
    rw [getElem?_pos lettersB x.toNat hs] at this
    exact Option.some.inj this
  have hs' : (x.toNat : Int) < (lettersB.size : Int) := by omega
  rw [show (⟨#[48, 49, 50, 51, 52, 53, 54, 55, 56, 57, 97, 98, 99, 100, 101, 102, 103, 104, 105, 106, 107, 108, 109, 110, 111, 112, 113, 114, 115, 116, 117, 118]⟩ : ByteArray) = lettersB from rfl, dif_pos ⟨trivial, hs'⟩, hg]
theorem own_form {w : World} {base e n : Nat} {v : Value} {xs : List Value} (h : w.ownsRow base e 1 v n xs) (hn : 0 < n) : ∃ g cap, v = .slice (some ⟨g, 0, none⟩) n cap := by
  rcases h.2 with ⟨_, h0⟩ | ⟨g, cap, _, hv, _⟩
  · omega
  · exact ⟨g, cap, hv⟩
def lay (gs : List UInt8) (m : Nat) : List UInt8 := (gs.take m).map ltr ++ gs.drop m
theorem lay_len (gs : List UInt8) (m : Nat) (h : m ≤ gs.length) : (lay gs m).length = gs.length := by
  rw [lay, List.length_append, List.length_map, List.length_take, List.length_drop]; omega
theorem lay_at (gs : List UInt8) (m : Nat) (h : m < gs.length) : (lay gs m)[m]? = some (gs[m]?.getD 0) := by
  rw [lay, List.getElem?_append_right (by rw [List.length_map, List.length_take]; omega), List.length_map, List.length_take, Nat.min_eq_left (by omega), Nat.sub_self, List.getElem?_drop, Nat.add_zero, List.getElem?_eq_getElem h]
  rfl
theorem lay_set (gs : List UInt8) (m : Nat) (h : m < gs.length) : (lay gs m).set m (ltr (gs[m]?.getD 0)) = lay gs (m + 1) := by
  unfold lay
  rw [List.set_append_right _ _ (by rw [List.length_map, List.length_take]; omega), List.length_map, List.length_take, Nat.min_eq_left (by omega), Nat.sub_self, List.take_add_one, List.map_append, List.append_assoc, List.drop_eq_getElem_cons h, List.getElem?_eq_getElem h]
  rfl
theorem bcl_set (l : List UInt8) (k : Nat) (x : UInt8) : (bcl l).set k (.int .u8 (x.toNat : Int)) = bcl (l.set k x) := by simp [bcl, List.map_set]
theorem bcl_at (l : List UInt8) (k : Nat) : (bcl l)[k]? = l[k]?.map fun c => Value.int .u8 (c.toNat : Int) := by simp [bcl]
set_option maxRecDepth 100000 in
set_option maxHeartbeats 1000000 in
theorem spelt_in (s : ByteArray) (hs : s.size ≤ 1048576) (w : Nat) (hw : w = 4 ∨ w = 5) (W : World) :
    Calls Tryz.prog 27 #[.string s, .int .i64 (w : Int)] W fun e w' => e = .returned (.string ⟨(spl w s.data.toList).toArray⟩) ∧ Below W.heap.size W w' := by
  obtain ⟨i0, hi, hz0, hz1, hz2⟩ := info_of info5
  have HRT := Hid.mk (fun W cap => reg_text s (by omega) w (by omega) W cap)
  obtain ⟨hok, hov⟩ := rg_ok 8 w (by omega) s.data.toList (byte_lt _)
  have hcv := conv_bytes s
  have HSP : Hid (spl w s.data.toList = (grp w s.data.toList).map ltr) := rfl
  have HGR : Hid (grp w s.data.toList = (rg 8 w s.data.toList).1 ++ if 0 < (rg 8 w s.data.toList).2.2 then [UInt8.ofNat ((rg 8 w s.data.toList).2.1 * 2 ^ (w - (rg 8 w s.data.toList).2.2))] else []) := rfl
  obtain ⟨p, hp, _, hlen, hdig⟩ := grp_ok w hw s.data.toList
  rw [HSP.out]
  have hml : (rg 8 w s.data.toList).1.length ≤ 8388608 := by
    have h1 : (rg 8 w s.data.toList).1.length * 1 ≤ (rg 8 w s.data.toList).1.length * w := Nat.mul_le_mul_left _ (by omega)
    have h2 := hok.len
    rw [size_list] at h2
    omega
  have HLOW := Hid.mk hok.low
  have hgl : (grp w s.data.toList).length ≤ 8388613 := by
    have h1 : (grp w s.data.toList).length * 1 ≤ (grp w s.data.toList).length * w := Nat.mul_le_mul_left _ (by omega)
    rw [size_list] at hlen
    omega
  have HD := Hid.mk hdig
  clear hok hlen hdig HSP
  generalize rg 8 w s.data.toList = st at HRT HGR hov hml HLOW
  obtain ⟨made, rest, over⟩ := st
  generalize grp w s.data.toList = gs at HGR hgl HD ⊢
  dsimp only at HRT HGR hov hml HLOW
  go_enter Tryz.func27, Tryz.ntmps27
  go_wp2_with fail
  refine (HRT.out _ _).mono ?_
  rintro e w1 ⟨v, rfl, hown, hb1⟩
  have HO := Hid.mk hown
  have hsz := hb1.size
  clear hown HRT hcv
  by_cases hz : 0 < over
  · have hsum : rest * 2 ^ (w - over) < 2 ^ w := by
      rw [show 2 ^ w = 2 ^ over * 2 ^ (w - over) by rw [← Nat.pow_add]; congr 1; omega]
      exact Nat.mul_lt_mul_of_pos_right HLOW.out (Nat.two_pow_pos _)
    have h25 : 2 ^ w ≤ 2 ^ 5 := Nat.pow_le_pow_right (by omega) (by omega)
    have hgr : gs = made ++ [UInt8.ofNat (rest * 2 ^ (w - over))] := by rw [HGR.out, if_pos hz]
    have hpi : (rest : Int) * 2 ^ (w - over) = ((rest * 2 ^ (w - over) : Nat) : Int) := by rw [Int.natCast_mul, Int.natCast_pow]; rfl
    have hw1 : IntKind.u16.wrap ((rest : Int) * 2 ^ (w - over)) = ((UInt8.ofNat (rest * 2 ^ (w - over))).toNat : Int) := by
      rw [hpi, UInt8.toNat_ofNat']
      generalize rest * 2 ^ (w - over) = k at hsum
      simp only [IntKind.wrap, IntKind.bits, IntKind.signed, Bool.false_and, Bool.false_eq_true, if_false]
      omega
    have hwo : ((w : Int) - (over : Int)).toNat = w - over := by omega
    generalize UInt8.ofNat (rest * 2 ^ (w - over)) = y at hgr hw1
    have hy8 := y.toNat_lt
    have HGG := Hid.mk hgr
    obtain ⟨n, hn⟩ : ∃ n, made.length + 1 = n := ⟨_, rfl⟩
    have HLN : Hid (gs.length = n) := by rw [Hid, hgr, List.length_append]; exact hn
    have hn2 : n ≤ 8388613 := by omega
    have HNN := Hid.mk hn
    clear hgr hsum h25 hpi hn
    go_wp2_with (at_builtin; refine wpList_append_own _ rfl _ _ 58 rfl W.heap.size 5 i0 (.int .u8 0) 1 1 Tryz.underlying58 hi hz0 hz1 hz2 rfl (by decide) _ _ _ rfl (HO.out.alloc _) ⟨w1.heap.size, 0, none⟩ 1 1 [.int .u8 (y.toNat : Int)] rfl rfl (cell_one_new _ _ _) (by simp [Value.oneCell']) (by unfold maxLen; omega) (by omega) (by simp; omega) ?_; intro v2 w2 hown2 hgrow2 _; have hBL : Below W.heap.size W w2 := (hb1.alloc hb1.size _).grown hgrow2 (Nat.le_trans hb1.size (by simp)) (fun k hk => (HO.out.lt k hk).1); rw [HNN.out] at hown2; obtain ⟨g, cap, rfl⟩ := own_form hown2 (by have := HNN.out; omega); have HB2 : Hid (w2.ownsRow W.heap.size 5 1 (.slice (some ⟨g, 0, none⟩) n cap) n (bcl gs)) := (by rw [Hid, HGG.out, bcl_app]; exact hown2); clear hown2 hgrow2)
    clear HGR HO HGG hgl
    go_loopw [31] (fun i wr => ∃ m : Nat, m ≤ n ∧ i = .int .i64 m ∧ wr.ownsRow W.heap.size 5 1 (.slice (some ⟨g, 0, none⟩) n cap) n (bcl (lay gs m)) ∧ Below W.heap.size W wr) (fun i _ => n - (intOf i).toNat)
    case atStart => exact ⟨0, by omega, rfl, HB2.out, hBL⟩
    case round =>
      obtain ⟨m, hm, rfl, hown2, hbl⟩ := hrel
      have HO2 := Hid.mk hown2
      by_cases hlt : m < n
      · have hmg : m < gs.length := by rw [HLN.out]; exact hlt
        have hc : wr.cell? ⟨g, m, none⟩ = some (.int .u8 ((gs[m]?.getD 0).toNat : Int)) := by rw [hown2.cellAt m (by omega), bcl_at, lay_at gs m hmg]; rfl
        have hf := hown2.frozenAt m
        have HLS := Hid.mk (lay_set gs m hmg)
        have hx32 : (gs[m]?.getD 0).toNat < 32 := by
          have h1 := HD.out (gs[m]?.getD 0) (by rw [List.getElem?_eq_getElem hmg]; exact List.getElem_mem _)
          have h2 : 2 ^ w ≤ 2 ^ 5 := Nat.pow_le_pow_right (by omega) (by omega)
          omega
        have hix := index_ltr (gs[m]?.getD 0) hx32
        generalize gs[m]?.getD 0 = x at hc HLS hix hx32
        clear hown2 hmg
        go_wp2
        go_roundw
        case rel =>
          obtain ⟨h1, h2⟩ := HO2.out.stored m (.int .u8 ((ltr x).toNat : Int))
          rw [bcl_set, HLS.out] at h1
          exact ⟨m + 1, by omega, by go_num, h1, hbl.grown h2 hbl.size (fun k hk => by cases hk; exact (HO2.out.lt g rfl).1)⟩
        case measure => simp [intOf]; omega
      · obtain rfl : m = n := by omega
        have hla : lay gs m = gs.map ltr := by rw [lay, List.take_of_length_le (by rw [HLN.out]; omega), List.drop_eq_nil_of_le (by rw [HLN.out]; omega), List.append_nil]
        have hcv := own_back HO2.out (by rw [lay_len gs m (by rw [HLN.out]; omega)]; exact HLN.out)
        rw [hla] at hcv
        clear hown2 hla
        go_wp2
        go_ret
        exact ⟨rfl, hbl⟩
  · have hgr : gs = made := by rw [HGR.out, if_neg hz, List.append_nil]
    have hB2 : w1.ownsRow W.heap.size 5 1 v gs.length (bcl gs) := by rw [hgr]; exact HO.out
    have hover : over = 0 := by omega
    subst hover
    clear hgr hz
    rcases hB2.2 with ⟨hv, hn0⟩ | ⟨g, cap, cur, hv, hg1, hg2, hg3⟩
    · subst hv
      have hnil : gs = [] := List.eq_nil_of_length_eq_zero hn0
      subst hnil
      have hcv : ∀ W : World, (convert 58 9 (.slice none 0 0)).run Tryz.prog W = .ok (.string ⟨#[]⟩) W := fun W => by kernel_rfl
      clear hB2 HGR HO HD
      go_wp2_with fail
      refine wp_loop_rounds 1 ?_
      rw [rounds_succ]
      go_wp2
      go_ret
      exact ⟨rfl, hb1⟩
    · subst hv
      obtain ⟨n, hn⟩ : ∃ n, gs.length = n := ⟨_, rfl⟩
      have HLN := Hid.mk hn
      have hn2 : n ≤ 8388613 := by omega
      rw [hn] at hB2
      have HB2 := Hid.mk hB2
      rw [hn]
      clear hB2 hn HGR HO hg1 hg2 hg3 hgl
      go_wp2_with fail
      go_loopw [31] (fun i wr => ∃ m : Nat, m ≤ n ∧ i = .int .i64 m ∧ wr.ownsRow W.heap.size 5 1 (.slice (some ⟨g, 0, none⟩) n cap) n (bcl (lay gs m)) ∧ Below W.heap.size W wr) (fun i _ => n - (intOf i).toNat)
      case atStart => exact ⟨0, by omega, rfl, HB2.out, hb1⟩
      case round =>
        obtain ⟨m, hm, rfl, hown2, hbl⟩ := hrel
        have HO2 := Hid.mk hown2
        by_cases hlt : m < n
        · have hmg : m < gs.length := by rw [HLN.out]; exact hlt
          have hc : wr.cell? ⟨g, m, none⟩ = some (.int .u8 ((gs[m]?.getD 0).toNat : Int)) := by rw [hown2.cellAt m (by omega), bcl_at, lay_at gs m hmg]; rfl
          have hf := hown2.frozenAt m
          have HLS := Hid.mk (lay_set gs m hmg)
          have hx32 : (gs[m]?.getD 0).toNat < 32 := by
            have h1 := HD.out (gs[m]?.getD 0) (by rw [List.getElem?_eq_getElem hmg]; exact List.getElem_mem _)
            have h2 : 2 ^ w ≤ 2 ^ 5 := Nat.pow_le_pow_right (by omega) (by omega)
            omega
          have hix := index_ltr (gs[m]?.getD 0) hx32
          generalize gs[m]?.getD 0 = x at hc HLS hix hx32
          clear hown2 hmg
          go_wp2
          go_roundw
          case rel =>
            obtain ⟨h1, h2⟩ := HO2.out.stored m (.int .u8 ((ltr x).toNat : Int))
            rw [bcl_set, HLS.out] at h1
            exact ⟨m + 1, by omega, by go_num, h1, hbl.grown h2 hbl.size (fun k hk => by cases hk; exact (HO2.out.lt g rfl).1)⟩
          case measure => simp [intOf]; omega
        · obtain rfl : m = n := by omega
          have hla : lay gs m = gs.map ltr := by rw [lay, List.take_of_length_le (by rw [HLN.out]; omega), List.drop_eq_nil_of_le (by rw [HLN.out]; omega), List.append_nil]
          have hcv := own_back HO2.out (by rw [lay_len gs m (by rw [HLN.out]; omega)]; exact HLN.out)
          rw [hla] at hcv
          clear hown2 hla
          go_wp2
          go_ret
          exact ⟨rfl, hbl⟩
end Go.Proofs.YtnchoogjjnjikaaGreatDoor.G
/- unspelt. -/
namespace Go.Proofs.YtnchoogjjnjikaaGreatDoor.G
set_option linter.unusedVariables false
open Go.RowKit
end Go.Proofs.YtnchoogjjnjikaaGreatDoor.G
/- Hex, Base32, Unhex, Unbase32; the examples. -/
namespace Go.Proofs.YtnchoogjjnjikaaGreatDoor.G
set_option linter.unusedVariables false
open Go.RowKit
theorem b32_in (s : ByteArray) (hs : s.size ≤ 1048576) (W : World) : Calls Tryz.prog 16 #[.string s] W fun e w' => e = .returned (.string ⟨(spl 5 s.data.toList).toArray⟩) ∧ Below W.heap.size W w' := by
  have H := Hid.mk (spelt_in s hs 5 (.inr rfl))
  go_enter Tryz.func16, Tryz.ntmps16
  go_wp2_with fail
  refine (H.out _).mono ?_
  rintro e w1 ⟨rfl, hb⟩
  go_wp2
  go_ret
  exact ⟨rfl, hb⟩
end Go.Proofs.YtnchoogjjnjikaaGreatDoor.G
/- The chapter's examples. -/
namespace Go.Proofs.YtnchoogjjnjikaaGreatDoor
set_option linter.unusedVariables false
set_option linter.unusedSimpArgs false
open Go.RowKit
attribute [local go_sem ↓] storeAt_lk loadAt_lk
theorem st_loadV {W : World} {b : Nat} {x0 x1 x2 x3 x4 x5 : Value} (h : W.heap[b]? = some (.cells #[x0, x1, x2, x3, x4, x5] 40 (0, 0))) : (loadVar 40 ⟨b, 0, none⟩).run Tryz.prog W = .ok (.agg #[x0, x1, x2, x3, x4, x5]) W :=
  run_loadVar_row W b _ _ _ (0, 0) _ h Tryz.underlying40 rfl sizeSt
theorem results_st {fn : Func} {p : Tmp} (h : fn.results = #[.cell p 40]) {tmps : Array Value} {W : World} {b : Nat} {x0 x1 x2 x3 x4 x5 : Value} (hp : tmps.getD p undef = .pointer (some ⟨b, 0, none⟩)) (hb : W.heap[b]? = some (.cells #[x0, x1, x2, x3, x4, x5] 40 (0, 0))) : (results fn tmps).run Tryz.prog W = .ok (.agg #[x0, x1, x2, x3, x4, x5]) W := by
  have hp' : tmps[p]?.getD undef = .pointer (some ⟨b, 0, none⟩) := by simpa using hp
  simp only [results, h]
  simp [hp', asAddr, st_loadV hb]
attribute [local go_sem ↓] storeAt_st loadAt_st
set_option maxRecDepth 100000 in
set_option maxHeartbeats 2000000 in
theorem nsecV_in (a b c : ByteArray) (hz : ¬ (9223372036854775807 < b.size + c.size)) (W : World) : Calls Tryz.prog 13 #[.string a, .string b, .string c] W fun e w' => (∃ g, e = .returned (.agg #[.string a, .int .i64 47, .int .i64 1, .int .i64 0, .slice (some ⟨g, 0, none⟩) 1 1, .slice none 0 0]) ∧ w'.cell? ⟨g, 0, none⟩ = some (.string (b ++ c)) ∧ g < w'.heap.size) ∧ Below W.heap.size W w' := by
  obtain ⟨V, hV, F⟩ : ∃ V, W.alloc (Obj.cells #[.string ⟨#[]⟩, .int .i64 0, .int .i64 0, .int .i64 0, .slice none 0 0, .slice none 0 0] 40 (0, 0)) = V ∧ Fm W [(W.heap.size, Obj.cells #[.string ⟨#[]⟩, .int .i64 0, .int .i64 0, .int .i64 0, .slice none 0 0, .slice none 0 0] 40 (0, 0))] V := ⟨_, rfl, Fm.box1 W _⟩
  have F2 := F.new (Obj.cells #[.string (b ++ c)] 9 (0, 0))
  have s6 := stStore_run (x0 := .string a) (x1 := .int .i64 47) (x2 := .int .i64 1) (x3 := .int .i64 0) (x4 := .slice (some ⟨V.heap.size, 0, none⟩) 1 1) (x5 := .slice none 0 0) (F2.get 1 rfl) rfl rfl rfl rfl rfl rfl
  have F4 := F2.put 1 #[.string a, .int .i64 47, .int .i64 1, .int .i64 0, .slice (some ⟨V.heap.size, 0, none⟩) 1 1, .slice none 0 0] rfl
  go_enter Tryz.func13, Tryz.ntmps13
  go_upto_region 1 with fail
  clear hV
  go_wp2
  exact bodyPost_ret (results_st Tryz.results13 rfl (F4.get 1 rfl)) rfl ⟨⟨V.heap.size, rfl, (cells_at (F4.get 0 rfl) rfl).1, box_lt (F4.get 0 rfl)⟩, F4.bel⟩
def exX : List (List UInt8) := [[120]]
def exB' : List (List UInt8) := [[98], [120]]
def exA' : List (List UInt8) := [[97], [120]]
def exCB : List (List UInt8) := [[99], [98], [120]]
theorem okX : OkN exX := ⟨by decide, by decide⟩
theorem okB : OkN exB' := ⟨by decide, by decide⟩
theorem okA : OkN exA' := ⟨by decide, by decide⟩
theorem okCB : OkN exCB := ⟨by decide, by decide⟩
def gd1 : Gd := ⟨⟨exX, exB', [2, 6]⟩, ⟨#[1, 98, 1, 120, 0]⟩ ++ ⟨#[0, 1, 34]⟩⟩
def gd2 : Gd := ⟨⟨exB', exX, [1]⟩, ⟨#[1, 120, 0]⟩ ++ ⟨#[0, 1, 64]⟩⟩
theorem ty1 : typesR ⟨#[0, 1, 34]⟩ = some [2, 6] := by decide +kernel
theorem ty2 : typesR ⟨#[0, 1, 64]⟩ = some [1] := by decide +kernel
theorem sp1 : splitR 47 gd1.d = some [nm exB', ⟨#[0, 1, 34]⟩] := (split_iff 47 _ _).2 ⟨by decide, by decide, rfl, ⟨⟨exB', okB, rfl⟩, (show (typesR ⟨#[0, 1, 34]⟩).isSome = true by rw [ty1]; rfl), trivial⟩⟩
theorem sp2 : splitR 47 gd2.d = some [nm exX, ⟨#[0, 1, 64]⟩] := (split_iff 47 _ _).2 ⟨by decide, by decide, rfl, ⟨⟨exX, okX, rfl⟩, (show (typesR ⟨#[0, 1, 64]⟩).isSome = true by rw [ty2]; rfl), trivial⟩⟩
theorem gdOk1 : gd1.Ok := ⟨⟨okX, okB, by decide⟩, fun w => nsec_good gd1.d (nm exB') ⟨#[0, 1, 34]⟩ [2, 6] sp1 ty1 w, fun w => right_good gd1.d sp1 w⟩
theorem gdOk2 : gd2.Ok := ⟨⟨okB, okX, by decide⟩, fun w => nsec_good gd2.d (nm exX) ⟨#[0, 1, 64]⟩ [1] sp2 ty2 w, fun w => right_good gd2.d sp2 w⟩
def exKs : List Lk := [gd1, gd2].map (·.k)
theorem ex1 : nameR exKs exA' = 1 := by decide +kernel
theorem ex2 : nameR exKs exB' = 0 := by decide +kernel
theorem ex3 : nameR exKs exCB = 1 := by decide +kernel
theorem ex4 : typeR exKs exB' 16 = 1 := by decide +kernel
theorem ex5 : typeR exKs exB' 1 = 0 := by decide +kernel
theorem ex6 : nearR exKs exA' exX = 1 := by decide +kernel
def exN : List (List UInt8) := [[101, 120, 97, 109, 112, 108, 101]]
theorem okNx : OkN exN := ⟨by decide, by decide⟩
def exH : ByteArray := hashB exN ⟨#[170, 187, 204, 221]⟩ 12
theorem ex7 : G.spl 5 exH.data.toList = [48, 112, 57, 109, 104, 97, 118, 101, 113, 118, 109, 54, 116, 55, 118, 98, 108, 53, 108, 111, 112, 50, 117, 51, 116, 50, 114, 112, 51, 116, 111, 109] := by decide +kernel
theorem gd_all : ∀ g ∈ [gd1, gd2], g.Ok := fun g hg => by
  simp only [List.mem_cons, List.not_mem_nil, or_false] at hg
  rcases hg with rfl | rfl
  · exact gdOk1
  · exact gdOk2
theorem gd_und : ∀ g ∈ [gd1, gd2], undB g.k.o exX = true := fun g hg => by
  simp only [List.mem_cons, List.not_mem_nil, or_false] at hg
  rcases hg with rfl | rfl
  · decide +kernel
  · decide +kernel
set_option maxRecDepth 100000 in
set_option maxHeartbeats 2000000 in
theorem examples9_in (W : World) : Calls Tryz.prog 4 #[] W fun e w' => e = .returned (.bool true) ∧ Below W.heap.size W w' := by
  have N1 := Hid.mk (nsecV_in ⟨#[1, 120, 0]⟩ ⟨#[1, 98, 1, 120, 0]⟩ ⟨#[0, 1, 34]⟩ (by decide))
  have N2 := Hid.mk (nsecV_in ⟨#[1, 98, 1, 120, 0]⟩ ⟨#[1, 120, 0]⟩ ⟨#[0, 1, 64]⟩ (by decide))
  have HH : Hid (∀ w, Calls Tryz.prog 14 #[.string ⟨#[7, 101, 120, 97, 109, 112, 108, 101, 0]⟩, .string ⟨#[170, 187, 204, 221]⟩, .int .i64 12] w fun e w' => e = .returned (.tuple #[.string exH, .int .i64 0]) ∧ Below w.heap.size w w') := fun w => hash_ok exN okNx ⟨#[170, 187, 204, 221]⟩ (by decide) 12 (by omega) w
  have HA : Hid (∀ w v, StAt w v [gd1, gd2] → Calls Tryz.prog 8 #[v, .string ⟨#[1, 97, 1, 120, 0]⟩, .string ⟨#[1, 120, 0]⟩] w fun e w' => e = .returned (.int .i64 1) ∧ Below w.heap.size w w') := fun w v h => by
    have := name_in exX exA' okA (by decide +kernel) [gd1, gd2] okX (by decide) (by simp) gd_all gd_und v w h
    rwa [show nameR ([gd1, gd2].map (·.k)) exA' = 1 from ex1] at this
  have HBn : Hid (∀ w v, StAt w v [gd1, gd2] → Calls Tryz.prog 8 #[v, .string ⟨#[1, 98, 1, 120, 0]⟩, .string ⟨#[1, 120, 0]⟩] w fun e w' => e = .returned (.int .i64 0) ∧ Below w.heap.size w w') := fun w v h => by
    have := name_in exX exB' okB (by decide +kernel) [gd1, gd2] okX (by decide) (by simp) gd_all gd_und v w h
    rwa [show nameR ([gd1, gd2].map (·.k)) exB' = 0 from ex2] at this
  have HCn : Hid (∀ w v, StAt w v [gd1, gd2] → Calls Tryz.prog 8 #[v, .string ⟨#[1, 99, 1, 98, 1, 120, 0]⟩, .string ⟨#[1, 120, 0]⟩] w fun e w' => e = .returned (.int .i64 1) ∧ Below w.heap.size w w') := fun w v h => by
    have := name_in exX exCB okCB (by decide +kernel) [gd1, gd2] okX (by decide) (by simp) gd_all gd_und v w h
    rwa [show nameR ([gd1, gd2].map (·.k)) exCB = 1 from ex3] at this
  have HT1 : Hid (∀ w v, StAt w v [gd1, gd2] → Calls Tryz.prog 10 #[v, .string ⟨#[1, 98, 1, 120, 0]⟩, .int .i64 16, .string ⟨#[1, 120, 0]⟩] w fun e w' => e = .returned (.int .i64 1) ∧ Below w.heap.size w w') := fun w v h => by
    have := type_in exX exB' 16 (by decide) okB (by decide +kernel) [gd1, gd2] okX (by decide) (by simp) gd_all gd_und v w h
    rwa [show typeR ([gd1, gd2].map (·.k)) exB' 16 = 1 from ex4] at this
  have HT2 : Hid (∀ w v, StAt w v [gd1, gd2] → Calls Tryz.prog 10 #[v, .string ⟨#[1, 98, 1, 120, 0]⟩, .int .i64 1, .string ⟨#[1, 120, 0]⟩] w fun e w' => e = .returned (.int .i64 0) ∧ Below w.heap.size w w') := fun w v h => by
    have := type_in exX exB' 1 (by decide) okB (by decide +kernel) [gd1, gd2] okX (by decide) (by simp) gd_all gd_und v w h
    rwa [show typeR ([gd1, gd2].map (·.k)) exB' 1 = 0 from ex5] at this
  have HWi : Hid (∀ w v, StAt w v [gd1, gd2] → Calls Tryz.prog 15 #[v, .string ⟨#[1, 97, 1, 120, 0]⟩, .string ⟨#[1, 120, 0]⟩, .string ⟨#[1, 120, 0]⟩] w fun e w' => e = .returned (.int .i64 1) ∧ Below w.heap.size w w') := fun w v h => by
    have := wild_in exX exA' exX okA okX (by decide +kernel) (by decide +kernel) (by decide +kernel) [gd1, gd2] okX (by decide) (by simp) gd_all gd_und v w h
    rwa [show nearR ([gd1, gd2].map (·.k)) exA' exX = 1 from ex6] at this
  have HB32 : Hid (∀ w, Calls Tryz.prog 16 #[.string exH] w fun e w' => e = .returned (.string ⟨#[48, 112, 57, 109, 104, 97, 118, 101, 113, 118, 109, 54, 116, 55, 118, 98, 108, 53, 108, 111, 112, 50, 117, 51, 116, 50, 114, 112, 51, 116, 111, 109]⟩) ∧ Below w.heap.size w w') := fun w => by
    have := G.b32_in exH (by show (hsh _ _ 13).toArray.size ≤ 1048576; simp only [List.size_toArray]; exact Nat.le_trans (hsh_len _ _ (by decide) 13) (by decide)) w
    rwa [ex7] at this
  have HSt : Hid (∀ (w z : World) (g1 g2 : Nat), g1 < w.heap.size → g2 < w.heap.size → w.cell? ⟨g1, 0, none⟩ = some (.string (⟨#[1, 98, 1, 120, 0]⟩ ++ ⟨#[0, 1, 34]⟩)) → w.cell? ⟨g2, 0, none⟩ = some (.string (⟨#[1, 120, 0]⟩ ++ ⟨#[0, 1, 64]⟩)) → w.alloc (Obj.cells #[.string ⟨#[1, 120, 0]⟩, .int .i64 47, .int .i64 1, .int .i64 0, .slice (some ⟨g1, 0, none⟩) 1 1, .slice none 0 0, .string ⟨#[1, 98, 1, 120, 0]⟩, .int .i64 47, .int .i64 1, .int .i64 0, .slice (some ⟨g2, 0, none⟩) 1 1, .slice none 0 0] 40 (0, 0)) = z → StAt z (.slice (some ⟨w.heap.size, 0, none⟩) 2 2) [gd1, gd2]) := fun w z g1 g2 l1 l2 c1 c2 hz => by
    have hb : Below w.heap.size w z := by rw [← hz]; exact (Below.refl _ _).alloc (Nat.le_refl _) _
    have hh : z.heap[w.heap.size]? = some (Obj.cells #[.string ⟨#[1, 120, 0]⟩, .int .i64 47, .int .i64 1, .int .i64 0, .slice (some ⟨g1, 0, none⟩) 1 1, .slice none 0 0, .string ⟨#[1, 98, 1, 120, 0]⟩, .int .i64 47, .int .i64 1, .int .i64 0, .slice (some ⟨g2, 0, none⟩) 1 1, .slice none 0 0] 40 (0, 0)) := by rw [← hz]; exact heap_new _ _
    have hlt := box_lt hh
    refine ⟨_, 2, rfl, fun j hj => ?_⟩
    match j, hj with
    | 0, _ => exact ⟨w.heap.size, g1, 1, rfl, hlt, (cells_at (j := 0) hh rfl).1, (cells_at (j := 1) hh rfl).1, (cells_at (j := 2) hh rfl).1, (cells_at (j := 3) hh rfl).1, (cells_at (j := 4) hh rfl).1, (cells_at (j := 5) hh rfl).1, Nat.lt_of_lt_of_le l1 hb.size, (hb.cell (p := ⟨g1, 0, none⟩) l1).trans c1⟩
    | 1, _ => exact ⟨w.heap.size, g2, 1, rfl, hlt, (cells_at (j := 6) hh rfl).1, (cells_at (j := 7) hh rfl).1, (cells_at (j := 8) hh rfl).1, (cells_at (j := 9) hh rfl).1, (cells_at (j := 10) hh rfl).1, (cells_at (j := 11) hh rfl).1, Nat.lt_of_lt_of_le l2 hb.size, (hb.cell (p := ⟨g2, 0, none⟩) l2).trans c2⟩
  generalize exH = hx at HH HB32
  obtain ⟨da, hda⟩ : ∃ d, (⟨#[1, 98, 1, 120, 0]⟩ : ByteArray) ++ ⟨#[0, 1, 34]⟩ = d := ⟨_, rfl⟩
  obtain ⟨db, hdb⟩ : ∃ d, (⟨#[1, 120, 0]⟩ : ByteArray) ++ ⟨#[0, 1, 64]⟩ = d := ⟨_, rfl⟩
  rw [hda] at N1 HSt
  rw [hdb] at N2 HSt
  obtain ⟨L, hL⟩ : ∃ L, [gd1, gd2] = L := ⟨_, rfl⟩
  rw [hL] at HSt HA HBn HCn HT1 HT2 HWi
  clear hda hdb hL
  have F := Fm.start W
  go_enter Tryz.func4, Tryz.ntmps4
  go_wp2_with fail
  refine (N1.out _).mono ?_
  rintro e u1 ⟨⟨g1, rfl, c1, l1⟩, hb⟩
  replace F := F.blk hb
  clear hb
  go_wp2_with fail
  refine (N2.out _).mono ?_
  rintro e u2 ⟨⟨g2, rfl, c2, l2⟩, hb⟩
  replace F := F.blk hb
  replace c1 := (hb.cell (p := ⟨g1, 0, none⟩) l1).trans c1
  replace l1 := Nat.lt_of_lt_of_le l1 hb.size
  clear hb
  go_upto_region 2 with fail
  have F2 := F.alloc (Obj.cells #[.string ⟨#[1, 120, 0]⟩, .int .i64 47, .int .i64 1, .int .i64 0, .slice (some ⟨g1, 0, none⟩) 1 1, .slice none 0 0, .string ⟨#[1, 98, 1, 120, 0]⟩, .int .i64 47, .int .i64 1, .int .i64 0, .slice (some ⟨g2, 0, none⟩) 1 1, .slice none 0 0] 40 (0, 0))
  obtain ⟨z, hz⟩ : ∃ z, u2.alloc (Obj.cells #[.string ⟨#[1, 120, 0]⟩, .int .i64 47, .int .i64 1, .int .i64 0, .slice (some ⟨g1, 0, none⟩) 1 1, .slice none 0 0, .string ⟨#[1, 98, 1, 120, 0]⟩, .int .i64 47, .int .i64 1, .int .i64 0, .slice (some ⟨g2, 0, none⟩) 1 1, .slice none 0 0] 40 (0, 0)) = z := ⟨_, rfl⟩
  have st := HSt.out u2 z g1 g2 l1 l2 c1 c2 hz
  rw [hz] at F2 ⊢
  clear hz F c1 c2 l1 l2
  generalize u2.heap.size = b1 at st ⊢
  have F := F2
  clear F2
  go_wp2_with fail
  refine (HH.out _).mono ?_
  rintro e u3 ⟨rfl, hb⟩
  replace F := F.blk hb
  replace st := st.blk hb
  clear hb
  go_wp2_with fail
  refine (HA.out _ _ st).mono ?_
  rintro e u4 ⟨rfl, hb⟩
  replace F := F.blk hb
  replace st := st.blk hb
  clear hb
  go_wp2_with fail
  refine (HBn.out _ _ st).mono ?_
  rintro e u5 ⟨rfl, hb⟩
  replace F := F.blk hb
  replace st := st.blk hb
  clear hb
  go_wp2_with fail
  refine (HCn.out _ _ st).mono ?_
  rintro e u6 ⟨rfl, hb⟩
  replace F := F.blk hb
  replace st := st.blk hb
  clear hb
  go_wp2_with fail
  refine (HT1.out _ _ st).mono ?_
  rintro e u7 ⟨rfl, hb⟩
  replace F := F.blk hb
  replace st := st.blk hb
  clear hb
  go_wp2_with fail
  refine (HT2.out _ _ st).mono ?_
  rintro e u8 ⟨rfl, hb⟩
  replace F := F.blk hb
  replace st := st.blk hb
  clear hb
  go_wp2_with fail
  refine (HWi.out _ _ st).mono ?_
  rintro e u9 ⟨rfl, hb⟩
  replace F := F.blk hb
  replace st := st.blk hb
  clear hb
  go_wp2_with fail
  refine (HB32.out _).mono ?_
  rintro e u10 ⟨rfl, hb⟩
  replace F := F.blk hb
  replace st := st.blk hb
  clear hb
  go_wp2
  go_ret
  exact ⟨by first | rfl | simp, F.bel⟩
end Go.Proofs.YtnchoogjjnjikaaGreatDoor