/- spelt. -/
import Derived.Lib.ConvBytes
import Derived.Laws.OwnMore
import Derived.Test.YtdecmbpmgnoelaaDoorGNum
namespace Go.Proofs.YtdecmbpmgnoelaaDoor
set_option linter.unusedVariables false
open Go.RowKit

theorem conv_bytes (s : ByteArray) (W : World) : (convert 9 47 (.string s)).run Tryd.prog W = .ok (.slice (some ⟨W.heap.size, 0, none⟩) s.size (grownCap W s.size 0 5)) (Lib.bytesWorld W 5 s) :=
  Lib.run_convert_string_bytes W 9 47 5 s Tryd.underlying9 Tryd.underlying47 Tryd.underlying5
theorem conv_below (s : ByteArray) (W : World) : Below W.heap.size W (Lib.bytesWorld W 5 s) :=
  ⟨rfl, rfl, rfl, by rw [Lib.bytesWorld_size]; omega, fun k hk => Lib.bytesWorld_at_old W 5 s k hk⟩
/-- regrouped of a text's bytes. -/
theorem reg_text (s : ByteArray) (hs : s.size ≤ 10000000) (w : Nat) (hw : 1 ≤ w ∧ w ≤ 8) (W : World) (cap : Nat) :
    Calls Tryd.prog 42 #[.slice (some ⟨W.heap.size, 0, none⟩) s.size cap, .int .i64 8, .int .i64 (w : Int)] (Lib.bytesWorld W 5 s) fun e w' => ∃ v, e = .returned (.tuple #[v, .int .u16 (((rg 8 w s.data.toList).2.1 : Nat) : Int), .int .i64 (((rg 8 w s.data.toList).2.2 : Nat) : Int)]) ∧ w'.ownsRow W.heap.size 5 1 v (rg 8 w s.data.toList).1.length (bcl (rg 8 w s.data.toList).1) ∧ Below W.heap.size W w' := by
  have h := regrouped_in (Lib.bytesWorld W 5 s) W.heap.size cap s.data.toList 8 w (by omega) hw (by rw [size_list]; exact hs) (fun j hj => by
    rw [Lib.bytesWorld_cell W 5 s j (by rw [← size_list]; exact hj)]
    simp [List.getD]) (by rw [Lib.bytesWorld_size]; omega) (byte_lt _)
  refine h.mono ?_
  rintro e w' ⟨v, rfl, ho, hb⟩
  have hsz : W.heap.size ≤ (Lib.bytesWorld W 5 s).heap.size := (conv_below s W).size
  refine ⟨v, rfl, ⟨ho.1, ?_⟩, (conv_below s W).trans (hb.mono hsz)⟩
  rcases ho.2 with h | ⟨g, c, cur, h1, h2, h3⟩
  · exact .inl h
  · exact .inr ⟨g, c, cur, h1, Nat.le_trans hsz h2, h3⟩

def lettersB : ByteArray := ⟨#[48, 49, 50, 51, 52, 53, 54, 55, 56, 57, 97, 98, 99, 100, 101, 102, 103, 104, 105, 106, 107, 108, 109, 110, 111, 112, 113, 114, 115, 116, 117, 118]⟩
theorem index_ltr (x : UInt8) (h : x.toNat < 32) (W : World) : (Instr.index 9 (.string ⟨#[48, 49, 50, 51, 52, 53, 54, 55, 56, 57, 97, 98, 99, 100, 101, 102, 103, 104, 105, 106, 107, 108, 109, 110, 111, 112, 113, 114, 115, 116, 117, 118]⟩) (.int .u8 (x.toNat : Int))).run Tryd.prog W = .ok (.int .u8 ((ltr x).toNat : Int)) W := by
  rw [run_index_string _ _ _ _ _ Tryd.underlying9]
  have h0 : (0 : Int) ≤ (x.toNat : Int) := by omega
  have hn : ((x.toNat : Int)).toNat = x.toNat := by omega
  have hs : x.toNat < lettersB.size := h
  have : lettersB[x.toNat]? = some (ltr x) := by
    rw [getElem?_pos lettersB x.toNat hs]
    unfold ltr
    rw [← getElem_list lettersB x.toNat hs]
    rw [show lettersL = lettersB.data.toList from rfl, List.getElem?_eq_getElem (by rw [size_list]; exact hs)]
    rfl
  simp only [h0, hn]
  have hg : lettersB[x.toNat] = ltr x := by
    rw [getElem?_pos lettersB x.toNat hs] at this
    exact Option.some.inj this
  have hs' : (x.toNat : Int) < (lettersB.size : Int) := by omega
  rw [show (⟨#[48, 49, 50, 51, 52, 53, 54, 55, 56, 57, 97, 98, 99, 100, 101, 102, 103, 104, 105, 106, 107, 108, 109, 110, 111, 112, 113, 114, 115, 116, 117, 118]⟩ : ByteArray) = lettersB from rfl, dif_pos ⟨trivial, hs'⟩, hg]
theorem own_form {w : World} {base e n : Nat} {v : Value} {xs : List Value} (h : w.ownsRow base e 1 v n xs) (hn : 0 < n) : ∃ g cap, v = .slice (some ⟨g, 0, none⟩) n cap := by
  rcases h.2 with ⟨_, h0⟩ | ⟨g, cap, _, hv, _⟩
  · omega
  · exact ⟨g, cap, hv⟩
/-- letters laid over the first m groups. -/
def lay (gs : List UInt8) (m : Nat) : List UInt8 := (gs.take m).map ltr ++ gs.drop m
theorem lay_len (gs : List UInt8) (m : Nat) (h : m ≤ gs.length) : (lay gs m).length = gs.length := by
  rw [lay, List.length_append, List.length_map, List.length_take, List.length_drop]; omega
theorem lay_at (gs : List UInt8) (m : Nat) (h : m < gs.length) : (lay gs m)[m]? = some (gs[m]?.getD 0) := by
  rw [lay, List.getElem?_append_right (by rw [List.length_map, List.length_take]; omega), List.length_map, List.length_take, Nat.min_eq_left (by omega), Nat.sub_self, List.getElem?_drop, Nat.add_zero, List.getElem?_eq_getElem h]
  rfl
theorem lay_set (gs : List UInt8) (m : Nat) (h : m < gs.length) : (lay gs m).set m (ltr (gs[m]?.getD 0)) = lay gs (m + 1) := by
  unfold lay
  rw [List.set_append_right _ _ (by rw [List.length_map, List.length_take]; omega), List.length_map, List.length_take, Nat.min_eq_left (by omega), Nat.sub_self, List.take_add_one, List.map_append, List.append_assoc, List.drop_eq_getElem_cons h, List.getElem?_eq_getElem h]
  rfl
theorem bcl_set (l : List UInt8) (k : Nat) (x : UInt8) : (bcl l).set k (.int .u8 (x.toNat : Int)) = bcl (l.set k x) := by simp [bcl, List.map_set]
theorem bcl_at (l : List UInt8) (k : Nat) : (bcl l)[k]? = l[k]?.map fun c => Value.int .u8 (c.toNat : Int) := by simp [bcl]

set_option maxRecDepth 100000 in
set_option maxHeartbeats 1000000 in
theorem spelt_in (s : ByteArray) (hs : s.size ≤ 1048576) (w : Nat) (hw : w = 4 ∨ w = 5) (W : World) :
    Calls Tryd.prog 32 #[.string s, .int .i64 (w : Int)] W fun e w' => e = .returned (.string ⟨(spl w s.data.toList).toArray⟩) ∧ Below W.heap.size W w' := by
  obtain ⟨i0, hi, hz0, hz1, hz2⟩ := info_of info5
  have HRT := Hid.mk (fun W cap => reg_text s (by omega) w (by omega) W cap)
  obtain ⟨hok, hov⟩ := rg_ok 8 w (by omega) s.data.toList (byte_lt _)
  have hcv := conv_bytes s
  have HSP : Hid (spl w s.data.toList = (grp w s.data.toList).map ltr) := rfl
  have HGR : Hid (grp w s.data.toList = (rg 8 w s.data.toList).1 ++ if 0 < (rg 8 w s.data.toList).2.2 then [UInt8.ofNat ((rg 8 w s.data.toList).2.1 * 2 ^ (w - (rg 8 w s.data.toList).2.2))] else []) := rfl
  obtain ⟨p, hp, _, hlen, hdig⟩ := grp_ok w hw s.data.toList
  rw [HSP.out]
  have hml : (rg 8 w s.data.toList).1.length ≤ 8388608 := by
    have h1 : (rg 8 w s.data.toList).1.length * 1 ≤ (rg 8 w s.data.toList).1.length * w := Nat.mul_le_mul_left _ (by omega)
    have h2 := hok.len
    rw [size_list] at h2
    omega
  have HLOW := Hid.mk hok.low
  have hgl : (grp w s.data.toList).length ≤ 8388613 := by
    have h1 : (grp w s.data.toList).length * 1 ≤ (grp w s.data.toList).length * w := Nat.mul_le_mul_left _ (by omega)
    rw [size_list] at hlen
    omega
  have HD := Hid.mk hdig
  clear hok hlen hdig HSP
  generalize rg 8 w s.data.toList = st at HRT HGR hov hml HLOW
  obtain ⟨made, rest, over⟩ := st
  generalize grp w s.data.toList = gs at HGR hgl HD ⊢
  dsimp only at HRT HGR hov hml HLOW
  go_enter Tryd.func32, Tryd.ntmps32
  go_wp2_with fail
  refine (HRT.out _ _).mono ?_
  rintro e w1 ⟨v, rfl, hown, hb1⟩
  have HO := Hid.mk hown
  have hsz := hb1.size
  clear hown HRT hcv
  by_cases hz : 0 < over
  · have hsum : rest * 2 ^ (w - over) < 2 ^ w := by
      rw [show 2 ^ w = 2 ^ over * 2 ^ (w - over) by rw [← Nat.pow_add]; congr 1; omega]
      exact Nat.mul_lt_mul_of_pos_right HLOW.out (Nat.two_pow_pos _)
    have h25 : 2 ^ w ≤ 2 ^ 5 := Nat.pow_le_pow_right (by omega) (by omega)
    have hgr : gs = made ++ [UInt8.ofNat (rest * 2 ^ (w - over))] := by rw [HGR.out, if_pos hz]
    have hpi : (rest : Int) * 2 ^ (w - over) = ((rest * 2 ^ (w - over) : Nat) : Int) := by rw [Int.natCast_mul, Int.natCast_pow]; rfl
    have hw1 : IntKind.u16.wrap ((rest : Int) * 2 ^ (w - over)) = ((UInt8.ofNat (rest * 2 ^ (w - over))).toNat : Int) := by
      rw [hpi, UInt8.toNat_ofNat']
      generalize rest * 2 ^ (w - over) = k at hsum
      simp only [IntKind.wrap, IntKind.bits, IntKind.signed, Bool.false_and, Bool.false_eq_true, if_false]
      omega
    have hwo : ((w : Int) - (over : Int)).toNat = w - over := by omega
    generalize UInt8.ofNat (rest * 2 ^ (w - over)) = y at hgr hw1
    have hy8 := y.toNat_lt
    have HGG := Hid.mk hgr
    obtain ⟨n, hn⟩ : ∃ n, made.length + 1 = n := ⟨_, rfl⟩
    have HLN : Hid (gs.length = n) := by rw [Hid, hgr, List.length_append]; exact hn
    have hn2 : n ≤ 8388613 := by omega
    have HNN := Hid.mk hn
    clear hgr hsum h25 hpi hn
    go_wp2_with (at_builtin; refine wpList_append_own _ rfl _ _ 47 rfl W.heap.size 5 i0 (.int .u8 0) 1 1 Tryd.underlying47 hi hz0 hz1 hz2 rfl (by decide) _ _ _ rfl (HO.out.alloc _) ⟨w1.heap.size, 0, none⟩ 1 1 [.int .u8 (y.toNat : Int)] rfl rfl (cell_one_new _ _ _) (by simp [Value.oneCell']) (by unfold maxLen; omega) (by omega) (by simp; omega) ?_; intro v2 w2 hown2 hgrow2 _; have hBL : Below W.heap.size W w2 := (hb1.alloc hb1.size _).grown hgrow2 (Nat.le_trans hb1.size (by simp)) (fun k hk => (HO.out.lt k hk).1); rw [HNN.out] at hown2; obtain ⟨g, cap, rfl⟩ := own_form hown2 (by have := HNN.out; omega); have HB2 : Hid (w2.ownsRow W.heap.size 5 1 (.slice (some ⟨g, 0, none⟩) n cap) n (bcl gs)) := (by rw [Hid, HGG.out, bcl_app]; exact hown2); clear hown2 hgrow2)
    clear HGR HO HGG hgl
    go_loopw [31] (fun i wr => ∃ m : Nat, m ≤ n ∧ i = .int .i64 m ∧ wr.ownsRow W.heap.size 5 1 (.slice (some ⟨g, 0, none⟩) n cap) n (bcl (lay gs m)) ∧ Below W.heap.size W wr) (fun i _ => n - (intOf i).toNat)
    case atStart => exact ⟨0, by omega, rfl, HB2.out, hBL⟩
    case round =>
      obtain ⟨m, hm, rfl, hown2, hbl⟩ := hrel
      have HO2 := Hid.mk hown2
      by_cases hlt : m < n
      · have hmg : m < gs.length := by rw [HLN.out]; exact hlt
        have hc : wr.cell? ⟨g, m, none⟩ = some (.int .u8 ((gs[m]?.getD 0).toNat : Int)) := by rw [hown2.cellAt m (by omega), bcl_at, lay_at gs m hmg]; rfl
        have hf := hown2.frozenAt m
        have HLS := Hid.mk (lay_set gs m hmg)
        have hx32 : (gs[m]?.getD 0).toNat < 32 := by
          have h1 := HD.out (gs[m]?.getD 0) (by rw [List.getElem?_eq_getElem hmg]; exact List.getElem_mem _)
          have h2 : 2 ^ w ≤ 2 ^ 5 := Nat.pow_le_pow_right (by omega) (by omega)
          omega
        have hix := index_ltr (gs[m]?.getD 0) hx32
        generalize gs[m]?.getD 0 = x at hc HLS hix hx32
        clear hown2 hmg
        go_wp2
        go_roundw
        case rel =>
          obtain ⟨h1, h2⟩ := HO2.out.stored m (.int .u8 ((ltr x).toNat : Int))
          rw [bcl_set, HLS.out] at h1
          exact ⟨m + 1, by omega, by go_num, h1, hbl.grown h2 hbl.size (fun k hk => by cases hk; exact (HO2.out.lt g rfl).1)⟩
        case measure => simp [intOf]; omega
      · obtain rfl : m = n := by omega
        have hla : lay gs m = gs.map ltr := by rw [lay, List.take_of_length_le (by rw [HLN.out]; omega), List.drop_eq_nil_of_le (by rw [HLN.out]; omega), List.append_nil]
        have hcv := own_back HO2.out (by rw [lay_len gs m (by rw [HLN.out]; omega)]; exact HLN.out)
        rw [hla] at hcv
        clear hown2 hla
        go_wp2
        go_ret
        exact ⟨rfl, hbl⟩
  · have hgr : gs = made := by rw [HGR.out, if_neg hz, List.append_nil]
    have hB2 : w1.ownsRow W.heap.size 5 1 v gs.length (bcl gs) := by rw [hgr]; exact HO.out
    have hover : over = 0 := by omega
    subst hover
    clear hgr hz
    rcases hB2.2 with ⟨hv, hn0⟩ | ⟨g, cap, cur, hv, hg1, hg2, hg3⟩
    · subst hv
      have hnil : gs = [] := List.eq_nil_of_length_eq_zero hn0
      subst hnil
      have hcv : ∀ W : World, (convert 47 9 (.slice none 0 0)).run Tryd.prog W = .ok (.string ⟨#[]⟩) W := fun W => by kernel_rfl
      clear hB2 HGR HO HD
      go_wp2_with fail
      refine wp_loop_rounds 1 ?_
      rw [rounds_succ]
      go_wp2
      go_ret
      exact ⟨rfl, hb1⟩
    · subst hv
      obtain ⟨n, hn⟩ : ∃ n, gs.length = n := ⟨_, rfl⟩
      have HLN := Hid.mk hn
      have hn2 : n ≤ 8388613 := by omega
      rw [hn] at hB2
      have HB2 := Hid.mk hB2
      rw [hn]
      clear hB2 hn HGR HO hg1 hg2 hg3 hgl
      go_wp2_with fail
      go_loopw [31] (fun i wr => ∃ m : Nat, m ≤ n ∧ i = .int .i64 m ∧ wr.ownsRow W.heap.size 5 1 (.slice (some ⟨g, 0, none⟩) n cap) n (bcl (lay gs m)) ∧ Below W.heap.size W wr) (fun i _ => n - (intOf i).toNat)
      case atStart => exact ⟨0, by omega, rfl, HB2.out, hb1⟩
      case round =>
        obtain ⟨m, hm, rfl, hown2, hbl⟩ := hrel
        have HO2 := Hid.mk hown2
        by_cases hlt : m < n
        · have hmg : m < gs.length := by rw [HLN.out]; exact hlt
          have hc : wr.cell? ⟨g, m, none⟩ = some (.int .u8 ((gs[m]?.getD 0).toNat : Int)) := by rw [hown2.cellAt m (by omega), bcl_at, lay_at gs m hmg]; rfl
          have hf := hown2.frozenAt m
          have HLS := Hid.mk (lay_set gs m hmg)
          have hx32 : (gs[m]?.getD 0).toNat < 32 := by
            have h1 := HD.out (gs[m]?.getD 0) (by rw [List.getElem?_eq_getElem hmg]; exact List.getElem_mem _)
            have h2 : 2 ^ w ≤ 2 ^ 5 := Nat.pow_le_pow_right (by omega) (by omega)
            omega
          have hix := index_ltr (gs[m]?.getD 0) hx32
          generalize gs[m]?.getD 0 = x at hc HLS hix hx32
          clear hown2 hmg
          go_wp2
          go_roundw
          case rel =>
            obtain ⟨h1, h2⟩ := HO2.out.stored m (.int .u8 ((ltr x).toNat : Int))
            rw [bcl_set, HLS.out] at h1
            exact ⟨m + 1, by omega, by go_num, h1, hbl.grown h2 hbl.size (fun k hk => by cases hk; exact (HO2.out.lt g rfl).1)⟩
          case measure => simp [intOf]; omega
        · obtain rfl : m = n := by omega
          have hla : lay gs m = gs.map ltr := by rw [lay, List.take_of_length_le (by rw [HLN.out]; omega), List.drop_eq_nil_of_le (by rw [HLN.out]; omega), List.append_nil]
          have hcv := own_back HO2.out (by rw [lay_len gs m (by rw [HLN.out]; omega)]; exact HLN.out)
          rw [hla] at hcv
          clear hown2 hla
          go_wp2
          go_ret
          exact ⟨rfl, hbl⟩
end Go.Proofs.YtdecmbpmgnoelaaDoor
