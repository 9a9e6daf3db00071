/- Texts of this proof, joined: GNum, GSpelt, GUns, GTop, CCv, CScl. -/
import Derived.Test.YtpimliebiapnfaaGreatDoorJ12
import Derived.Lib.ConvBytes
import Derived.Laws.OwnMore
import Derived.Test.YtpimliebiapnfaaGreatDoorJ9
import Derived.Test.YtpimliebiapnfaaGreatDoorJ4
/- What regrouping makes, as numbers; what is told is read again. Nothing here speaks of the program. -/
namespace Go.Proofs.YtpimliebiapnfaaGreatDoor.G
set_option linter.unusedVariables false
def num (b : Nat) (l : List UInt8) : Nat := l.foldl (fun a x => a * b + x.toNat) 0
theorem num_snoc (b : Nat) (l : List UInt8) (x : UInt8) : num b (l ++ [x]) = num b l * b + x.toNat := by simp [num]
structure Ok (tw : Nat) (V B : Nat) (made : List UInt8) (rest over : Nat) : Prop where
  val : num (2 ^ tw) made * 2 ^ over + rest = V
  len : made.length * tw + over = B
  low : rest < 2 ^ over
  dig : ∀ x ∈ made, x.toNat < 2 ^ tw
theorem fin_ok (tw V B : Nat) (ht : 1 ≤ tw ∧ tw ≤ 8) : ∀ (over : Nat) (made : List UInt8) (rest : Nat), Ok tw V B made rest over → Ok tw V B (fin tw made rest over).1 (fin tw made rest over).2.1 (fin tw made rest over).2.2 ∧ (fin tw made rest over).2.2 < tw := by
  intro over
  induction over using Nat.strongRecOn with
  | ind over ih =>
    intro made rest h
    by_cases hge : tw ≤ over
    · obtain ⟨o, rfl⟩ : ∃ o, over = o + tw := ⟨over - tw, by omega⟩
      rw [fin_step tw made rest o (by omega)]
      have hdiv : rest / 2 ^ o < 2 ^ tw := by
        have h1 := h.low
        rw [Nat.pow_add] at h1
        exact Nat.div_lt_of_lt_mul h1
      have h8 : 2 ^ tw ≤ 2 ^ 8 := Nat.pow_le_pow_right (by omega) ht.2
      have hy : (UInt8.ofNat (rest / 2 ^ o)).toNat = rest / 2 ^ o := by
        rw [UInt8.toNat_ofNat']
        exact Nat.mod_eq_of_lt (by omega)
      refine ih o (by omega) _ _ ⟨?_, ?_, Nat.mod_lt _ (Nat.two_pow_pos o), ?_⟩
      · rw [num_snoc, hy, Nat.add_mul, Nat.mul_assoc, ← Nat.pow_add, Nat.add_comm tw o, Nat.add_assoc, Nat.mul_comm (rest / 2 ^ o), Nat.div_add_mod]
        exact h.val
      · rw [List.length_append, Nat.add_mul]
        have := h.len
        simp only [List.length_singleton, Nat.one_mul]
        omega
      · intro x hx
        rcases List.mem_append.1 hx with hx | hx
        · exact h.dig x hx
        · rw [List.mem_singleton.1 hx, hy]; exact hdiv
    · rw [fin_end tw made rest over (by omega)]
      exact ⟨h, by show over < tw; omega⟩
theorem rgs_ok (fr tw : Nat) (ht : 1 ≤ tw ∧ tw ≤ 8) (V B : Nat) (st : List UInt8 × Nat × Nat) (g : UInt8) (hg : g.toNat < 2 ^ fr) (h : Ok tw V B st.1 st.2.1 st.2.2) :
    Ok tw (V * 2 ^ fr + g.toNat) (B + fr) (rgs fr tw st g).1 (rgs fr tw st g).2.1 (rgs fr tw st g).2.2 ∧ (rgs fr tw st g).2.2 < tw := by
  refine fin_ok tw _ _ ht _ _ _ ⟨?_, ?_, ?_, h.dig⟩
  · rw [← h.val, Nat.pow_add, ← Nat.mul_assoc, Nat.add_mul]
    omega
  · have := h.len; omega
  · have h1 : st.2.1 + 1 ≤ 2 ^ st.2.2 := h.low
    have h2 := Nat.mul_le_mul_right (2 ^ fr) h1
    rw [Nat.pow_add]
    rw [Nat.add_mul] at h2
    omega
theorem fold_ok (fr tw : Nat) (ht : 1 ≤ tw ∧ tw ≤ 8) : ∀ (gs : List UInt8) (V B : Nat) (st : List UInt8 × Nat × Nat), (∀ x ∈ gs, x.toNat < 2 ^ fr) → Ok tw V B st.1 st.2.1 st.2.2 → st.2.2 < tw →
    Ok tw (gs.foldl (fun a x => a * 2 ^ fr + x.toNat) V) (B + fr * gs.length) (gs.foldl (rgs fr tw) st).1 (gs.foldl (rgs fr tw) st).2.1 (gs.foldl (rgs fr tw) st).2.2 ∧ (gs.foldl (rgs fr tw) st).2.2 < tw
  | [], V, B, st, _, h, ho => ⟨h, ho⟩
  | g :: gs, V, B, st, hs, h, ho => by
    obtain ⟨h1, h2⟩ := rgs_ok fr tw ht V B st g (hs g (by simp)) h
    have := fold_ok fr tw ht gs _ _ (rgs fr tw st g) (fun x hx => hs x (by simp [hx])) h1 h2
    rw [List.foldl_cons, List.foldl_cons, List.length_cons]
    rwa [show B + fr * (gs.length + 1) = B + fr + fr * gs.length by rw [Nat.mul_add]; omega]
theorem rg_ok (fr tw : Nat) (ht : 1 ≤ tw ∧ tw ≤ 8) (gs : List UInt8) (hs : ∀ x ∈ gs, x.toNat < 2 ^ fr) : Ok tw (num (2 ^ fr) gs) (fr * gs.length) (rg fr tw gs).1 (rg fr tw gs).2.1 (rg fr tw gs).2.2 ∧ (rg fr tw gs).2.2 < tw := by
  have := fold_ok fr tw ht gs 0 0 ([], 0, 0) hs ⟨by simp [num], by simp, by simp, by simp⟩ (by show 0 < tw; omega)
  rwa [Nat.zero_add] at this
theorem byte_lt (l : List UInt8) : ∀ x ∈ l, x.toNat < 2 ^ 8 := fun x _ => x.toNat_lt
def lettersL : List UInt8 := [48, 49, 50, 51, 52, 53, 54, 55, 56, 57, 97, 98, 99, 100, 101, 102, 103, 104, 105, 106, 107, 108, 109, 110, 111, 112, 113, 114, 115, 116, 117, 118]
def ltr (x : UInt8) : UInt8 := lettersL[x.toNat]?.getD 0
def grp (w : Nat) (s : List UInt8) : List UInt8 := (rg 8 w s).1 ++ if 0 < (rg 8 w s).2.2 then [UInt8.ofNat ((rg 8 w s).2.1 * 2 ^ (w - (rg 8 w s).2.2))] else []
def spl (w : Nat) (s : List UInt8) : List UInt8 := (grp w s).map ltr
def uns (w : Nat) (t : List UInt8) : Option (List UInt8) := if ∀ c ∈ t, (cnt c).toNat < 2 ^ w then (if w ≤ (rg w 8 (t.map cnt)).2.2 ∨ (rg w 8 (t.map cnt)).2.1 ≠ 0 then none else some (rg w 8 (t.map cnt)).1) else none
theorem grp_ok (w : Nat) (hw : w = 4 ∨ w = 5) (s : List UInt8) : ∃ p, p < w ∧ num (2 ^ w) (grp w s) = num (2 ^ 8) s * 2 ^ p ∧ (grp w s).length * w = 8 * s.length + p ∧ ∀ x ∈ grp w s, x.toNat < 2 ^ w := by
  obtain ⟨h, ho⟩ := rg_ok 8 w (by omega) s (byte_lt s)
  unfold grp
  generalize (rg 8 w s).1 = made at h ho ⊢
  generalize (rg 8 w s).2.1 = rest at h ho ⊢
  generalize (rg 8 w s).2.2 = over at h ho ⊢
  by_cases hz : 0 < over
  · rw [if_pos hz]
    have hsum : 2 ^ over * 2 ^ (w - over) = 2 ^ w := by rw [← Nat.pow_add]; congr 1; omega
    have hlt : rest * 2 ^ (w - over) < 2 ^ w := by
      rw [← hsum]
      exact Nat.mul_lt_mul_of_pos_right h.low (Nat.two_pow_pos _)
    have h8 : 2 ^ w ≤ 2 ^ 8 := Nat.pow_le_pow_right (by omega) (by omega)
    have hy : (UInt8.ofNat (rest * 2 ^ (w - over))).toNat = rest * 2 ^ (w - over) := by
      rw [UInt8.toNat_ofNat']
      exact Nat.mod_eq_of_lt (by omega)
    refine ⟨w - over, by omega, ?_, ?_, ?_⟩
    · rw [num_snoc, hy, ← h.val, Nat.add_mul, Nat.mul_assoc, hsum]
    · rw [List.length_append, Nat.add_mul]
      have := h.len
      simp only [List.length_singleton, Nat.one_mul]
      omega
    · intro x hx
      rcases List.mem_append.1 hx with hx | hx
      · exact h.dig x hx
      · rw [List.mem_singleton.1 hx, hy]; exact hlt
  · rw [if_neg hz, List.append_nil]
    obtain rfl : over = 0 := by omega
    have hr : rest = 0 := by have := h.low; simpa using this
    refine ⟨0, by omega, ?_, ?_, h.dig⟩
    · have := h.val
      rw [hr] at this
      simpa using this
    · have := h.len
      omega
theorem num_inj (b : Nat) : ∀ (n : Nat) (l m : List UInt8), l.length = n → m.length = n → (∀ x ∈ l, x.toNat < b) → (∀ x ∈ m, x.toNat < b) → num b l = num b m → l = m
  | 0, l, m, hl, hm, _, _, _ => by rw [List.eq_nil_of_length_eq_zero hl, List.eq_nil_of_length_eq_zero hm]
  | n + 1, l, m, hl, hm, h1, h2, h => by
    obtain ⟨l', x, rfl⟩ : ∃ l' x, l = l' ++ [x] := ⟨l.dropLast, l.getLast (by intro e; rw [e] at hl; cases hl), (List.dropLast_concat_getLast _).symm⟩
    obtain ⟨m', y, rfl⟩ : ∃ m' y, m = m' ++ [y] := ⟨m.dropLast, m.getLast (by intro e; rw [e] at hm; cases hm), (List.dropLast_concat_getLast _).symm⟩
    rw [num_snoc, num_snoc] at h
    have hx := h1 x (by simp)
    have hy := h2 y (by simp)
    have hb : 0 < b := by omega
    have e1 : num b l' = num b m' := by
      have a1 : (num b l' * b + x.toNat) / b = num b l' := by rw [Nat.mul_comm, Nat.mul_add_div hb, Nat.div_eq_of_lt hx, Nat.add_zero]
      have a2 : (num b m' * b + y.toNat) / b = num b m' := by rw [Nat.mul_comm, Nat.mul_add_div hb, Nat.div_eq_of_lt hy, Nat.add_zero]
      rw [← a1, ← a2, h]
    have e2 : x = y := by
      rw [e1] at h
      exact UInt8.toNat_inj.1 (by omega)
    rw [e2, num_inj b n l' m' (by simp at hl; exact hl) (by simp at hm; exact hm) (fun z hz => h1 z (by simp [hz])) (fun z hz => h2 z (by simp [hz])) e1]
end Go.Proofs.YtpimliebiapnfaaGreatDoor.G
/- spelt. -/
namespace Go.Proofs.YtpimliebiapnfaaGreatDoor.G
set_option linter.unusedVariables false
open Go.RowKit
theorem conv_bytes (s : ByteArray) (W : World) : (convert 9 90 (.string s)).run Tryz.prog W = .ok (.slice (some ⟨W.heap.size, 0, none⟩) s.size (grownCap W s.size 0 5)) (Lib.bytesWorld W 5 s) :=
  Lib.run_convert_string_bytes W 9 90 5 s Tryz.underlying9 Tryz.underlying90 Tryz.underlying5
theorem conv_below (s : ByteArray) (W : World) : Below W.heap.size W (Lib.bytesWorld W 5 s) :=
  ⟨rfl, rfl, rfl, by rw [Lib.bytesWorld_size]; omega, fun k hk => Lib.bytesWorld_at_old W 5 s k hk⟩
theorem reg_text (s : ByteArray) (hs : s.size ≤ 10000000) (w : Nat) (hw : 1 ≤ w ∧ w ≤ 8) (W : World) (cap : Nat) :
    Calls Tryz.prog 80 #[.slice (some ⟨W.heap.size, 0, none⟩) s.size cap, .int .i64 8, .int .i64 (w : Int)] (Lib.bytesWorld W 5 s) fun e w' => ∃ v, e = .returned (.tuple #[v, .int .u16 (((rg 8 w s.data.toList).2.1 : Nat) : Int), .int .i64 (((rg 8 w s.data.toList).2.2 : Nat) : Int)]) ∧ w'.ownsRow W.heap.size 5 1 v (rg 8 w s.data.toList).1.length (bcl (rg 8 w s.data.toList).1) ∧ Below W.heap.size W w' := by
  have h := regrouped_in (Lib.bytesWorld W 5 s) W.heap.size cap s.data.toList 8 w (by omega) hw (by rw [size_list]; exact hs) (fun j hj => by
    rw [Lib.bytesWorld_cell W 5 s j (by rw [← size_list]; exact hj)]
    simp [List.getD]) (by rw [Lib.bytesWorld_size]; omega) (byte_lt _)
  refine h.mono ?_
  rintro e w' ⟨v, rfl, ho, hb⟩
  have hsz : W.heap.size ≤ (Lib.bytesWorld W 5 s).heap.size := (conv_below s W).size
  refine ⟨v, rfl, ⟨ho.1, ?_⟩, (conv_below s W).trans (hb.mono hsz)⟩
  rcases ho.2 with h | ⟨g, c, cur, h1, h2, h3⟩
  · exact .inl h
  · exact .inr ⟨g, c, cur, h1, Nat.le_trans hsz h2, h3⟩
def lettersB : ByteArray := ⟨#[48, 49, 50, 51, 52, 53, 54, 55, 56, 57, 97, 98, 99, 100, 101, 102, 103, 104, 105, 106, 107, 108, 109, 110, 111, 112, 113, 114, 115, 116, 117, 118]⟩
theorem index_ltr (x : UInt8) (h : x.toNat < 32) (W : World) : (Instr.index 9 (.string ⟨#[48, 49, 50, 51, 52, 53, 54, 55, 56, 57, 97, 98, 99, 100, 101, 102, 103, 104, 105, 106, 107, 108, 109, 110, 111, 112, 113, 114, 115, 116, 117, 118]⟩) (.int .u8 (x.toNat : Int))).run Tryz.prog W = .ok (.int .u8 ((ltr x).toNat : Int)) W := by
  rw [run_index_string _ _ _ _ _ Tryz.underlying9]
  have h0 : (0 : Int) ≤ (x.toNat : Int) := by omega
  have hn : ((x.toNat : Int)).toNat = x.toNat := by omega
  have hs : x.toNat < lettersB.size := h
  have : lettersB[x.toNat]? = some (ltr x) := by
    rw [getElem?_pos lettersB x.toNat hs]
    unfold ltr
    rw [← getElem_list lettersB x.toNat hs]
    rw [show lettersL = lettersB.data.toList from rfl, List.getElem?_eq_getElem (by rw [size_list]; exact hs)]
    rfl
  simp only [h0, hn]
  have hg : lettersB[x.toNat] = ltr x := by
    rw [getElem?_pos lettersB x.toNat hs] at this
    exact Option.some.inj this
  have hs' : (x.toNat : Int) < (lettersB.size : Int) := by omega
  rw [show (⟨#[48, 49, 50, 51, 52, 53, 54, 55, 56, 57, 97, 98, 99, 100, 101, 102, 103, 104, 105, 106, 107, 108, 109, 110, 111, 112, 113, 114, 115, 116, 117, 118]⟩ : ByteArray) = lettersB from rfl, dif_pos ⟨trivial, hs'⟩, hg]
theorem own_form {w : World} {base e n : Nat} {v : Value} {xs : List Value} (h : w.ownsRow base e 1 v n xs) (hn : 0 < n) : ∃ g cap, v = .slice (some ⟨g, 0, none⟩) n cap := by
  rcases h.2 with ⟨_, h0⟩ | ⟨g, cap, _, hv, _⟩
  · omega
  · exact ⟨g, cap, hv⟩
def lay (gs : List UInt8) (m : Nat) : List UInt8 := (gs.take m).map ltr ++ gs.drop m
theorem lay_len (gs : List UInt8) (m : Nat) (h : m ≤ gs.length) : (lay gs m).length = gs.length := by
  rw [lay, List.length_append, List.length_map, List.length_take, List.length_drop]; omega
theorem lay_at (gs : List UInt8) (m : Nat) (h : m < gs.length) : (lay gs m)[m]? = some (gs[m]?.getD 0) := by
  rw [lay, List.getElem?_append_right (by rw [List.length_map, List.length_take]; omega), List.length_map, List.length_take, Nat.min_eq_left (by omega), Nat.sub_self, List.getElem?_drop, Nat.add_zero, List.getElem?_eq_getElem h]
  rfl
theorem lay_set (gs : List UInt8) (m : Nat) (h : m < gs.length) : (lay gs m).set m (ltr (gs[m]?.getD 0)) = lay gs (m + 1) := by
  unfold lay
  rw [List.set_append_right _ _ (by rw [List.length_map, List.length_take]; omega), List.length_map, List.length_take, Nat.min_eq_left (by omega), Nat.sub_self, List.take_add_one, List.map_append, List.append_assoc, List.drop_eq_getElem_cons h, List.getElem?_eq_getElem h]
  rfl
theorem bcl_set (l : List UInt8) (k : Nat) (x : UInt8) : (bcl l).set k (.int .u8 (x.toNat : Int)) = bcl (l.set k x) := by simp [bcl, List.map_set]
theorem bcl_at (l : List UInt8) (k : Nat) : (bcl l)[k]? = l[k]?.map fun c => Value.int .u8 (c.toNat : Int) := by simp [bcl]
set_option maxRecDepth 100000 in
set_option maxHeartbeats 1000000 in
theorem spelt_in (s : ByteArray) (hs : s.size ≤ 1048576) (w : Nat) (hw : w = 4 ∨ w = 5) (W : World) :
    Calls Tryz.prog 42 #[.string s, .int .i64 (w : Int)] W fun e w' => e = .returned (.string ⟨(spl w s.data.toList).toArray⟩) ∧ Below W.heap.size W w' := by
  obtain ⟨i0, hi, hz0, hz1, hz2⟩ := info_of info5
  have HRT := Hid.mk (fun W cap => reg_text s (by omega) w (by omega) W cap)
  obtain ⟨hok, hov⟩ := rg_ok 8 w (by omega) s.data.toList (byte_lt _)
  have hcv := conv_bytes s
  have HSP : Hid (spl w s.data.toList = (grp w s.data.toList).map ltr) := rfl
  have HGR : Hid (grp w s.data.toList = (rg 8 w s.data.toList).1 ++ if 0 < (rg 8 w s.data.toList).2.2 then [UInt8.ofNat ((rg 8 w s.data.toList).2.1 * 2 ^ (w - (rg 8 w s.data.toList).2.2))] else []) := rfl
  obtain ⟨p, hp, _, hlen, hdig⟩ := grp_ok w hw s.data.toList
  rw [HSP.out]
  have hml : (rg 8 w s.data.toList).1.length ≤ 8388608 := by
    have h1 : (rg 8 w s.data.toList).1.length * 1 ≤ (rg 8 w s.data.toList).1.length * w := Nat.mul_le_mul_left _ (by omega)
    have h2 := hok.len
    rw [size_list] at h2
    omega
  have HLOW := Hid.mk hok.low
  have hgl : (grp w s.data.toList).length ≤ 8388613 := by
    have h1 : (grp w s.data.toList).length * 1 ≤ (grp w s.data.toList).length * w := Nat.mul_le_mul_left _ (by omega)
    rw [size_list] at hlen
    omega
  have HD := Hid.mk hdig
  clear hok hlen hdig HSP
  generalize rg 8 w s.data.toList = st at HRT HGR hov hml HLOW
  obtain ⟨made, rest, over⟩ := st
  generalize grp w s.data.toList = gs at HGR hgl HD ⊢
  dsimp only at HRT HGR hov hml HLOW
  go_enter Tryz.func42, Tryz.ntmps42
  go_wp2_with fail
  refine (HRT.out _ _).mono ?_
  rintro e w1 ⟨v, rfl, hown, hb1⟩
  have HO := Hid.mk hown
  have hsz := hb1.size
  clear hown HRT hcv
  by_cases hz : 0 < over
  · have hsum : rest * 2 ^ (w - over) < 2 ^ w := by
      rw [show 2 ^ w = 2 ^ over * 2 ^ (w - over) by rw [← Nat.pow_add]; congr 1; omega]
      exact Nat.mul_lt_mul_of_pos_right HLOW.out (Nat.two_pow_pos _)
    have h25 : 2 ^ w ≤ 2 ^ 5 := Nat.pow_le_pow_right (by omega) (by omega)
    have hgr : gs = made ++ [UInt8.ofNat (rest * 2 ^ (w - over))] := by rw [HGR.out, if_pos hz]
    have hpi : (rest : Int) * 2 ^ (w - over) = ((rest * 2 ^ (w - over) : Nat) : Int) := by rw [Int.natCast_mul, Int.natCast_pow]; rfl
    have hw1 : IntKind.u16.wrap ((rest : Int) * 2 ^ (w - over)) = ((UInt8.ofNat (rest * 2 ^ (w - over))).toNat : Int) := by
      rw [hpi, UInt8.toNat_ofNat']
      generalize rest * 2 ^ (w - over) = k at hsum
      simp only [IntKind.wrap, IntKind.bits, IntKind.signed, Bool.false_and, Bool.false_eq_true, if_false]
      omega
    have hwo : ((w : Int) - (over : Int)).toNat = w - over := by omega
    generalize UInt8.ofNat (rest * 2 ^ (w - over)) = y at hgr hw1
    have hy8 := y.toNat_lt
    have HGG := Hid.mk hgr
    obtain ⟨n, hn⟩ : ∃ n, made.length + 1 = n := ⟨_, rfl⟩
    have HLN : Hid (gs.length = n) := by rw [Hid, hgr, List.length_append]; exact hn
    have hn2 : n ≤ 8388613 := by omega
    have HNN := Hid.mk hn
    clear hgr hsum h25 hpi hn
    go_wp2_with (at_builtin; refine wpList_append_own _ rfl _ _ 90 rfl W.heap.size 5 i0 (.int .u8 0) 1 1 Tryz.underlying90 hi hz0 hz1 hz2 rfl (by decide) _ _ _ rfl (HO.out.alloc _) ⟨w1.heap.size, 0, none⟩ 1 1 [.int .u8 (y.toNat : Int)] rfl rfl (cell_one_new _ _ _) (by simp [Value.oneCell']) (by unfold maxLen; omega) (by omega) (by simp; omega) ?_; intro v2 w2 hown2 hgrow2 _; have hBL : Below W.heap.size W w2 := (hb1.alloc hb1.size _).grown hgrow2 (Nat.le_trans hb1.size (by simp)) (fun k hk => (HO.out.lt k hk).1); rw [HNN.out] at hown2; obtain ⟨g, cap, rfl⟩ := own_form hown2 (by have := HNN.out; omega); have HB2 : Hid (w2.ownsRow W.heap.size 5 1 (.slice (some ⟨g, 0, none⟩) n cap) n (bcl gs)) := (by rw [Hid, HGG.out, bcl_app]; exact hown2); clear hown2 hgrow2)
    clear HGR HO HGG hgl
    go_loopw [31] (fun i wr => ∃ m : Nat, m ≤ n ∧ i = .int .i64 m ∧ wr.ownsRow W.heap.size 5 1 (.slice (some ⟨g, 0, none⟩) n cap) n (bcl (lay gs m)) ∧ Below W.heap.size W wr) (fun i _ => n - (intOf i).toNat)
    case atStart => exact ⟨0, by omega, rfl, HB2.out, hBL⟩
    case round =>
      obtain ⟨m, hm, rfl, hown2, hbl⟩ := hrel
      have HO2 := Hid.mk hown2
      by_cases hlt : m < n
      · have hmg : m < gs.length := by rw [HLN.out]; exact hlt
        have hc : wr.cell? ⟨g, m, none⟩ = some (.int .u8 ((gs[m]?.getD 0).toNat : Int)) := by rw [hown2.cellAt m (by omega), bcl_at, lay_at gs m hmg]; rfl
        have hf := hown2.frozenAt m
        have HLS := Hid.mk (lay_set gs m hmg)
        have hx32 : (gs[m]?.getD 0).toNat < 32 := by
          have h1 := HD.out (gs[m]?.getD 0) (by rw [List.getElem?_eq_getElem hmg]; exact List.getElem_mem _)
          have h2 : 2 ^ w ≤ 2 ^ 5 := Nat.pow_le_pow_right (by omega) (by omega)
          omega
        have hix := index_ltr (gs[m]?.getD 0) hx32
        generalize gs[m]?.getD 0 = x at hc HLS hix hx32
        clear hown2 hmg
        go_wp2
        go_roundw
        case rel =>
          obtain ⟨h1, h2⟩ := HO2.out.stored m (.int .u8 ((ltr x).toNat : Int))
          rw [bcl_set, HLS.out] at h1
          exact ⟨m + 1, by omega, by go_num, h1, hbl.grown h2 hbl.size (fun k hk => by cases hk; exact (HO2.out.lt g rfl).1)⟩
        case measure => simp [intOf]; omega
      · obtain rfl : m = n := by omega
        have hla : lay gs m = gs.map ltr := by rw [lay, List.take_of_length_le (by rw [HLN.out]; omega), List.drop_eq_nil_of_le (by rw [HLN.out]; omega), List.append_nil]
        have hcv := own_back HO2.out (by rw [lay_len gs m (by rw [HLN.out]; omega)]; exact HLN.out)
        rw [hla] at hcv
        clear hown2 hla
        go_wp2
        go_ret
        exact ⟨rfl, hbl⟩
  · have hgr : gs = made := by rw [HGR.out, if_neg hz, List.append_nil]
    have hB2 : w1.ownsRow W.heap.size 5 1 v gs.length (bcl gs) := by rw [hgr]; exact HO.out
    have hover : over = 0 := by omega
    subst hover
    clear hgr hz
    rcases hB2.2 with ⟨hv, hn0⟩ | ⟨g, cap, cur, hv, hg1, hg2, hg3⟩
    · subst hv
      have hnil : gs = [] := List.eq_nil_of_length_eq_zero hn0
      subst hnil
      have hcv : ∀ W : World, (convert 90 9 (.slice none 0 0)).run Tryz.prog W = .ok (.string ⟨#[]⟩) W := fun W => by kernel_rfl
      clear hB2 HGR HO HD
      go_wp2_with fail
      refine wp_loop_rounds 1 ?_
      rw [rounds_succ]
      go_wp2
      go_ret
      exact ⟨rfl, hb1⟩
    · subst hv
      obtain ⟨n, hn⟩ : ∃ n, gs.length = n := ⟨_, rfl⟩
      have HLN := Hid.mk hn
      have hn2 : n ≤ 8388613 := by omega
      rw [hn] at hB2
      have HB2 := Hid.mk hB2
      rw [hn]
      clear hB2 hn HGR HO hg1 hg2 hg3 hgl
      go_wp2_with fail
      go_loopw [31] (fun i wr => ∃ m : Nat, m ≤ n ∧ i = .int .i64 m ∧ wr.ownsRow W.heap.size 5 1 (.slice (some ⟨g, 0, none⟩) n cap) n (bcl (lay gs m)) ∧ Below W.heap.size W wr) (fun i _ => n - (intOf i).toNat)
      case atStart => exact ⟨0, by omega, rfl, HB2.out, hb1⟩
      case round =>
        obtain ⟨m, hm, rfl, hown2, hbl⟩ := hrel
        have HO2 := Hid.mk hown2
        by_cases hlt : m < n
        · have hmg : m < gs.length := by rw [HLN.out]; exact hlt
          have hc : wr.cell? ⟨g, m, none⟩ = some (.int .u8 ((gs[m]?.getD 0).toNat : Int)) := by rw [hown2.cellAt m (by omega), bcl_at, lay_at gs m hmg]; rfl
          have hf := hown2.frozenAt m
          have HLS := Hid.mk (lay_set gs m hmg)
          have hx32 : (gs[m]?.getD 0).toNat < 32 := by
            have h1 := HD.out (gs[m]?.getD 0) (by rw [List.getElem?_eq_getElem hmg]; exact List.getElem_mem _)
            have h2 : 2 ^ w ≤ 2 ^ 5 := Nat.pow_le_pow_right (by omega) (by omega)
            omega
          have hix := index_ltr (gs[m]?.getD 0) hx32
          generalize gs[m]?.getD 0 = x at hc HLS hix hx32
          clear hown2 hmg
          go_wp2
          go_roundw
          case rel =>
            obtain ⟨h1, h2⟩ := HO2.out.stored m (.int .u8 ((ltr x).toNat : Int))
            rw [bcl_set, HLS.out] at h1
            exact ⟨m + 1, by omega, by go_num, h1, hbl.grown h2 hbl.size (fun k hk => by cases hk; exact (HO2.out.lt g rfl).1)⟩
          case measure => simp [intOf]; omega
        · obtain rfl : m = n := by omega
          have hla : lay gs m = gs.map ltr := by rw [lay, List.take_of_length_le (by rw [HLN.out]; omega), List.drop_eq_nil_of_le (by rw [HLN.out]; omega), List.append_nil]
          have hcv := own_back HO2.out (by rw [lay_len gs m (by rw [HLN.out]; omega)]; exact HLN.out)
          rw [hla] at hcv
          clear hown2 hla
          go_wp2
          go_ret
          exact ⟨rfl, hbl⟩
end Go.Proofs.YtpimliebiapnfaaGreatDoor.G
/- unspelt. -/
namespace Go.Proofs.YtpimliebiapnfaaGreatDoor.G
set_option linter.unusedVariables false
open Go.RowKit
def gfill (t : List UInt8) (m : Nat) : List UInt8 := (t.take m).map cnt ++ List.replicate (t.length - m) 0
theorem gfill_len (t : List UInt8) (m : Nat) (h : m ≤ t.length) : (gfill t m).length = t.length := by
  rw [gfill, List.length_append, List.length_map, List.length_take, List.length_replicate]; omega
theorem gfill_set (t : List UInt8) (m : Nat) (h : m < t.length) : (gfill t m).set m (cnt (t[m]?.getD 0)) = gfill t (m + 1) := by
  unfold gfill
  rw [List.set_append_right _ _ (by rw [List.length_map, List.length_take]; omega), List.length_map, List.length_take, Nat.min_eq_left (by omega), Nat.sub_self, List.take_add_one, List.map_append, List.append_assoc, List.getElem?_eq_getElem h, show t.length - m = (t.length - (m + 1)) + 1 by omega, List.replicate_succ]
  rfl
theorem gfill_all (t : List UInt8) (m : Nat) (h : t.length = m) : gfill t m = t.map cnt := by
  rw [gfill, List.take_of_length_le (by omega), h, Nat.sub_self]
  exact List.append_nil _
theorem below_le (w : World) (B n : Nat) : Below B w (w.drewN n) := ⟨rfl, rfl, rfl, Nat.le_refl _, fun _ _ => rfl⟩
def unsE (w : Nat) (t : List UInt8) : Ending := match uns w t with
  | some s => .returned (.tuple #[.string ⟨s.toArray⟩, .int .i64 0])
  | none => .returned (.tuple #[.string ⟨#[]⟩, .int .i64 7])
theorem uns_bad (w : Nat) (l : List UInt8) (m : Nat) (hm : m < l.length) (h : ¬ (cnt (l[m]?.getD 0)).toNat < 2 ^ w) : unsE w l = .returned (.tuple #[.string ⟨#[]⟩, .int .i64 7]) := by
  have : uns w l = none := by
    unfold uns
    rw [if_neg]
    intro hall
    refine h (hall _ ?_)
    rw [List.getElem?_eq_getElem hm]
    exact List.getElem_mem _
  rw [unsE, this]
theorem uns_all (w : Nat) (l : List UInt8) (h : ∀ c ∈ l, (cnt c).toNat < 2 ^ w) : unsE w l = if w ≤ (rg w 8 (l.map cnt)).2.2 ∨ (rg w 8 (l.map cnt)).2.1 ≠ 0 then .returned (.tuple #[.string ⟨#[]⟩, .int .i64 7]) else .returned (.tuple #[.string ⟨(rg w 8 (l.map cnt)).1.toArray⟩, .int .i64 0]) := by
  by_cases hc : w ≤ (rg w 8 (l.map cnt)).2.2 ∨ (rg w 8 (l.map cnt)).2.1 ≠ 0
  · have : uns w l = none := by rw [uns, if_pos h, if_pos hc]
    rw [unsE, this, if_pos hc]
  · have : uns w l = some (rg w 8 (l.map cnt)).1 := by rw [uns, if_pos h, if_neg hc]
    rw [unsE, this, if_neg hc]
theorem conv_nil (W : World) : (convert 90 9 (.slice none 0 0)).run Tryz.prog W = .ok (.string ⟨#[]⟩) W := by kernel_rfl
theorem own_back_any {w : World} {base n : Nat} {v : Value} {l : List UInt8} (h : w.ownsRow base 5 1 v n (bcl l)) (hl : l.length = n) : (convert 90 9 v).run Tryz.prog w = .ok (.string ⟨l.toArray⟩) w := by
  rcases h.2 with ⟨hv, h0⟩ | ⟨g, cap, cur, hv, _⟩
  · subst hv
    have : l = [] := List.eq_nil_of_length_eq_zero (by omega)
    rw [this]
    exact conv_nil w
  · subst hv
    exact own_back h hl
theorem made_zeros (n : Nat) : (madeCells (Value.int .u8 0).cells (n * 1)).toList = bcl (List.replicate n 0) := by
  apply List.ext_getElem?
  intro k
  simp [madeCells, bcl, Value.cells, List.getElem?_replicate]
  by_cases hk : k < n
  · rw [if_pos hk, List.getElem?_range hk]
    simp [Nat.mod_one]
  · rw [if_neg hk, List.getElem?_eq_none (by simpa using hk)]
    rfl
set_option maxRecDepth 100000 in
set_option maxHeartbeats 2000000 in
theorem unspelt_4 (t : ByteArray) (ht : t.size ≤ 8388613) (W : World) :
    Calls Tryz.prog 59 #[.string t, .int .i64 4] W fun e w' => e = unsE 4 t.data.toList ∧ Below W.heap.size W w' := by
  obtain ⟨i0, hi, hz0, hz1, hz2⟩ := info_of info5
  obtain ⟨n, hn⟩ : ∃ n, t.size = n := ⟨_, rfl⟩
  have HLN : Hid (t.data.toList.length = n) := hn
  have HTZ := Hid.mk hn
  have hn2 : n ≤ 8388613 := by omega
  obtain ⟨l, hl⟩ : ∃ l, t.data.toList = l := ⟨_, rfl⟩
  have HIX : Hid (∀ m, m < n → ∀ W : World, (Instr.index 9 (.string t) (.int .i64 (m : Int))).run Tryz.prog W = .ok (.int .u8 ((l[m]?.getD 0).toNat : Int)) W) := fun m hm W => index_get t m _ (by omega) (by rw [hl]) W
  rw [hl] at HLN ⊢
  have HREG : Hid (∀ (W2 : World) (g cap : Nat), g < W2.heap.size → (∀ j, j < n → W2.cell? ⟨g, j, none⟩ = some (.int .u8 (((l.map cnt)[j]?.getD 0).toNat : Int))) → (∀ x ∈ l.map cnt, x.toNat < 2 ^ 4) → Calls Tryz.prog 80 #[.slice (some ⟨g, 0, none⟩) n cap, .int .i64 4, .int .i64 8] W2 fun e w' => ∃ v, e = .returned (.tuple #[v, .int .u16 (((rg 4 8 (l.map cnt)).2.1 : Nat) : Int), .int .i64 (((rg 4 8 (l.map cnt)).2.2 : Nat) : Int)]) ∧ w'.ownsRow W2.heap.size 5 1 v (rg 4 8 (l.map cnt)).1.length (bcl (rg 4 8 (l.map cnt)).1) ∧ Below W2.heap.size W2 w') := fun W2 g cap hg hc hs => by
    have h := regrouped_in W2 g cap (l.map cnt) 4 8 (by omega) (by omega) (by rw [List.length_map, HLN.out]; omega) (fun j hj => hc j (by rw [List.length_map, HLN.out] at hj; exact hj)) hg hs
    rwa [List.length_map, HLN.out] at h
  clear hl hn ht
  have hzs : t.size = n := HTZ.out
  go_enter Tryz.func59, Tryz.ntmps59
  go_wp2_with (at_make; refine wpList_make_full _ rfl _ _ 90 rfl W.heap.size 5 i0 (.int .u8 0) 1 Tryz.underlying90 hi hz0 hz1 _ _ _ _ n rfl rfl rfl rfl (by rw [hz2]; omega) (by unfold maxLen; omega) (Nat.le_refl _) ?_; intro w1 hown1 hgrow1)
  have B1 : Below W.heap.size W w1 := (Below.refl _ _).grown hgrow1 (Nat.le_refl _) (by simp)
  rw [made_zeros] at hown1
  have HO1 : Hid (w1.ownsRow W.heap.size 5 1 (.slice (some ⟨W.heap.size, 0, none⟩) n n) n (bcl (gfill l 0))) := by
    rw [Hid, gfill, List.take_zero, HLN.out, Nat.sub_zero]; exact hown1
  clear hown1 hgrow1
  go_loopw [16] (fun i wr => ∃ m : Nat, m ≤ n ∧ i = .int .i64 m ∧ Hid (∀ j, j < m → (cnt (l[j]?.getD 0)).toNat < 2 ^ 4) ∧ wr.ownsRow W.heap.size 5 1 (.slice (some ⟨W.heap.size, 0, none⟩) n n) n (bcl (gfill l m)) ∧ Below W.heap.size W wr) (fun i _ => n - (intOf i).toNat)
  case atStart => exact ⟨0, by omega, rfl, fun j hj => absurd hj (by omega), HO1.out, B1⟩
  case round =>
    obtain ⟨m, hm, rfl, HALL, hown, hbl⟩ := hrel
    have HO := Hid.mk hown
    by_cases hlt : m < n
    · have hml : m < l.length := by rw [HLN.out]; exact hlt
      have hix := HIX.out m hlt
      have HGS := Hid.mk (gfill_set l m hml)
      obtain ⟨y0, hc⟩ : ∃ y0 : UInt8, wr.cell? ⟨W.heap.size, m, none⟩ = some (.int .u8 (y0.toNat : Int)) := ⟨_, by rw [hown.cellAt m (by omega), bcl_at, List.getElem?_eq_getElem (by rw [gfill_len l m (by omega)]; exact hml)]; rfl⟩
      have hf := hown.frozenAt m
      have HB := Hid.mk (uns_bad 4 l m hml)
      have HNX : Hid ((cnt (l[m]?.getD 0)).toNat < 2 ^ 4 → ∀ j, j < m + 1 → (cnt (l[j]?.getD 0)).toNat < 2 ^ 4) := fun h j hj => by
        by_cases he : j = m
        · rw [he]; exact h
        · exact HALL.out j (by omega)
      have HCN := Hid.mk (counts_in (l[m]?.getD 0))
      generalize l[m]?.getD 0 = x at hix HGS HB HNX HCN
      have hy := (cnt x).toNat_lt
      clear hown hml
      by_cases hbad : (cnt x).toNat < 16
      · have HX2 := HNX.out hbad
        go_wp2_with fail
        refine (HCN.out _).mono ?_
        rintro e w2 ⟨rfl, rfl⟩
        go_wp2_with fail
        go_quiet (fail)
        go_wp2
        go_roundw
        case rel =>
          obtain ⟨h1, h2⟩ := HO.out.stored m (.int .u8 ((cnt x).toNat : Int))
          rw [bcl_set, HGS.out] at h1
          refine ⟨m + 1, by omega, by go_num, HX2, ?_, ?_⟩
          · exact h1
          · exact (hbl.grown h2 hbl.size (fun k hk => by cases hk; exact Nat.le_refl _)).trans (below_le _ _ _)
        case measure => simp [intOf]; omega
      · have HU := Hid.mk (HB.out hbad)
        go_wp2_with fail
        refine (HCN.out _).mono ?_
        rintro e w2 ⟨rfl, rfl⟩
        go_wp2_with fail
        go_quiet (fail)
        go_wp2
        go_ret2
        obtain ⟨h1, h2⟩ := HO.out.stored m (.int .u8 ((cnt x).toNat : Int))
        exact ⟨HU.out.symm, (hbl.grown h2 hbl.size (fun k hk => by cases hk; exact Nat.le_refl _)).trans (below_le _ _ _)⟩
    · obtain rfl : m = n := by omega
      have hall : ∀ c ∈ l, (cnt c).toNat < 2 ^ 4 := fun c hc => by
        obtain ⟨j, hj, hje⟩ := List.getElem_of_mem hc
        have := HALL.out j (by rw [← HLN.out]; exact hj)
        rw [List.getElem?_eq_getElem hj, hje] at this
        exact this
      rw [gfill_all l m HLN.out] at hown
      have hlt : W.heap.size < wr.heap.size := (hown.lt W.heap.size rfl).2
      have HRC := Hid.mk (HREG.out wr W.heap.size m hlt (fun j hj => by rw [hown.cellAt j (by omega), bcl_at, List.getElem?_eq_getElem (by rw [List.length_map, HLN.out]; exact hj)]; rfl) (fun x hx => by
        obtain ⟨c, hc, rfl⟩ := List.mem_map.1 hx
        exact hall c hc))
      have HU := Hid.mk (uns_all 4 l hall)
      generalize rg 4 8 (l.map cnt) = st at HRC HU
      obtain ⟨made, rest, over⟩ := st
      dsimp only at HRC HU
      clear hown HIX HREG HALL hall HO
      go_wp2_with fail
      refine HRC.out.mono ?_
      rintro e w2 ⟨v, rfl, hown2, hb2⟩
      have hBB : Below W.heap.size W w2 := hbl.trans (hb2.mono hbl.size)
      have HO2 := Hid.mk hown2
      clear hown2
      by_cases h4 : 4 ≤ over
      · have HU2 := Hid.mk (HU.out.trans (if_pos (.inl h4)))
        clear HU
        go_wp2
        go_ret2
        exact ⟨HU2.out.symm, hBB⟩
      · by_cases hr : rest = 0
        · subst hr
          have hcv := own_back_any HO2.out rfl
          have HU2 := Hid.mk (HU.out.trans (if_neg (by omega)))
          clear HU
          have h4' : (over : Int) < 4 := by omega
          go_wp2
          go_ret2
          exact ⟨HU2.out.symm, hBB⟩
        · have HU2 := Hid.mk (HU.out.trans (if_pos (.inr hr)))
          have h4' : (over : Int) < 4 := by omega
          have hr1 : ((rest : Int) != 0) = true := by rw [bne_iff_ne]; omega
          have hr2 : ((rest : Int) == 0) = false := by rw [beq_eq_false_iff_ne]; omega
          clear HU hr
          go_wp2
          go_ret2
          exact ⟨HU2.out.symm, hBB⟩
end Go.Proofs.YtpimliebiapnfaaGreatDoor.G
/- Hex, Base32, Unhex, Unbase32; the examples. -/
namespace Go.Proofs.YtpimliebiapnfaaGreatDoor.G
set_option linter.unusedVariables false
open Go.RowKit
theorem hex_in (s : ByteArray) (hs : s.size ≤ 1048576) (W : World) : Calls Tryz.prog 17 #[.string s] W fun e w' => e = .returned (.string ⟨(spl 4 s.data.toList).toArray⟩) ∧ Below W.heap.size W w' := by
  have H := Hid.mk (spelt_in s hs 4 (.inl rfl))
  go_enter Tryz.func17, Tryz.ntmps17
  go_wp2_with fail
  refine (H.out _).mono ?_
  rintro e w1 ⟨rfl, hb⟩
  go_wp2
  go_ret
  exact ⟨rfl, hb⟩
theorem unhex_yes (t : ByteArray) (ht : t.size ≤ 8388613) (s : List UInt8) (h : uns 4 t.data.toList = some s) (W : World) : Calls Tryz.prog 27 #[.string t] W fun e w' => e = .returned (.tuple #[.string ⟨s.toArray⟩, .int .i64 0]) ∧ Below W.heap.size W w' := by
  have H := Hid.mk (unspelt_4 t ht)
  rw [unsE, h] at H
  clear h
  go_enter Tryz.func27, Tryz.ntmps27
  go_wp2_with fail
  refine (H.out _).mono ?_
  rintro e w1 ⟨rfl, hb⟩
  go_wp2
  go_ret2
  exact ⟨rfl, hb⟩
end Go.Proofs.YtpimliebiapnfaaGreatDoor.G
/- The curve in its box: numberOf, known, reckoningOf, p256, nowhere. -/
namespace Go.Proofs.YtpimliebiapnfaaGreatDoor
set_option linter.unusedVariables false
set_option linter.unusedSimpArgs false
open Go.RowKit N
attribute [local go_sem ↓] N.loadAt_nat N.storeAt_nat N.build_nat N.build_nat' loadAt_pt storeAt_pt build_pt0 build_pt0' build_pt'
attribute [local go_sem] N.st1 N.st2a N.st2b N.st1d N.st2ad N.st2bd N.natBuild_run ptst1 ptst1d ptBuild0_run build_pt ptBuild_run
abbrev hexP : ByteArray := ⟨#[102, 102, 102, 102, 102, 102, 102, 102, 48, 48, 48, 48, 48, 48, 48, 49, 48, 48, 48, 48, 48, 48, 48, 48, 48, 48, 48, 48, 48, 48, 48, 48, 48, 48, 48, 48, 48, 48, 48, 48, 102, 102, 102, 102, 102, 102, 102, 102, 102, 102, 102, 102, 102, 102, 102, 102, 102, 102, 102, 102, 102, 102, 102, 102]⟩
abbrev hexPb : List UInt8 := [255, 255, 255, 255, 0, 0, 0, 1, 0, 0, 0, 0, 0, 0, 0, 0, 0, 0, 0, 0, 255, 255, 255, 255, 255, 255, 255, 255, 255, 255, 255, 255]
theorem hexP_u : G.uns 4 hexP.data.toList = some hexPb := by decide +kernel
abbrev hexN : ByteArray := ⟨#[102, 102, 102, 102, 102, 102, 102, 102, 48, 48, 48, 48, 48, 48, 48, 48, 102, 102, 102, 102, 102, 102, 102, 102, 102, 102, 102, 102, 102, 102, 102, 102, 98, 99, 101, 54, 102, 97, 97, 100, 97, 55, 49, 55, 57, 101, 56, 52, 102, 51, 98, 57, 99, 97, 99, 50, 102, 99, 54, 51, 50, 53, 53, 49]⟩
abbrev hexNb : List UInt8 := [255, 255, 255, 255, 0, 0, 0, 0, 255, 255, 255, 255, 255, 255, 255, 255, 188, 230, 250, 173, 167, 23, 158, 132, 243, 185, 202, 194, 252, 99, 37, 81]
theorem hexN_u : G.uns 4 hexN.data.toList = some hexNb := by decide +kernel
abbrev hexB : ByteArray := ⟨#[53, 97, 99, 54, 51, 53, 100, 56, 97, 97, 51, 97, 57, 51, 101, 55, 98, 51, 101, 98, 98, 100, 53, 53, 55, 54, 57, 56, 56, 54, 98, 99, 54, 53, 49, 100, 48, 54, 98, 48, 99, 99, 53, 51, 98, 48, 102, 54, 51, 98, 99, 101, 51, 99, 51, 101, 50, 55, 100, 50, 54, 48, 52, 98]⟩
abbrev hexBb : List UInt8 := [90, 198, 53, 216, 170, 58, 147, 231, 179, 235, 189, 85, 118, 152, 134, 188, 101, 29, 6, 176, 204, 83, 176, 246, 59, 206, 60, 62, 39, 210, 96, 75]
theorem hexB_u : G.uns 4 hexB.data.toList = some hexBb := by decide +kernel
abbrev hexX : ByteArray := ⟨#[54, 98, 49, 55, 100, 49, 102, 50, 101, 49, 50, 99, 52, 50, 52, 55, 102, 56, 98, 99, 101, 54, 101, 53, 54, 51, 97, 52, 52, 48, 102, 50, 55, 55, 48, 51, 55, 100, 56, 49, 50, 100, 101, 98, 51, 51, 97, 48, 102, 52, 97, 49, 51, 57, 52, 53, 100, 56, 57, 56, 99, 50, 57, 54]⟩
abbrev hexXb : List UInt8 := [107, 23, 209, 242, 225, 44, 66, 71, 248, 188, 230, 229, 99, 164, 64, 242, 119, 3, 125, 129, 45, 235, 51, 160, 244, 161, 57, 69, 216, 152, 194, 150]
theorem hexX_u : G.uns 4 hexX.data.toList = some hexXb := by decide +kernel
abbrev hexY : ByteArray := ⟨#[52, 102, 101, 51, 52, 50, 101, 50, 102, 101, 49, 97, 55, 102, 57, 98, 56, 101, 101, 55, 101, 98, 52, 97, 55, 99, 48, 102, 57, 101, 49, 54, 50, 98, 99, 101, 51, 51, 53, 55, 54, 98, 51, 49, 53, 101, 99, 101, 99, 98, 98, 54, 52, 48, 54, 56, 51, 55, 98, 102, 53, 49, 102, 53]⟩
abbrev hexYb : List UInt8 := [79, 227, 66, 226, 254, 26, 127, 155, 142, 231, 235, 74, 124, 15, 158, 22, 43, 206, 51, 87, 107, 49, 94, 206, 203, 182, 64, 104, 55, 191, 81, 245]
theorem hexY_u : G.uns 4 hexY.data.toList = some hexYb := by decide +kernel
abbrev hexG : ByteArray := ⟨#[54, 98, 49, 55, 100, 49, 102, 50, 101, 49, 50, 99, 52, 50, 52, 55, 102, 56, 98, 99, 101, 54, 101, 53, 54, 51, 97, 52, 52, 48, 102, 50, 55, 55, 48, 51, 55, 100, 56, 49, 50, 100, 101, 98, 51, 51, 97, 48, 102, 52, 97, 49, 51, 57, 52, 53, 100, 56, 57, 56, 99, 50, 57, 54, 52, 102, 101, 51, 52, 50, 101, 50, 102, 101, 49, 97, 55, 102, 57, 98, 56, 101, 101, 55, 101, 98, 52, 97, 55, 99, 48, 102, 57, 101, 49, 54, 50, 98, 99, 101, 51, 51, 53, 55, 54, 98, 51, 49, 53, 101, 99, 101, 99, 98, 98, 54, 52, 48, 54, 56, 51, 55, 98, 102, 53, 49, 102, 53]⟩
abbrev hexGb : List UInt8 := [107, 23, 209, 242, 225, 44, 66, 71, 248, 188, 230, 229, 99, 164, 64, 242, 119, 3, 125, 129, 45, 235, 51, 160, 244, 161, 57, 69, 216, 152, 194, 150, 79, 227, 66, 226, 254, 26, 127, 155, 142, 231, 235, 74, 124, 15, 158, 22, 43, 206, 51, 87, 107, 49, 94, 206, 203, 182, 64, 104, 55, 191, 81, 245]
theorem hexG_u : G.uns 4 hexG.data.toList = some hexGb := by decide +kernel
theorem hexP_n : N.numB hexPb = pP := by decide +kernel
theorem hexN_n : N.numB hexNb = nN := by decide +kernel
theorem hexB_n : N.numB hexBb = bP := by decide +kernel
theorem hexX_n : N.numB hexXb = bX := by decide +kernel
theorem hexY_n : N.numB hexYb = bY := by decide +kernel
abbrev fnM (f m : Nat) : Value := .func (.func f) #[boxM m] #[]
def rkL (m : Nat) : List Value := [fnM 81 m, fnM 82 m, fnM 83 m, fnM 84 m, fnM 85 m, fnM 86 m]
noncomputable def cvL (mp mn : Nat) : List Value := rkL mp ++ rkL mn ++ N.natL bP
structure Cv (W : World) (c mp mn : Nat) : Prop where
  box : W.heap[c]? = some (.cells (cvL mp mn).toArray 77 (0, 0))
  p : W.heap[mp]? = some (.cells (N.natL pP).toArray 117 (0, 0))
  n : W.heap[mn]? = some (.cells (N.natL nN).toArray 117 (0, 0))
theorem Cv.blk {W w : World} {c mp mn : Nat} (h : Cv W c mp mn) (hb : Below W.heap.size W w) : Cv w c mp mn :=
  ⟨(hb.block _ (N.box_lt h.box)).trans h.box, (hb.block _ (N.box_lt h.p)).trans h.p, (hb.block _ (N.box_lt h.n)).trans h.n⟩
theorem Fm.cv {W w : World} {l : List (Nat × Obj)} {c mp mn : Nat} (h : Fm W l w) (hc : Cv W c mp mn) : Cv w c mp mn := hc.blk h.bel
theorem Fz.bel {W w : World} {b : Nat} {l : List (Nat × Obj)} (h : Fz W b l w) : Below W.heap.size W w := h.elim fun z h => h.bel
theorem Fq.bel {W w : World} {b : Nat} {l : List (Nat × Obj)} (h : Fq W b l w) : Below W.heap.size W w := h.elim fun z h => h.bel
theorem Fz.cv {W w : World} {b : Nat} {l : List (Nat × Obj)} {c mp mn : Nat} (h : Fz W b l w) (hc : Cv W c mp mn) : Cv w c mp mn := hc.blk h.bel
theorem Fq.cv {W w : World} {b : Nat} {l : List (Nat × Obj)} {c mp mn : Nat} (h : Fq W b l w) (hc : Cv W c mp mn) : Cv w c mp mn := hc.blk h.bel
theorem Cv.fn {W : World} {c mp mn : Nat} (h : Cv W c mp mn) (k : Nat) {v : Value} (e : (rkL mp ++ rkL mn)[k]? = some v) : W.cell? ⟨c, k, none⟩ = some v := by
  refine (N.cells_at h.box ?_).1
  unfold cvL
  rw [List.getElem?_append_left (List.getElem?_eq_some_iff.1 e).1]
  exact e
theorem Cv.b {W : World} {c mp mn : Nat} (h : Cv W c mp mn) : (N.natLoad (.pointer (some ⟨c, 12, none⟩))).run Tryz.prog W = .ok (.agg (N.natL bP).toArray) W :=
  natLoad_mid (A := rkL mp ++ rkL mn) (B := []) h.box (by simp [cvL]) rfl
theorem lim2 {A B : Nat} (hA : A < 2 ^ 256) (hB : B < 2 ^ 256) : A * B < N.Lim := by
  refine N.lim_big 16 _ (by omega) ?_
  have h2 : A * B < 2 ^ 256 * 2 ^ 256 := by
    have h1 : A * B ≤ A * 2 ^ 256 := Nat.mul_le_mul (Nat.le_refl _) (Nat.le_of_lt hB)
    have h3 : A * 2 ^ 256 < 2 ^ 256 * 2 ^ 256 := (Nat.mul_lt_mul_right (by decide)).2 hA
    exact Nat.lt_of_le_of_lt h1 h3
  exact Nat.lt_of_lt_of_le h2 (by decide)
theorem p256_lt : pP < 2 ^ 256 := by decide
theorem n256_lt : nN < 2 ^ 256 := by decide
theorem flt_p : N.flt pP = 0 := (N.flt_ok pP).2 ⟨by decide, by decide +kernel⟩
theorem flt_n : N.flt nN = 0 := (N.flt_ok nN).2 ⟨by decide, by decide +kernel⟩
theorem pTimes {W : World} {c mp mn A B : Nat} (C : Cv W c mp mn) (hA : A < pP) (hB : B < pP) : Calls Tryz.prog 86 #[boxM mp, .agg (N.natL A).toArray, .agg (N.natL B).toArray] W fun e w' => e = .returned (.agg (N.natL (mtimes A B)).toArray) ∧ Below W.heap.size W w' :=
  times_in mp pP A B W C.p pP_lim (lim_p hA) (lim_p hB) (lim2 (Nat.lt_trans hA p256_lt) (Nat.lt_trans hB p256_lt)) (by decide)
theorem pPlus {W : World} {c mp mn A B : Nat} (C : Cv W c mp mn) (hA : A < pP) (hB : B < pP) : Calls Tryz.prog 84 #[boxM mp, .agg (N.natL A).toArray, .agg (N.natL B).toArray] W fun e w' => e = .returned (.agg (N.natL (mplus A B)).toArray) ∧ Below W.heap.size W w' :=
  plus_in mp pP A B W C.p pP_lim hA hB (Nat.le_of_lt (N.lim_big 9 (pP + pP) (by omega) (by decide)))
theorem pMinus {W : World} {c mp mn A B : Nat} (C : Cv W c mp mn) (hA : A < pP) (hB : B < pP) : Calls Tryz.prog 85 #[boxM mp, .agg (N.natL A).toArray, .agg (N.natL B).toArray] W fun e w' => e = .returned (.agg (N.natL (mminus A B)).toArray) ∧ Below W.heap.size W w' :=
  minus_in mp pP A B W C.p pP_lim hA hB
theorem pBelow {W : World} {c mp mn A : Nat} (C : Cv W c mp mn) (hA : A < N.Lim) : Calls Tryz.prog 81 #[boxM mp, .agg (N.natL A).toArray] W fun e w' => e = .returned (.bool (decide (A < pP))) ∧ Below W.heap.size W w' :=
  below_in mp pP A W C.p pP_lim hA
theorem pInv {W : World} {c mp mn A : Nat} (C : Cv W c mp mn) (hA : A < pP) (h0 : A ≠ 0) : Calls Tryz.prog 83 #[boxM mp, .agg (N.natL A).toArray] W fun e w' => e = .returned (.agg (N.natL (ivN pP A)).toArray) ∧ Below W.heap.size W w' :=
  inverse_in mp pP A W C.p pP_lim (lim_p hA) flt_p (by rw [Nat.gcd_comm]; exact cop_p hA h0)
theorem iv_spec {P A : Nat} (hp : Pr P) (h0 : A ≠ 0) (hA : A < P) : A * ivN P A % P = 1 ∧ ivN P A < P := by
  have h2 := hp.1
  have hnd : ¬ P ∣ A := fun h => by
    have := Nat.le_of_dvd (Nat.pos_of_ne_zero h0) h
    omega
  have hf := fermat hp hnd
  have h1 : 1 % P = 1 := Nat.mod_eq_of_lt (by omega)
  have he : A * (A ^ (P - 2) % P) % P = 1 % P := by
    rw [Nat.mul_mod, Nat.mod_mod, ← Nat.mul_mod, Nat.mul_comm, ← Nat.pow_succ, show (P - 2).succ = P - 1 by omega, hf, h1]
  have hi := ivN_is (P := P) (A := A) ⟨A ^ (P - 2) % P, Or.inl ⟨rfl, Nat.mod_lt _ (by omega), he⟩⟩
  rcases hi with ⟨_, h3, h4⟩ | ⟨h5, _⟩
  · exact ⟨by rw [h4, h1], h3⟩
  · simp at h5
theorem strip_le' : ∀ l : List UInt8, (N.strip l).length ≤ l.length
  | [] => by simp [N.strip]
  | x :: l => by
    rw [N.strip]
    split
    · have := strip_le' l; simp; omega
    · exact Nat.le_refl _
set_option maxRecDepth 100000 in
set_option maxHeartbeats 1000000 in
theorem numberOf_in (s : ByteArray) (hs : s.size ≤ 512) (W : World) : Calls Tryz.prog 30 #[.string s] W fun e w' => e = .returned (.agg (N.natL (N.numB s.data.toList)).toArray) ∧ Below W.heap.size W w' := by
  have hz := N.zero26
  have HO := Hid.mk (N.of_in s (by omega))
  have h5 : (N.strip s.data.toList).length ≤ 512 := Nat.le_trans (strip_le' _) (by rw [size_list]; exact hs)
  rw [show N.ofR s.data.toList = .returned (.tuple #[.agg (N.natL (N.numB s.data.toList)).toArray, .int .i64 0]) from if_pos h5] at HO
  clear h5 hs
  generalize N.numB s.data.toList = Q at HO ⊢
  obtain ⟨V, hV, F⟩ : ∃ V, (W.alloc (Obj.cells (N.natL 0).toArray 38 (0, 0))) = V ∧ Fm W [(W.heap.size, Obj.cells (N.natL 0).toArray 38 (0, 0))] V := ⟨_, rfl, Fm.box1 W _⟩
  go_enter Tryz.func30, Tryz.ntmps30
  go_wp2_with fail
  refine (HO.out _).mono ?_
  rintro e u1 ⟨rfl, hb⟩
  replace F := F.blk hb
  clear hb hV
  go_upto_region 2 with fail
  replace F := F.new (Obj.cells (N.natL Q).toArray 38 (0, 0))
  generalize u1.alloc (Obj.cells (N.natL Q).toArray 38 (0, 0)) = v1 at F ⊢
  generalize u1.heap.size = b3 at F ⊢
  have l3 := N.natLoad_run (F.get 0 rfl)
  have s2 := N.natStore_run (N := Q) (F.get 1 rfl)
  have F4 := F.put 1 (N.natL Q).toArray rfl
  go_wp2
  exact bodyPost_ret (N.results_nat Tryz.results30 rfl (F4.get 1 rfl) (N.natL_len Q)) rfl ⟨rfl, F4.bel⟩
set_option maxRecDepth 100000 in
set_option maxHeartbeats 1000000 in
theorem known_in (h : ByteArray) (s : List UInt8) (hh : h.size ≤ 1000) (hu : G.uns 4 h.data.toList = some s) (hs : s.length ≤ 512) (W : World) : Calls Tryz.prog 44 #[.string h] W fun e w' => e = .returned (.agg (N.natL (N.numB s)).toArray) ∧ Below W.heap.size W w' := by
  have hz := N.zero26
  have HU := Hid.mk (G.unhex_yes h (by omega) s hu)
  have HO := Hid.mk (numberOf_in ⟨s.toArray⟩ (by show s.toArray.size ≤ 512; simpa using hs))
  rw [show (⟨s.toArray⟩ : ByteArray).data.toList = s from rfl] at HO
  clear hu hs hh
  generalize N.numB s = Q at HO ⊢
  obtain ⟨V, hV, F⟩ : ∃ V, (W.alloc (Obj.cells (N.natL 0).toArray 38 (0, 0))) = V ∧ Fm W [(W.heap.size, Obj.cells (N.natL 0).toArray 38 (0, 0))] V := ⟨_, rfl, Fm.box1 W _⟩
  go_enter Tryz.func44, Tryz.ntmps44
  go_wp2_with fail
  refine (HU.out _).mono ?_
  rintro e u1 ⟨rfl, hb⟩
  replace F := F.blk hb
  clear hb hV
  go_wp2_with fail
  refine (HO.out _).mono ?_
  rintro e u2 ⟨rfl, hb⟩
  replace F := F.blk hb
  clear hb
  have s2 := N.natStore_run (N := Q) (F.get 0 rfl)
  have F4 := F.put 0 (N.natL Q).toArray rfl
  go_wp2
  exact bodyPost_ret (N.results_nat Tryz.results44 rfl (F4.get 0 rfl) (N.natL_len Q)) rfl ⟨rfl, F4.bel⟩
theorem eqPt (W : World) (a b : T3) (ha : a.Lm) (hb : b.Lm) : (binOp .eql 40 (.agg (ptL a).toArray) (.agg (ptL b).toArray)).run Tryz.prog W = .ok (.bool (decide (a = b))) W := by
  rw [run_eql_struct, ptEq_run W ha hb]
  rfl
theorem eqNat (W : World) (a b : Nat) (ha : a < N.Lim) (hb : b < N.Lim) : (binOp .eql 38 (.agg (N.natL a).toArray) (.agg (N.natL b).toArray)).run Tryz.prog W = .ok (.bool (decide (a = b))) W := by
  rw [run_eql_struct, natEq_run 9997 W ha hb]
  rfl
def natEqV (x y : Value) : Sem Value := binOp .eql 38 x y
def ptEqV (x y : Value) : Sem Value := binOp .eql 40 x y
theorem bin_nat (x y : Value) : binOp .eql 38 x y = natEqV x y := rfl
theorem bin_pt (x y : Value) : binOp .eql 40 x y = ptEqV x y := rfl
attribute [local go_sem ↓] bin_nat bin_pt
theorem T3.zero_lm : T3.zero.Lm := T3.zero_ok.lm
set_option maxRecDepth 100000 in
set_option maxHeartbeats 1000000 in
theorem nowhere_in (a : T3) (ha : a.Lm) (W : World) : Calls Tryz.prog 26 #[.agg (ptL a).toArray] W fun e w' => e = .returned (.bool (decide (a = T3.zero))) ∧ Below W.heap.size W w' := by
  obtain ⟨V, hV, F⟩ : ∃ V, (W.alloc (Obj.cells (ptL a).toArray 40 (0, 0))) = V ∧ Fm W [(W.heap.size, Obj.cells (ptL a).toArray 40 (0, 0))] V := ⟨_, rfl, Fm.box1 W _⟩
  have l1 := ptLoad_run (F.get 0 rfl)
  have he : (ptEqV (.agg (ptL a).toArray) (.agg (ptL T3.zero).toArray)).run Tryz.prog V = _ := eqPt V a T3.zero ha T3.zero_lm
  generalize decide (a = T3.zero) = D at he ⊢
  go_enter Tryz.func26, Tryz.ntmps26
  go_wp2
  go_ret
  exact ⟨rfl, F.bel⟩
end Go.Proofs.YtpimliebiapnfaaGreatDoor
/- scaled. -/
namespace Go.Proofs.YtpimliebiapnfaaGreatDoor
set_option linter.unusedVariables false
set_option linter.unusedSimpArgs false
open Go.RowKit N
attribute [local go_sem ↓] N.loadAt_nat N.storeAt_nat N.build_nat N.build_nat' loadAt_pt storeAt_pt build_pt0 build_pt0' build_pt'
attribute [local go_sem] N.st1 N.st2a N.st2b N.st1d N.st2ad N.st2bd N.natBuild_run ptst1 ptst1d ptBuild0_run build_pt ptBuild_run
attribute [local go_sem ↓] bin_nat bin_pt
theorem Fm.swap {W w : World} {x y : Nat × Obj} {l : List (Nat × Obj)} (h : Fm W (x :: y :: l) w) : Fm W (y :: x :: l) w where
  has := fun i b o e => by
    match i, e with
    | 0, e => exact h.has 1 b o (by simpa using e)
    | 1, e => exact h.has 0 b o (by simpa using e)
    | i + 2, e => exact h.has (i + 2) b o (by simpa using e)
  own := fun p hp => h.own p (by simp only [List.mem_cons] at hp ⊢; rcases hp with h | h | h <;> simp [h])
  nd := by
    have := h.nd
    simp only [List.map_cons, List.nodup_cons, List.mem_cons, not_or] at this ⊢
    exact ⟨⟨fun e => this.1.1 e.symm, this.2.1⟩, this.1.2, this.2.2⟩
  bel := h.bel
theorem results_pt {fn : Func} {p : Tmp} (h : fn.results = #[.cell p 40]) {tmps : Array Value} {W : World} {b : Nat} {a : T3} {fz : Nat × Nat} (hp : tmps.getD p undef = .pointer (some ⟨b, 0, none⟩)) (hb : W.heap[b]? = some (.cells (ptL a).toArray 40 fz)) : (results fn tmps).run Tryz.prog W = .ok (.agg (ptL a).toArray) W := by
  have hp' : tmps[p]?.getD undef = .pointer (some ⟨b, 0, none⟩) := by simpa using hp
  simp only [results, h]
  simp [hp', asAddr, pt_loadV hb]
theorem kpM {p : Prop} {V w2 : World} {M : Nat} (hb : Below (V.alloc (.cells (N.natL M).toArray 38)).heap.size (V.alloc (.cells (N.natL M).toArray 38)) w2) (k : (w2.heap[V.heap.size]? = some (.cells (N.natL M).toArray 38 (0, 0)) ∧
    (∀ v, (N.natStore (.pointer (some ⟨V.heap.size, 0, none⟩)) (.agg (N.natL v).toArray)).run Tryz.prog w2 = .ok () (w2.setRow V.heap.size (N.natL v).toArray))) → p) : p := by
  have g : w2.heap[V.heap.size]? = some (.cells (N.natL M).toArray 38 (0, 0)) := (hb.block V.heap.size (by simp)).trans (N.heap_new V _)
  exact k ⟨g, fun v => N.natStore_run g⟩
theorem kpO {p : Prop} {w w2 : World} {b M : Nat} (g : w.heap[b]? = some (.cells (N.natL M).toArray 38 (0, 0))) (hb : Below w.heap.size w w2) (k : (w2.heap[b]? = some (.cells (N.natL M).toArray 38 (0, 0)) ∧
    (∀ v, (N.natStore (.pointer (some ⟨b, 0, none⟩)) (.agg (N.natL v).toArray)).run Tryz.prog w2 = .ok () (w2.setRow b (N.natL v).toArray))) → p) : p := by
  have g2 : w2.heap[b]? = some (.cells (N.natL M).toArray 38 (0, 0)) := (hb.block b (N.box_lt g)).trans g
  exact k ⟨g2, fun v => N.natStore_run g2⟩
set_option maxRecDepth 100000 in
set_option maxHeartbeats 2000000 in
theorem scaled_in {c mp mn : Nat} (a : T3) (k : Nat) (W : World) (C : Cv W c mp mn) (ha : a.Ok) (hk : k < pP) :
    Calls Tryz.prog 49 #[boxM c, .agg (ptL a).toArray, .agg (N.natL k).toArray] W fun e w' => e = .returned (.agg (ptL (a.scl k)).toArray) ∧ Below W.heap.size W w' := by
  obtain ⟨sq, E_sq⟩ : ∃ R, Hid (mtimes k k = R) := ⟨_, Hid.mk rfl⟩
  have b_sq : sq < pP := by rw [← E_sq.out]; exact mtimes_lt _ _
  obtain ⟨x, E_x⟩ : ∃ R, Hid (mtimes a.x sq = R) := ⟨_, Hid.mk rfl⟩
  have b_x : x < pP := by rw [← E_x.out]; exact mtimes_lt _ _
  obtain ⟨t, E_t⟩ : ∃ R, Hid (mtimes sq k = R) := ⟨_, Hid.mk rfl⟩
  have b_t : t < pP := by rw [← E_t.out]; exact mtimes_lt _ _
  obtain ⟨y, E_y⟩ : ∃ R, Hid (mtimes a.y t = R) := ⟨_, Hid.mk rfl⟩
  have b_y : y < pP := by rw [← E_y.out]; exact mtimes_lt _ _
  obtain ⟨z, E_z⟩ : ∃ R, Hid (mtimes a.z k = R) := ⟨_, Hid.mk rfl⟩
  have b_z : z < pP := by rw [← E_z.out]; exact mtimes_lt _ _
  have hfin : a.scl k = ⟨x, y, z⟩ := by unfold T3.scl; rw [E_sq.out, E_x.out, E_t.out, E_y.out, E_z.out]
  rw [hfin]
  clear hfin
  have hz := N.zero26
  have hzp := zeroPt
  obtain ⟨V, hV, F⟩ : ∃ V, (((W.alloc (Obj.cells (ptL a).toArray 40 (0, 0))).alloc (Obj.cells (N.natL k).toArray 38 (0, 0))).alloc (Obj.cells (ptL (T3.zero)).toArray 40 (0, 0))) = V ∧ Fm W [(W.heap.size + 2, Obj.cells (ptL (T3.zero)).toArray 40 (0, 0)), (W.heap.size + 1, Obj.cells (N.natL k).toArray 38 (0, 0)), (W.heap.size, Obj.cells (ptL a).toArray 40 (0, 0))] V := ⟨_, rfl, Fm.box3 W _ _ _⟩
  have c5 := (F.cv C).fn 5 rfl
  have l5 := N.natLoad_run (F.get 1 rfl)
  have H1 : Hid (∀ w, Fm W [(W.heap.size + 2, Obj.cells (ptL (T3.zero)).toArray 40 (0, 0)), (W.heap.size + 1, Obj.cells (N.natL k).toArray 38 (0, 0)), (W.heap.size, Obj.cells (ptL a).toArray 40 (0, 0))] w → Calls Tryz.prog 86 #[boxM mp, .agg (N.natL k).toArray, .agg (N.natL k).toArray] w fun e w' => e = .returned (.agg (N.natL sq).toArray) ∧ Below w.heap.size w w') := fun w h => (pTimes (h.cv C) hk hk).mono fun e w' ⟨he, hb⟩ => ⟨by rw [he, E_sq.out], hb⟩
  go_enter Tryz.func49, Tryz.ntmps49
  go_wp2_with fail
  refine (H1.out _ F).mono ?_
  rintro e u1 ⟨rfl, hb⟩
  replace F := F.blk hb
  clear hb c5 l5 hV H1
  go_upto_region 3 with fail
  replace F := F.new (Obj.cells (N.natL sq).toArray 38 (0, 0))
  generalize u1.alloc (Obj.cells (N.natL sq).toArray 38 (0, 0)) = v1 at F ⊢
  generalize u1.heap.size = b8 at F ⊢
  replace F := F.swap
  obtain ⟨L, hL⟩ : ∃ L : List (Nat × Obj), [(b8, Obj.cells (N.natL sq).toArray 38 (0, 0)), (W.heap.size + 1, Obj.cells (N.natL k).toArray 38 (0, 0)), (W.heap.size, Obj.cells (ptL a).toArray 40 (0, 0))] = L := ⟨_, rfl⟩
  rw [hL] at F
  have Z : Fq W (W.heap.size + 2) L v1 := ⟨_, F⟩
  have HS : Hid (∀ w, Fq W (W.heap.size + 2) L w → Fq W (W.heap.size + 2) L w ∧ (∀ v, (ptStore (.pointer (some ⟨W.heap.size + 2, 0, none⟩)) (.agg (ptL v).toArray)).run Tryz.prog w = .ok () (w.setRow (W.heap.size + 2) (ptL v).toArray)) ∧ (N.natLoad (.pointer (some ⟨b8, 0, none⟩))).run Tryz.prog w = .ok (.agg (N.natL sq).toArray) w ∧ (N.natLoad (.pointer (some ⟨W.heap.size + 1, 0, none⟩))).run Tryz.prog w = .ok (.agg (N.natL k).toArray) w ∧ (N.natLoad (.pointer (some ⟨W.heap.size, 0, none⟩))).run Tryz.prog w = .ok (.agg (N.natL a.x).toArray) w ∧ (N.natLoad (.pointer (some ⟨W.heap.size, 129, none⟩))).run Tryz.prog w = .ok (.agg (N.natL a.y).toArray) w ∧ (N.natLoad (.pointer (some ⟨W.heap.size, 258, none⟩))).run Tryz.prog w = .ok (.agg (N.natL a.z).toArray) w) := fun w h => ⟨h, h.st, N.natLoad_run (h.get 0 (by rw [← hL]; rfl)), N.natLoad_run (h.get 1 (by rw [← hL]; rfl)), ptX (h.get 2 (by rw [← hL]; rfl)), ptY (h.get 2 (by rw [← hL]; rfl)), ptZ (h.get 2 (by rw [← hL]; rfl))⟩
  have H1 : Hid (∀ w, Fq W (W.heap.size + 2) L w → Calls Tryz.prog 86 #[boxM mp, .agg (N.natL a.x).toArray, .agg (N.natL sq).toArray] w fun e w' => e = .returned (.agg (N.natL x).toArray) ∧ Below w.heap.size w w') := fun w h => (pTimes (h.cv C) ha.1 b_sq).mono fun e w' ⟨he, hb⟩ => ⟨by rw [he, E_x.out], hb⟩
  have H2 : Hid (∀ w, Fq W (W.heap.size + 2) L w → Calls Tryz.prog 86 #[boxM mp, .agg (N.natL sq).toArray, .agg (N.natL k).toArray] w fun e w' => e = .returned (.agg (N.natL t).toArray) ∧ Below w.heap.size w w') := fun w h => (pTimes (h.cv C) b_sq hk).mono fun e w' ⟨he, hb⟩ => ⟨by rw [he, E_t.out], hb⟩
  have H3 : Hid (∀ w, Fq W (W.heap.size + 2) L w → Calls Tryz.prog 86 #[boxM mp, .agg (N.natL a.y).toArray, .agg (N.natL t).toArray] w fun e w' => e = .returned (.agg (N.natL y).toArray) ∧ Below w.heap.size w w') := fun w h => (pTimes (h.cv C) ha.2.1 b_t).mono fun e w' ⟨he, hb⟩ => ⟨by rw [he, E_y.out], hb⟩
  have H4 : Hid (∀ w, Fq W (W.heap.size + 2) L w → Calls Tryz.prog 86 #[boxM mp, .agg (N.natL a.z).toArray, .agg (N.natL k).toArray] w fun e w' => e = .returned (.agg (N.natL z).toArray) ∧ Below w.heap.size w w') := fun w h => (pTimes (h.cv C) ha.2.2 hk).mono fun e w' ⟨he, hb⟩ => ⟨by rw [he, E_z.out], hb⟩
  have hS0 := HS.out _ Z
  clear F hL C
  simp only [Nat.add_assoc, Nat.reduceAdd]
  go_region_held3 (fun w => Fq W (W.heap.size + 2) L w ∧ (∀ v, (ptStore (.pointer (some ⟨W.heap.size + 2, 0, none⟩)) (.agg (ptL v).toArray)).run Tryz.prog w = .ok () (w.setRow (W.heap.size + 2) (ptL v).toArray)) ∧ (N.natLoad (.pointer (some ⟨b8, 0, none⟩))).run Tryz.prog w = .ok (.agg (N.natL sq).toArray) w ∧ (N.natLoad (.pointer (some ⟨W.heap.size + 1, 0, none⟩))).run Tryz.prog w = .ok (.agg (N.natL k).toArray) w ∧ (N.natLoad (.pointer (some ⟨W.heap.size, 0, none⟩))).run Tryz.prog w = .ok (.agg (N.natL a.x).toArray) w ∧ (N.natLoad (.pointer (some ⟨W.heap.size, 129, none⟩))).run Tryz.prog w = .ok (.agg (N.natL a.y).toArray) w ∧ (N.natLoad (.pointer (some ⟨W.heap.size, 258, none⟩))).run Tryz.prog w = .ok (.agg (N.natL a.z).toArray) w)
    (first | assumption | (apply HS.out; repeat (first | assumption | apply Fm.drew | apply Fz.drew | apply Fq.drew | apply Fm.alloc | apply Fq.set)))
    (first
      | (go_at_call 86; with_reducible refine (H1.out _ (by repeat (first | assumption | apply Fm.drew | apply Fz.drew | apply Fq.drew | apply Fm.alloc))).mono ?_; rintro e w2 ⟨rfl, hb2⟩; have F2 := Fq.blk (by repeat (first | assumption | apply Fm.drew | apply Fz.drew | apply Fq.drew | apply Fm.alloc)) hb2; have hs2 := HS.out _ F2)
      | (go_at_call 86; with_reducible refine (H2.out _ (by repeat (first | assumption | apply Fm.drew | apply Fz.drew | apply Fq.drew | apply Fm.alloc))).mono ?_; rintro e w3 ⟨rfl, hb3⟩; have F3 := Fq.blk (by repeat (first | assumption | apply Fm.drew | apply Fz.drew | apply Fq.drew | apply Fm.alloc)) hb3; have hs3 := HS.out _ F3)
      | (go_at_call 86; with_reducible refine (H3.out _ (by repeat (first | assumption | apply Fm.drew | apply Fz.drew | apply Fq.drew | apply Fm.alloc))).mono ?_; rintro e w4 ⟨rfl, hb4⟩; have F4 := Fq.blk (by repeat (first | assumption | apply Fm.drew | apply Fz.drew | apply Fq.drew | apply Fm.alloc)) hb4; have hs4 := HS.out _ F4)
      | (go_at_call 86; with_reducible refine (H4.out _ (by repeat (first | assumption | apply Fm.drew | apply Fz.drew | apply Fq.drew | apply Fm.alloc))).mono ?_; rintro e w5 ⟨rfl, hb5⟩; have F5 := Fq.blk (by repeat (first | assumption | apply Fm.drew | apply Fz.drew | apply Fq.drew | apply Fm.alloc)) hb5; have hs5 := HS.out _ F5))
  have F6 := F5.fin ⟨x, y, z⟩
  go_wp2
  exact bodyPost_ret (results_pt Tryz.results49 rfl (F6.get 0 rfl)) rfl ⟨rfl, F6.bel⟩
end Go.Proofs.YtpimliebiapnfaaGreatDoor