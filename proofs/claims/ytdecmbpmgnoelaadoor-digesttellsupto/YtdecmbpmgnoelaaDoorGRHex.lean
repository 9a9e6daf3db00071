/- The document's value, Hex. -/
import Derived.Test.YtdecmbpmgnoelaaDoorGRTell
namespace Go.Proofs.YtdecmbpmgnoelaaDoor
set_option linter.unusedVariables false
open Go.RowKit
/-- what a letter counts among so many. -/
def vl (c : UInt8) (m : Nat) : UInt8 := if (cnt c).toNat < m then cnt c else 99
set_option maxHeartbeats 1000000 in
theorem value_in (c : UInt8) (m : Nat) (hm : m ≤ 99) (w : World) : Calls Tryd.prog 31 #[.int .u8 (c.toNat : Int), .int .u8 (m : Int)] w fun e w' => e = .returned (.int .u8 ((vl c m).toNat : Int)) ∧ w' = w := by
  have hc := c.toNat_lt
  rcases (show (48 ≤ c.toNat ∧ c.toNat ≤ 57) ∨ (97 ≤ c.toNat ∧ c.toNat ≤ 118) ∨ (65 ≤ c.toNat ∧ c.toNat ≤ 86) ∨ c.toNat < 48 ∨ (57 < c.toNat ∧ c.toNat < 65) ∨ (86 < c.toNat ∧ c.toNat < 97) ∨ 118 < c.toNat by omega) with ⟨a1, a2⟩ | ⟨a1, a2⟩ | ⟨a1, a2⟩ | a | ⟨a, b⟩ | ⟨a, b⟩ | a
  · skip
    have hv : (cnt c).toNat = c.toNat - 48 := by unfold cnt; rw [if_pos ⟨a1, a2⟩]; rw [UInt8.toNat_ofNat']; omega
    by_cases hk : c.toNat - 48 < m
    · have HV : Hid (((vl c m).toNat : Int) = (c.toNat : Int) - 48) := by rw [Hid, vl, if_pos (by omega), hv]; omega
      have hk' : (c.toNat : Int) - 48 < (m : Int) := by omega
      clear hv hk
      go_enter Tryd.func31, Tryd.ntmps31
      go_wp2
      go_ret
      exact ⟨ret_int (by rw [HV.out]; first | done | omega), rfl⟩
    · have HV : Hid (((vl c m).toNat : Int) = 99) := by rw [Hid, vl, if_neg (by omega)]; rfl
      have hk' : (m : Int) ≤ (c.toNat : Int) - 48 := by omega
      clear hv hk
      go_enter Tryd.func31, Tryd.ntmps31
      go_wp2
      go_ret
      exact ⟨ret_int (by rw [HV.out]), rfl⟩
  · skip
    have hv : (cnt c).toNat = c.toNat - 87 := by unfold cnt; rw [if_neg (by omega), if_pos ⟨a1, a2⟩]; rw [UInt8.toNat_ofNat']; omega
    have b1 : (57 : Int) < (c.toNat : Int) := by omega
    by_cases hk : c.toNat - 87 < m
    · have HV : Hid (((vl c m).toNat : Int) = (c.toNat : Int) - 87) := by rw [Hid, vl, if_pos (by omega), hv]; omega
      have hk' : (c.toNat : Int) - 87 < (m : Int) := by omega
      clear hv hk
      go_enter Tryd.func31, Tryd.ntmps31
      go_wp2
      go_ret
      exact ⟨ret_int (by rw [HV.out]; first | done | omega), rfl⟩
    · have HV : Hid (((vl c m).toNat : Int) = 99) := by rw [Hid, vl, if_neg (by omega)]; rfl
      have hk' : (m : Int) ≤ (c.toNat : Int) - 87 := by omega
      clear hv hk
      go_enter Tryd.func31, Tryd.ntmps31
      go_wp2
      go_ret
      exact ⟨ret_int (by rw [HV.out]), rfl⟩
  · skip
    have hv : (cnt c).toNat = c.toNat - 55 := by unfold cnt; rw [if_neg (by omega), if_neg (by omega), if_pos ⟨a1, a2⟩]; rw [UInt8.toNat_ofNat']; omega
    have b1 : (57 : Int) < (c.toNat : Int) := by omega
    have b2 : (c.toNat : Int) < 97 := by omega
    by_cases hk : c.toNat - 55 < m
    · have HV : Hid (((vl c m).toNat : Int) = (c.toNat : Int) - 55) := by rw [Hid, vl, if_pos (by omega), hv]; omega
      have hk' : (c.toNat : Int) - 55 < (m : Int) := by omega
      clear hv hk
      go_enter Tryd.func31, Tryd.ntmps31
      go_wp2
      go_ret
      exact ⟨ret_int (by rw [HV.out]; first | done | omega), rfl⟩
    · have HV : Hid (((vl c m).toNat : Int) = 99) := by rw [Hid, vl, if_neg (by omega)]; rfl
      have hk' : (m : Int) ≤ (c.toNat : Int) - 55 := by omega
      clear hv hk
      go_enter Tryd.func31, Tryd.ntmps31
      go_wp2
      go_ret
      exact ⟨ret_int (by rw [HV.out]), rfl⟩
  all_goals (
    have hv : (cnt c).toNat = 255 := by unfold cnt; rw [if_neg (by omega), if_neg (by omega), if_neg (by omega)]; rfl
    have HV : Hid (((vl c m).toNat : Int) = 99) := by rw [Hid, vl, if_neg (by omega)]; rfl
    have hk' : (m : Int) ≤ 99 := by omega
    clear hv
    go_enter Tryd.func31, Tryd.ntmps31
    go_wp2
    go_ret
    exact ⟨ret_int (by rw [HV.out]), rfl⟩)

/-- a byte's two letters. -/
def hx (c : UInt8) : List UInt8 := [ltr (UInt8.ofNat (c.toNat / 16)), ltr (UInt8.ofNat (c.toNat % 16))]
theorem index_hex (x : UInt8) (h : x.toNat < 16) (W : World) : (Instr.index 9 (.string ⟨#[48, 49, 50, 51, 52, 53, 54, 55, 56, 57, 97, 98, 99, 100, 101, 102]⟩) (.int .u8 (x.toNat : Int))).run Tryd.prog W = .ok (.int .u8 ((ltr x).toNat : Int)) W := by
  have hs : x.toNat < (⟨#[48, 49, 50, 51, 52, 53, 54, 55, 56, 57, 97, 98, 99, 100, 101, 102]⟩ : ByteArray).size := h
  rw [run_index_string _ _ _ _ _ Tryd.underlying9]
  have h0 : (0 : Int) ≤ (x.toNat : Int) := by omega
  have hn : ((x.toNat : Int)).toNat = x.toNat := by omega
  have hs' : (x.toNat : Int) < ((⟨#[48, 49, 50, 51, 52, 53, 54, 55, 56, 57, 97, 98, 99, 100, 101, 102]⟩ : ByteArray).size : Int) := by omega
  have hg : (⟨#[48, 49, 50, 51, 52, 53, 54, 55, 56, 57, 97, 98, 99, 100, 101, 102]⟩ : ByteArray)[x.toNat] = ltr x := by
    obtain ⟨n, hn⟩ : ∃ n, x.toNat = n := ⟨_, rfl⟩
    have hx : x = UInt8.ofNat n := by rw [← hn, UInt8.ofNat_toNat]
    have h16 : n < 16 := by omega
    subst hx
    simp only [hn]
    rcases (show n = 0 ∨ n = 1 ∨ n = 2 ∨ n = 3 ∨ n = 4 ∨ n = 5 ∨ n = 6 ∨ n = 7 ∨ n = 8 ∨ n = 9 ∨ n = 10 ∨ n = 11 ∨ n = 12 ∨ n = 13 ∨ n = 14 ∨ n = 15 by omega) with rfl | rfl | rfl | rfl | rfl | rfl | rfl | rfl | rfl | rfl | rfl | rfl | rfl | rfl | rfl | rfl <;> rfl
  simp only [h0, hn]
  rw [dif_pos ⟨trivial, hs'⟩, hg]
theorem index_hexi (x : UInt8) (k : Int) (hk : (x.toNat : Int) = k) (h : x.toNat < 16) (W : World) : (Instr.index 9 (.string ⟨#[48, 49, 50, 51, 52, 53, 54, 55, 56, 57, 97, 98, 99, 100, 101, 102]⟩) (.int .u8 k)).run Tryd.prog W = .ok (.int .u8 ((ltr x).toNat : Int)) W := by
  rw [← hk]; exact index_hex x h W
set_option maxRecDepth 100000 in
set_option maxHeartbeats 2000000 in
theorem rhex_in (s : ByteArray) (hs : s.size ≤ 1048576) (W : World) : Calls Tryd.prog 16 #[.string s] W fun e w' => e = .returned (.string ⟨(s.data.toList.flatMap hx).toArray⟩) ∧ Below W.heap.size W w' := by
  obtain ⟨i0, hi, hz0, hz1, hz2⟩ := info_of info5
  obtain ⟨n, hn⟩ : ∃ n, s.size = n := ⟨_, rfl⟩
  obtain ⟨l, hl⟩ : ∃ l, s.data.toList = l := ⟨_, rfl⟩
  have HLN : Hid (l.length = n) := by rw [Hid, ← hl, size_list]; exact hn
  have HIX : Hid (∀ m, m < n → ∀ W : World, (Instr.index 9 (.string s) (.int .i64 (m : Int))).run Tryd.prog W = .ok (.int .u8 ((l[m]?.getD 0).toNat : Int)) W) := fun m hm W => index_get s m _ (by omega) (by rw [hl]) W
  rw [hl]
  have hn2 : n ≤ 1048576 := by omega
  clear hl hs
  go_enter Tryd.func16, Tryd.ntmps16
  go_wp2_with fail
  go_loopw [3, 4] (fun v i wr => ∃ m : Nat, m ≤ n ∧ i = .int .i64 m ∧ wr.ownsRow W.heap.size 5 1 v (2 * m) (bcl ((l.take m).flatMap hx)) ∧ Below W.heap.size W wr) (fun _ i _ => n - (intOf i).toNat)
  case atStart => exact ⟨0, by omega, rfl, ⟨rfl, .inl ⟨rfl, rfl⟩⟩, Below.refl _ _⟩
  case round =>
    obtain ⟨m, hm, rfl, hown, hbl⟩ := hrel
    have HO := Hid.mk hown
    have hsz := hbl.size
    by_cases hlt : m < n
    · have hix := HIX.out m hlt
      have HN : Hid ((l.take (m + 1)).flatMap hx = (l.take m).flatMap hx ++ hx (l[m]?.getD 0)) := by
        rw [Hid, List.take_add_one, List.flatMap_append, List.getElem?_eq_getElem (by have := HLN.out; omega)]
        simp
      generalize l[m]?.getD 0 = c at hix HN
      have hc8 := c.toNat_lt
      have qa : ((UInt8.ofNat (c.toNat / 16)).toNat : Int) = (c.toNat : Int) / 16 := by rw [UInt8.toNat_ofNat']; omega
      have qb : ((UInt8.ofNat (c.toNat % 16)).toNat : Int) = (c.toNat : Int) % 16 := by rw [UInt8.toNat_ofNat']; omega
      have ia := index_hexi (UInt8.ofNat (c.toNat / 16)) _ qa (by omega)
      have ib := index_hexi (UInt8.ofNat (c.toNat % 16)) _ qb (by omega)
      have ta : (c.toNat : Int).tdiv 16 = (c.toNat : Int) / 16 := Int.tdiv_eq_ediv_of_nonneg (by omega)
      have tb : (c.toNat : Int).tmod 16 = (c.toNat : Int) % 16 := Int.tmod_eq_emod_of_nonneg (by omega)
      have wa : IntKind.u8.wrap ((c.toNat : Int) / 16) = (c.toNat : Int) / 16 := by rw [IntKind.wrap_u8]; omega
      have wb : IntKind.u8.wrap ((c.toNat : Int) % 16) = (c.toNat : Int) % 16 := by rw [IntKind.wrap_u8]; omega
      have HHX : Hid (bcl (hx c) = [.int .u8 ((ltr (UInt8.ofNat (c.toNat / 16))).toNat : Int), .int .u8 ((ltr (UInt8.ofNat (c.toNat % 16))).toNat : Int)]) := rfl
      generalize ltr (UInt8.ofNat (c.toNat / 16)) = ya at ia HHX
      generalize ltr (UInt8.ofNat (c.toNat % 16)) = yb at ib HHX
      clear hown qa qb
      go_wp2_with fail
      go_region_held3 (fun _ => True) (trivial)
        (first
          | (refine step_append_own rfl (.tmp 11) (.tmp 22) rfl W.heap.size i0 hi hz0 hz1 hz2 _ (2 * m) _ rfl (HO.out.drew.alloc _) ⟨wr.heap.size, 0, none⟩ 2 2 [.int .u8 (ya.toNat : Int), .int .u8 (yb.toNat : Int)] rfl rfl (fun j u h => cells_new wr.drew _ 5 j u h) (by simp [Value.oneCell']) (by omega) (by omega) (by simp; omega) ?_; intro v1 w1 hown1 hgrow1))
      all_goals (
        have B2 : Below W.heap.size W w1 := (hbl.drew.alloc hbl.size _).grown hgrow1 (Nat.le_trans hbl.size (by simp)) (fun k hk => (HO.out.lt k hk).1)
        have hown2 : w1.ownsRow W.heap.size 5 1 v1 (2 * (m + 1)) (bcl ((l.take (m + 1)).flatMap hx)) := by
          rw [HN.out, bcl_app, HHX.out, Nat.mul_add]; exact hown1
        clear hown1 hgrow1
        go_wp2
        go_roundw
        case rel => exact ⟨m + 1, by omega, by go_num, hown2, B2⟩
        case measure => simp [intOf]; omega)
    · obtain rfl : n = m := by omega
      have hall : ∀ q : List UInt8, (q.flatMap hx).length = 2 * q.length := fun q => by
        induction q with
        | nil => rfl
        | cons c q ih => rw [List.flatMap_cons, List.length_append, ih, List.length_cons]; show 2 + _ = _; omega
      have hcv := own_back_any HO.out (by rw [List.take_of_length_le (Nat.le_of_eq HLN.out), hall, HLN.out])
      rw [List.take_of_length_le (Nat.le_of_eq HLN.out)] at hcv
      clear hown hall
      go_wp2
      go_ret
      exact ⟨rfl, hbl⟩
end Go.Proofs.YtdecmbpmgnoelaaDoor
