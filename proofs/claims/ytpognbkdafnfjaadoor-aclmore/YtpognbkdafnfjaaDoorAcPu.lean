/- Layer 13: numbers read: ParseUint of base 10 and 8 bits, of base 16 and 16 bits. -/
import Derived.Lib.ConvBytes
import Derived.Test.YtpognbkdafnfjaaDoorAcTt
namespace Go.Proofs.YtpognbkdafnfjaaDoor
set_option linter.unusedVariables false
set_option linter.unusedSimpArgs false
open Go.RowKit

theorem puG_cons {b m n q : Nat} {c : UInt8} {r : List UInt8} (h : dval c = some q) (h1 : q < b) (h2 : n * b + q ≤ m) : puG b m n (c :: r) = puG b m (n * b + q) r := by
  rw [puG, h]
  simp only
  rw [if_neg (by omega), if_neg (by omega)]
theorem puG_big {b m n q : Nat} {c : UInt8} {r : List UInt8} (h : dval c = some q) (h2 : m < n * b + q) : puG b m n (c :: r) = none := by
  rw [puG, h]
  show (if b ≤ q then none else if m < n * b + q then none else puG b m (n * b + q) r) = none
  split
  · rfl
  · first | rfl | rw [if_pos h2]
theorem puG_base {b m n q : Nat} {c : UInt8} {r : List UInt8} (h : dval c = some q) (h1 : b ≤ q) : puG b m n (c :: r) = none := by
  rw [puG, h]
  simp only
  rw [if_pos h1]
theorem puG_none {b m n : Nat} {c : UInt8} {r : List UInt8} (h : dval c = none) : puG b m n (c :: r) = none := by
  rw [puG, h]
theorem bits_or_u8 (a : Nat) (ha : a < 256) : bits .or .u8 (a : Int) 32 = ((a ||| 32 : Nat) : Int) := by
  have : ∀ a : Fin 256, bits .or .u8 (a.val : Int) 32 = ((a.val ||| 32 : Nat) : Int) := by decide +kernel
  exact this ⟨a, ha⟩
theorem or_65 (a : Nat) (ha : a < 256) : 97 ≤ (a ||| 32) → 65 ≤ a := by
  have : ∀ a : Fin 256, 97 ≤ (a.val ||| 32) → 65 ≤ a.val := by decide +kernel
  exact this ⟨a, ha⟩
/-- what is read of a part. -/
def PuPost (o : Option Nat) (e : Ending) : Prop := (∃ n : Nat, o = some n ∧ e = .returned (.tuple #[.int .u64 (n : Int), .nilIface])) ∨ (o = none ∧ ∃ (x k : Int), (k = 1 ∨ k = 2) ∧ e = .returned (.tuple #[.int .u64 x, .iface 113 (.int .i64 k)]))
theorem pu_bel (w : World) (t : ByteArray) : Below w.heap.size w (Lib.bytesWorld w 5 t) := by
  exact ⟨rfl, rfl, rfl, by rw [Lib.bytesWorld_size]; omega, fun k hk => Lib.bytesWorld_at_old w 5 t k hk⟩

set_option maxRecDepth 100000 in
set_option maxHeartbeats 8000000 in
theorem pu10_in (t : ByteArray) (hmax : t.size ≤ 9223372036854775806) (w : World) :
    Calls Tryd.prog 53 #[.string t, .int .i64 10, .int .i64 8] w fun e w' => PuPost (puR 10 255 t.data.toList) e ∧ Below w.heap.size w w' := by
  by_cases hz : t.size = 0
  · obtain rfl : t = ⟨#[]⟩ := by
      obtain ⟨d⟩ := t
      congr 1
      exact Array.eq_empty_of_size_eq_zero hz
    refine (Tryd.internal_strconv_ParseUint_empty 10 8 w).mono ?_
    rintro e w' ⟨rfl, rfl⟩
    exact ⟨.inr ⟨rfl, _, 2, .inr rfl, rfl⟩, Below.refl _ _⟩
  have hemp : t.toList.isEmpty = false := by
    rw [← decide_eq_emptyBytes]
    exact decide_eq_false (fun h => hz (by rw [h]; rfl))
  have hcv := Lib.run_convert_string_bytes (P := Tryd.prog) w 9 79 5 t (u := .string) Tryd.underlying9 Tryd.underlying79 Tryd.underlying5
  have hB : ∀ j, j < t.size → (Lib.bytesWorld w 5 t).cell? ⟨w.heap.size, j, none⟩ = some (.int .u8 (t.data.toList.getD j 0).toNat) := fun j hj => Lib.bytesWorld_cell w 5 t j hj
  have HBW := Hid.mk (pu_bel w t)
  have hne : t.data.toList ≠ [] := fun e => hz (by rw [Lib.size_eq, e]; rfl)
  have HR : Hid (puR 10 255 t.data.toList = puG 10 255 0 t.data.toList) := if_neg hne
  obtain ⟨R, hR⟩ : ∃ R, puR 10 255 t.data.toList = R := ⟨_, rfl⟩
  rw [hR] at HR ⊢
  clear hR hne
  obtain ⟨W1, hW1⟩ : ∃ W1, W1 = Lib.bytesWorld w 5 t := ⟨_, rfl⟩
  rw [← hW1] at hcv hB HBW
  clear hW1
  obtain ⟨bs, hL⟩ : ∃ bs, bs = t.data.toList := ⟨_, rfl⟩
  have hLn : bs.length = t.size := by rw [hL, Lib.size_eq]
  rw [← hL] at hB HR
  clear hL
  have hmv : IntKind.u64.wrap (IntKind.u64.wrap 256 - 1) = 255 := by
    rw [IntKind.wrap_u64, IntKind.wrap_u64]
    decide
  have HLO := Hid.mk Tryd.internal_strconv_lower
  go_enter Tryd.func53, Tryd.ntmps53
  go_wp2
  go_loop [12, 13, 101] (fun vu vn vi => ∃ (k acc : Nat) (a : Int), vu = .bool false ∧ vn = .int .u64 a ∧ vi = .int .i64 k ∧ k ≤ t.size ∧ Hid (a = (acc : Int) ∧ acc ≤ 255 ∧ R = puG 10 255 acc (bs.drop k)))
    (fun _ _ vi => t.size - (intOf vi).toNat)
  case atStart => exact ⟨0, 0, 0, rfl, rfl, rfl, by omega, rfl, by omega, HR.out⟩
  case round =>
    obtain ⟨k, acc, a, rfl, rfl, rfl, hk, hh⟩ := hrel
    obtain ⟨ha, hacc, hdec⟩ := hh.out
    clear hh
    have a0 : 0 ≤ a := by omega
    have a1 : a ≤ 255 := by omega
    by_cases hkn : k < t.size
    · have hc := hB k hkn
      have hdrop : bs.drop k = bs[k]'(by omega) :: bs.drop (k + 1) := List.drop_eq_getElem_cons (by omega)
      have hget : bs.getD k 0 = bs[k]'(by omega) := by simp [List.getD, List.getElem?_eq_getElem (show k < bs.length by omega)]
      rw [hdrop] at hdec
      rw [hget] at hc
      generalize bs[k]'(by omega) = c at hc hdec
      have hc256 : c.toNat < 256 := c.toNat_lt
      have hdv : dval c = if 48 ≤ c.toNat ∧ c.toNat ≤ 57 then some (c.toNat - 48) else if 97 ≤ (c.toNat ||| 32) ∧ (c.toNat ||| 32) ≤ 122 then some ((c.toNat ||| 32) - 87) else none := rfl
      have hor := bits_or_u8 c.toNat hc256
      have hLc : c.toNat ||| 32 < 256 := Nat.or_lt_two_pow (n := 8) hc256 (by decide)
      have h95 : c.toNat = 95 → (c.toNat ||| 32) = 127 := fun e => by rw [e]; rfl
      have hq65 : 97 ≤ (c.toNat ||| 32) → 65 ≤ c.toNat := or_65 c.toNat hc256
      generalize c.toNat = q at *
      generalize hLL : (q ||| 32) = Lq at *
      clear hLL
      clear hB hdrop hget
      by_cases hdig : 48 ≤ q ∧ q ≤ 57
      · obtain ⟨hd0, hd1⟩ := hdig
        rw [if_pos ⟨hd0, hd1⟩] at hdv
        by_cases hov : 255 < acc * 10 + (q - 48)
        · have HE := Hid.mk (hdec.trans (puG_big hdv hov))
          have iov : 255 < a * 10 + ((q : Int) - 48) := by omega
          clear hacc ha hdec hdv hov hor h95 hq65
          go_wp2
          go_ret2
          exact ⟨.inr ⟨HE.out, _, 1, .inl rfl, rfl⟩, HBW.out⟩
        · have HE := Hid.mk (hdec.trans (puG_cons hdv (by omega) (by omega)))
          have iov : a * 10 + ((q : Int) - 48) ≤ 255 := by omega
          have HN : Hid (a * 10 + ((q : Int) - 48) = ((acc * 10 + (q - 48) : Nat) : Int) ∧ acc * 10 + (q - 48) ≤ 255) := ⟨by omega, by omega⟩
          clear hov hacc ha hdec hdv hor h95 hq65
          go_wp2
          refine ⟨⟨k + 1, acc * 10 + (q - 48), a * 10 + ((q : Int) - 48), rfl, (by first | rfl | (congr 1; omega)), (by first | rfl | (congr 1; omega)), by omega, HN.out.1, HN.out.2, HE.out⟩, by simp [intOf]; omega⟩
      · rw [if_neg hdig] at hdv
        by_cases hlet : 97 ≤ Lq ∧ Lq ≤ 122
        · obtain ⟨hl0, hl1⟩ := hlet
          rw [if_pos ⟨hl0, hl1⟩] at hdv
          have hq95 : ¬ q = 95 := fun e => by have := h95 e; omega
          have hq57 : ¬ (q ≤ 57 ∧ 48 ≤ q) := fun h => hdig ⟨h.2, h.1⟩
          have hq48 : 65 ≤ q := hq65 hl0
          have HE := Hid.mk (hdec.trans (puG_base hdv (by omega)))
          clear hdec hdv h95
          go_wp2_with (go_at_call 65; refine (HLO.out _ _).mono ?_; rintro e w' ⟨rfl, rfl⟩)
          all_goals go_ret2
          all_goals exact ⟨.inr ⟨HE.out, _, 2, .inr rfl, rfl⟩, HBW.out⟩
        · rw [if_neg hlet] at hdv
          have HE := Hid.mk (hdec.trans (puG_none hdv))
          clear hdec hdv
          by_cases hq95 : q = 95
          · subst hq95
            obtain rfl : Lq = 127 := h95 rfl
            have hor' : bits .or .u8 95 32 = 127 := hor
            clear hor h95
            go_wp2_with (go_at_call 65; refine (HLO.out _ _).mono ?_; rintro e w' ⟨rfl, rfl⟩)
            all_goals go_ret2
            all_goals exact ⟨.inr ⟨HE.out, _, 2, .inr rfl, rfl⟩, HBW.out⟩
          · clear h95
            by_cases hL1 : 97 ≤ Lq
            · have hL2 : 122 < Lq := by omega
              by_cases hq1 : 48 ≤ q
              · have hq2 : 57 < q := by omega
                go_wp2_with (go_at_call 65; refine (HLO.out _ _).mono ?_; rintro e w' ⟨rfl, rfl⟩)
                all_goals go_ret2
                all_goals exact ⟨.inr ⟨HE.out, _, 2, .inr rfl, rfl⟩, HBW.out⟩
              · go_wp2_with (go_at_call 65; refine (HLO.out _ _).mono ?_; rintro e w' ⟨rfl, rfl⟩)
                all_goals go_ret2
                all_goals exact ⟨.inr ⟨HE.out, _, 2, .inr rfl, rfl⟩, HBW.out⟩
            · by_cases hq1 : 48 ≤ q
              · have hq2 : 57 < q := by omega
                go_wp2_with (go_at_call 65; refine (HLO.out _ _).mono ?_; rintro e w' ⟨rfl, rfl⟩)
                all_goals go_ret2
                all_goals exact ⟨.inr ⟨HE.out, _, 2, .inr rfl, rfl⟩, HBW.out⟩
              · go_wp2_with (go_at_call 65; refine (HLO.out _ _).mono ?_; rintro e w' ⟨rfl, rfl⟩)
                all_goals go_ret2
                all_goals exact ⟨.inr ⟨HE.out, _, 2, .inr rfl, rfl⟩, HBW.out⟩
    · obtain rfl : k = t.size := by omega
      have HE : Hid (R = some acc) := by rw [List.drop_eq_nil_of_le (by omega)] at hdec; exact hdec
      subst ha
      clear hdec hacc a0 a1
      go_wp2
      go_ret2
      exact ⟨.inl ⟨acc, HE.out, rfl⟩, HBW.out⟩

set_option maxRecDepth 100000 in
set_option maxHeartbeats 8000000 in
theorem pu16_in (t : ByteArray) (hmax : t.size ≤ 9223372036854775806) (w : World) :
    Calls Tryd.prog 53 #[.string t, .int .i64 16, .int .i64 16] w fun e w' => PuPost (puR 16 65535 t.data.toList) e ∧ Below w.heap.size w w' := by
  by_cases hz : t.size = 0
  · obtain rfl : t = ⟨#[]⟩ := by
      obtain ⟨d⟩ := t
      congr 1
      exact Array.eq_empty_of_size_eq_zero hz
    refine (Tryd.internal_strconv_ParseUint_empty 16 16 w).mono ?_
    rintro e w' ⟨rfl, rfl⟩
    exact ⟨.inr ⟨rfl, _, 2, .inr rfl, rfl⟩, Below.refl _ _⟩
  have hemp : t.toList.isEmpty = false := by
    rw [← decide_eq_emptyBytes]
    exact decide_eq_false (fun h => hz (by rw [h]; rfl))
  have hcv := Lib.run_convert_string_bytes (P := Tryd.prog) w 9 79 5 t (u := .string) Tryd.underlying9 Tryd.underlying79 Tryd.underlying5
  have hB : ∀ j, j < t.size → (Lib.bytesWorld w 5 t).cell? ⟨w.heap.size, j, none⟩ = some (.int .u8 (t.data.toList.getD j 0).toNat) := fun j hj => Lib.bytesWorld_cell w 5 t j hj
  have HBW := Hid.mk (pu_bel w t)
  have hne : t.data.toList ≠ [] := fun e => hz (by rw [Lib.size_eq, e]; rfl)
  have HR : Hid (puR 16 65535 t.data.toList = puG 16 65535 0 t.data.toList) := if_neg hne
  obtain ⟨R, hR⟩ : ∃ R, puR 16 65535 t.data.toList = R := ⟨_, rfl⟩
  rw [hR] at HR ⊢
  clear hR hne
  obtain ⟨W1, hW1⟩ : ∃ W1, W1 = Lib.bytesWorld w 5 t := ⟨_, rfl⟩
  rw [← hW1] at hcv hB HBW
  clear hW1
  obtain ⟨bs, hL⟩ : ∃ bs, bs = t.data.toList := ⟨_, rfl⟩
  have hLn : bs.length = t.size := by rw [hL, Lib.size_eq]
  rw [← hL] at hB HR
  clear hL
  have hmv : IntKind.u64.wrap (IntKind.u64.wrap 65536 - 1) = 65535 := by
    rw [IntKind.wrap_u64, IntKind.wrap_u64]
    decide
  have HLO := Hid.mk Tryd.internal_strconv_lower
  go_enter Tryd.func53, Tryd.ntmps53
  go_wp2
  go_loop [12, 13, 101] (fun vu vn vi => ∃ (k acc : Nat) (a : Int), vu = .bool false ∧ vn = .int .u64 a ∧ vi = .int .i64 k ∧ k ≤ t.size ∧ Hid (a = (acc : Int) ∧ acc ≤ 65535 ∧ R = puG 16 65535 acc (bs.drop k)))
    (fun _ _ vi => t.size - (intOf vi).toNat)
  case atStart => exact ⟨0, 0, 0, rfl, rfl, rfl, by omega, rfl, by omega, HR.out⟩
  case round =>
    obtain ⟨k, acc, a, rfl, rfl, rfl, hk, hh⟩ := hrel
    obtain ⟨ha, hacc, hdec⟩ := hh.out
    clear hh
    have a0 : 0 ≤ a := by omega
    have a1 : a ≤ 65535 := by omega
    by_cases hkn : k < t.size
    · have hc := hB k hkn
      have hdrop : bs.drop k = bs[k]'(by omega) :: bs.drop (k + 1) := List.drop_eq_getElem_cons (by omega)
      have hget : bs.getD k 0 = bs[k]'(by omega) := by simp [List.getD, List.getElem?_eq_getElem (show k < bs.length by omega)]
      rw [hdrop] at hdec
      rw [hget] at hc
      generalize bs[k]'(by omega) = c at hc hdec
      have hc256 : c.toNat < 256 := c.toNat_lt
      have hdv : dval c = if 48 ≤ c.toNat ∧ c.toNat ≤ 57 then some (c.toNat - 48) else if 97 ≤ (c.toNat ||| 32) ∧ (c.toNat ||| 32) ≤ 122 then some ((c.toNat ||| 32) - 87) else none := rfl
      have hor := bits_or_u8 c.toNat hc256
      have hLc : c.toNat ||| 32 < 256 := Nat.or_lt_two_pow (n := 8) hc256 (by decide)
      have h95 : c.toNat = 95 → (c.toNat ||| 32) = 127 := fun e => by rw [e]; rfl
      have hq65 : 97 ≤ (c.toNat ||| 32) → 65 ≤ c.toNat := or_65 c.toNat hc256
      generalize c.toNat = q at *
      generalize hLL : (q ||| 32) = Lq at *
      clear hLL
      clear hB hdrop hget
      by_cases hdig : 48 ≤ q ∧ q ≤ 57
      · obtain ⟨hd0, hd1⟩ := hdig
        rw [if_pos ⟨hd0, hd1⟩] at hdv
        by_cases hov : 65535 < acc * 16 + (q - 48)
        · have HE := Hid.mk (hdec.trans (puG_big hdv hov))
          have iov : 65535 < a * 16 + ((q : Int) - 48) := by omega
          clear hacc ha hdec hdv hov hor h95 hq65
          go_wp2
          go_ret2
          exact ⟨.inr ⟨HE.out, _, 1, .inl rfl, rfl⟩, HBW.out⟩
        · have HE := Hid.mk (hdec.trans (puG_cons hdv (by omega) (by omega)))
          have iov : a * 16 + ((q : Int) - 48) ≤ 65535 := by omega
          have HN : Hid (a * 16 + ((q : Int) - 48) = ((acc * 16 + (q - 48) : Nat) : Int) ∧ acc * 16 + (q - 48) ≤ 65535) := ⟨by omega, by omega⟩
          clear hov hacc ha hdec hdv hor h95 hq65
          go_wp2
          refine ⟨⟨k + 1, acc * 16 + (q - 48), a * 16 + ((q : Int) - 48), rfl, (by first | rfl | (congr 1; omega)), (by first | rfl | (congr 1; omega)), by omega, HN.out.1, HN.out.2, HE.out⟩, by simp [intOf]; omega⟩
      · rw [if_neg hdig] at hdv
        by_cases hlet : 97 ≤ Lq ∧ Lq ≤ 122
        · obtain ⟨hl0, hl1⟩ := hlet
          rw [if_pos ⟨hl0, hl1⟩] at hdv
          have hq95 : ¬ q = 95 := fun e => by have := h95 e; omega
          have hq57 : ¬ (q ≤ 57 ∧ 48 ≤ q) := fun h => hdig ⟨h.2, h.1⟩
          have hq48 : 65 ≤ q := hq65 hl0
          by_cases hbs : 16 ≤ Lq - 87
          · have hL3 : 103 ≤ Lq := by omega
            have HE := Hid.mk (hdec.trans (puG_base hdv (by omega)))
            clear hdec hdv h95
            go_wp2_with (go_at_call 65; refine (HLO.out _ _).mono ?_; rintro e w' ⟨rfl, rfl⟩)
            all_goals go_ret2
            all_goals exact ⟨.inr ⟨HE.out, _, 2, .inr rfl, rfl⟩, HBW.out⟩
          · have hL3 : Lq < 103 := by omega
            by_cases hov : 65535 < acc * 16 + (Lq - 87)
            · have HE := Hid.mk (hdec.trans (puG_big hdv hov))
              have iov : 65535 < a * 16 + ((Lq : Int) - 87) := by omega
              clear hacc ha hdec hdv hov h95
              go_wp2_with (go_at_call 65; refine (HLO.out _ _).mono ?_; rintro e w' ⟨rfl, rfl⟩)
              all_goals go_ret2
              all_goals exact ⟨.inr ⟨HE.out, _, 1, .inl rfl, rfl⟩, HBW.out⟩
            · have HE := Hid.mk (hdec.trans (puG_cons hdv (by omega) (by omega)))
              have iov : a * 16 + ((Lq : Int) - 87) ≤ 65535 := by omega
              have HN : Hid (a * 16 + ((Lq : Int) - 87) = ((acc * 16 + (Lq - 87) : Nat) : Int) ∧ acc * 16 + (Lq - 87) ≤ 65535) := ⟨by omega, by omega⟩
              clear hov hacc ha hdec hdv h95
              go_wp2_with (go_at_call 65; refine (HLO.out _ _).mono ?_; rintro e w' ⟨rfl, rfl⟩)
              refine ⟨⟨k + 1, acc * 16 + (Lq - 87), a * 16 + ((Lq : Int) - 87), rfl, (by first | rfl | (congr 1; omega)), (by first | rfl | (congr 1; omega)), by omega, HN.out.1, HN.out.2, HE.out⟩, by simp [intOf]; omega⟩
        · rw [if_neg hlet] at hdv
          have HE := Hid.mk (hdec.trans (puG_none hdv))
          clear hdec hdv
          by_cases hq95 : q = 95
          · subst hq95
            obtain rfl : Lq = 127 := h95 rfl
            have hor' : bits .or .u8 95 32 = 127 := hor
            clear hor h95
            go_wp2_with (go_at_call 65; refine (HLO.out _ _).mono ?_; rintro e w' ⟨rfl, rfl⟩)
            all_goals go_ret2
            all_goals exact ⟨.inr ⟨HE.out, _, 2, .inr rfl, rfl⟩, HBW.out⟩
          · clear h95
            by_cases hL1 : 97 ≤ Lq
            · have hL2 : 122 < Lq := by omega
              by_cases hq1 : 48 ≤ q
              · have hq2 : 57 < q := by omega
                go_wp2_with (go_at_call 65; refine (HLO.out _ _).mono ?_; rintro e w' ⟨rfl, rfl⟩)
                all_goals go_ret2
                all_goals exact ⟨.inr ⟨HE.out, _, 2, .inr rfl, rfl⟩, HBW.out⟩
              · go_wp2_with (go_at_call 65; refine (HLO.out _ _).mono ?_; rintro e w' ⟨rfl, rfl⟩)
                all_goals go_ret2
                all_goals exact ⟨.inr ⟨HE.out, _, 2, .inr rfl, rfl⟩, HBW.out⟩
            · by_cases hq1 : 48 ≤ q
              · have hq2 : 57 < q := by omega
                go_wp2_with (go_at_call 65; refine (HLO.out _ _).mono ?_; rintro e w' ⟨rfl, rfl⟩)
                all_goals go_ret2
                all_goals exact ⟨.inr ⟨HE.out, _, 2, .inr rfl, rfl⟩, HBW.out⟩
              · go_wp2_with (go_at_call 65; refine (HLO.out _ _).mono ?_; rintro e w' ⟨rfl, rfl⟩)
                all_goals go_ret2
                all_goals exact ⟨.inr ⟨HE.out, _, 2, .inr rfl, rfl⟩, HBW.out⟩
    · obtain rfl : k = t.size := by omega
      have HE : Hid (R = some acc) := by rw [List.drop_eq_nil_of_le (by omega)] at hdec; exact hdec
      subst ha
      clear hdec hacc a0 a1
      go_wp2
      go_ret2
      exact ⟨.inl ⟨acc, HE.out, rfl⟩, HBW.out⟩
end Go.Proofs.YtpognbkdafnfjaaDoor
