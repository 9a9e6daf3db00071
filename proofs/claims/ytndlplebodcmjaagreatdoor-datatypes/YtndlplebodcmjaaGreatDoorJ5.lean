/- Texts of this proof, joined: DTypeOf, DTyNum, DErrV, DTypeAll, DRefWord, DRefTo. -/
import Derived.Test.YtndlplebodcmjaaGreatDoorJ3
import Derived.Lib.AtoiTie
import Derived.Stop.LaidErr
import Derived.Test.YtndlplebodcmjaaGreatDoorJ4
import Derived.Deep.RegionHeld3
/- TypeOf of a text that is TYPE and a number. -/
namespace Go.Proofs.YtndlplebodcmjaaGreatDoor
set_option linter.unusedVariables false
open Go.RowKit Go.Sort

theorem below_bytesW (w : World) (t : ByteArray) : Below w.heap.size w (Lib.bytesWorld w 5 t) :=
  ⟨rfl, rfl, rfl, by rw [Lib.bytesWorld_size]; omega, fun k hk => Lib.bytesWorld_at_old w 5 t k hk⟩

/-- what TypeOf makes of TYPE and digits that are the number k. -/
def numT (k : Nat) (text : List UInt8) : Nat × Nat := if typeT k = text then (k, 0) else (0, 7)

set_option maxRecDepth 100000 in
set_option maxHeartbeats 2000000 in
theorem numbered_in (text ds : List UInt8) (k : Nat) (hk : k ≤ 65535) (htx : text = [84, 89, 80, 69] ++ ds) (hat : Lib.atoiAll ds = .ok (k : Int)) (hl : text.length ≤ 1000) (w : World) (hT : Types w) (hP : Pow w) :
    Calls Tryz.prog 16 #[.string ⟨text.toArray⟩] w fun e w' => e = .returned (.tuple #[.int .i64 ((numT k text).1 : Nat), .int .i64 ((numT k text).2 : Nat)]) ∧ Below w.heap.size w w' := by
  have h1 : Lib.trimPrefix text [84, 89, 80, 69] = ds := by rw [htx]; simp [Lib.trimPrefix, Lib.hasPrefix]
  have h2 : Lib.hasPrefix text [84, 89, 80, 69] = true := by rw [htx]; simp [Lib.hasPrefix]
  have hC := Tryz.strings_CutPrefix ⟨text.toArray⟩ ⟨#[84, 89, 80, 69]⟩
  have hC' : ∀ w, Calls Tryz.prog 22 #[.string ⟨text.toArray⟩, .string ⟨#[84, 89, 80, 69]⟩] w fun e w' => e = .returned (.tuple #[.string ⟨ds.toArray⟩, .bool true]) ∧ w' = w := by
    intro w
    have := hC w
    simp only at this
    rw [h1, h2] at this
    exact this
  have HC := Hid.mk hC'
  have hA : ∀ w, Calls Tryz.prog 23 #[.string ⟨ds.toArray⟩] w fun e w' => e = .returned (.tuple #[.int .i64 (k : Int), .nilIface]) ∧ Below w.heap.size w w' := by
    intro w
    refine (Tryz.strconv_Atoi_ok ⟨ds.toArray⟩ (by rw [ba_size]; rw [htx, List.length_append] at hl; omega) k hat w).mono ?_
    rintro e w' ⟨rfl, h | ⟨t, h⟩⟩
    · rw [h]; exact ⟨rfl, Below.refl _ _⟩
    · rw [h]; exact ⟨rfl, below_bytesW w t⟩
  have HA := Hid.mk hA
  have HTT := Hid.mk (fun w hT hP => typeText_in k hk w hT hP)
  clear hC hC' hA h1 h2 htx hat hl
  unfold numT
  generalize typeT k = tt at HTT ⊢
  by_cases he : tt = text
  · rw [if_pos he]
    subst he
    have hne : ((⟨tt.toArray⟩ : ByteArray).toList != (⟨tt.toArray⟩ : ByteArray).toList) = false := by simp
    go_enter Tryz.func16, Tryz.ntmps16
    go_wp2_with fail
    refine (HC.out _).mono ?_
    rintro e w1 ⟨rfl, rfl⟩
    go_wp2_with fail
    refine (HA.out _).mono ?_
    rintro e w2 ⟨rfl, hb2⟩
    go_wp2_with fail
    refine (HTT.out _ (hT.below hb2) (hP.below hb2)).mono ?_
    rintro e w3 ⟨rfl, hb3⟩
    go_wp2
    go_ret2
    exact ⟨rfl, hb2.trans (hb3.mono hb2.size)⟩
  · rw [if_neg he]
    have hne : ((⟨tt.toArray⟩ : ByteArray).toList != (⟨text.toArray⟩ : ByteArray).toList) = true := by
      rw [bne_iff_ne, ByteArray.toList_eq, ByteArray.toList_eq]; exact he
    have hn2 : (tt == text) = false := by rw [beq_eq_false_iff_ne]; exact he
    go_enter Tryz.func16, Tryz.ntmps16
    go_wp2_with fail
    refine (HC.out _).mono ?_
    rintro e w1 ⟨rfl, rfl⟩
    go_wp2_with fail
    refine (HA.out _).mono ?_
    rintro e w2 ⟨rfl, hb2⟩
    go_wp2_with fail
    refine (HTT.out _ (hT.below hb2) (hP.below hb2)).mono ?_
    rintro e w3 ⟨rfl, hb3⟩
    go_wp2
    go_ret2
    exact ⟨rfl, hb2.trans (hb3.mono hb2.size)⟩

set_option maxRecDepth 100000 in
set_option maxHeartbeats 2000000 in
theorem typeOf_num (text ds : List UInt8) (k : Nat) (hk : k ≤ 65535) (htx : text = [84, 89, 80, 69] ++ ds) (hno : tab.all (fun r => r.2 != text) = true) (hat : Lib.atoiAll ds = .ok (k : Int)) (hl : text.length ≤ 1000) (w : World) (hT : Types w) (hP : Pow w) :
    Calls Tryz.prog 7 #[.string ⟨text.toArray⟩] w fun e w' => e = .returned (.tuple #[.int .i64 ((numT k text).1 : Nat), .int .i64 ((numT k text).2 : Nat)]) ∧ Below w.heap.size w w' := by
  have HN := Hid.mk (fun w hT hP => numbered_in text ds k hk htx hat hl w hT hP)
  clear hk htx hat hl
  generalize numT k text = r at HN ⊢
  obtain ⟨r1, r2⟩ := r
  have HL := Hid.mk (types_var hT)
  have HNO := Hid.mk hno
  clear hno
  go_enter Tryz.func7, Tryz.ntmps7
  go_upto_region 1 with fail
  refine wp_region_lit ?_
  refine wpList_run (v := .agg tabCells.toArray) rfl ?_ ?_
  · simp only [execOp, Act.eval]
    rw [Sem.run_bind, HL.out]; rfl
  go_wp2
  go_loopw [7] (fun i wr => ∃ m : Nat, m ≤ 15 ∧ i = .int .i64 m ∧ Below w.heap.size w wr) (fun i _ => 15 - (intOf i).toNat)
  case atStart => exact ⟨0, by omega, rfl, Below.refl _ _⟩
  case round =>
    obtain ⟨m, hm, rfl, hbl⟩ := hrel
    have hsz := hbl.size
    by_cases hlt : m < 15
    · obtain ⟨kd, tx, htab, hown, hix⟩ := tab_at m hlt
      have hne : tx ≠ text := by
        have h1 := List.all_eq_true.1 HNO.out _ (List.mem_of_getElem? htab)
        simpa using h1
      have hb1 : (tx == text) = false := by rw [beq_eq_false_iff_ne]; exact hne
      have hb2 : ((⟨tx.toArray⟩ : ByteArray).toList == (⟨text.toArray⟩ : ByteArray).toList) = false := by
        rw [beq_eq_false_iff_ne, ByteArray.toList_eq, ByteArray.toList_eq]; exact hne
      clear htab hown hne
      go_wp2
      go_roundw
      case rel => exact ⟨m + 1, by omega, by go_num, hbl.alloc hsz _⟩
      case measure => simp [intOf]; omega
    · go_wp2_with fail
      refine (HN.out _ (hT.below hbl) (hP.below hbl)).mono ?_
      rintro e w2 ⟨rfl, hb2⟩
      go_wp2
      go_ret2
      exact ⟨rfl, hbl.trans (hb2.mono hsz)⟩
end Go.Proofs.YtndlplebodcmjaaGreatDoor

/- Types as texts, on bytes alone: decimal numbers, and which text is which type's. -/
namespace Go.Proofs.YtndlplebodcmjaaGreatDoor
set_option linter.unusedVariables false
open Go.RowKit Go.Sort

theorem decFrom_snoc : ∀ (l : List UInt8) (acc : Nat) (b : UInt8), Lib.decFrom acc (l ++ [b]) = (Lib.decFrom acc l).bind fun n => (Lib.digitVal b).map fun d => n * 10 + d
  | [], acc, b => by
    rw [List.nil_append, Lib.decFrom, Lib.decFrom]
    cases Lib.digitVal b <;> rfl
  | a :: l, acc, b => by
    rw [List.cons_append, Lib.decFrom, Lib.decFrom]
    cases Lib.digitVal a with
    | none => rfl
    | some d => exact decFrom_snoc l _ b
theorem digit_of (d : Nat) (h : d < 10) : Lib.digitVal (UInt8.ofNat (48 + d)) = some d := by
  have e : (UInt8.ofNat (48 + d)).toNat = 48 + d := by rw [UInt8.toNat_ofNat']; omega
  rw [Lib.digitVal, e, if_pos (by omega)]
  congr 1
  omega
theorem digit_is {b : UInt8} {d : Nat} (h : Lib.digitVal b = some d) : d < 10 ∧ b = UInt8.ofNat (48 + d) := by
  rw [Lib.digitVal] at h
  split at h
  · cases h
    refine ⟨by omega, ?_⟩
    apply UInt8.toNat_inj.1
    rw [UInt8.toNat_ofNat']
    omega
  · cases h
theorem dec_ne (n : Nat) : Lib.decDigits n ≠ [] := by
  rw [Lib.decDigits]
  split <;> simp
theorem dec_back : ∀ n : Nat, Lib.decFrom 0 (Lib.decDigits n) = some n := by
  intro n
  induction n using Nat.strongRecOn with
  | ind n ih =>
    rw [Lib.decDigits]
    split
    · rename_i h
      rw [Lib.decFrom, digit_of n h]
      simp [Lib.decFrom]
    · rename_i h
      rw [decFrom_snoc, ih (n / 10) (by omega), digit_of (n % 10) (by omega)]
      simp
      omega
theorem head_app {l r : List UInt8} (h : l ≠ []) : (l ++ r).head? = l.head? := by
  cases l with
  | nil => exact absurd rfl h
  | cons x y => rfl
/-- no nought ahead. -/
def noNought (l : List UInt8) : Prop := 1 < l.length → l.head? ≠ some 48
theorem dec_first : ∀ n : Nat, n ≠ 0 → (Lib.decDigits n).head? ≠ some 48 := by
  intro n
  induction n using Nat.strongRecOn with
  | ind n ih =>
    intro h0
    rw [Lib.decDigits]
    split
    · rename_i h
      simp only [List.head?_cons, ne_eq, Option.some.injEq]
      intro e
      have := congrArg UInt8.toNat e
      rw [UInt8.toNat_ofNat'] at this
      have e2 : (48 : UInt8).toNat = 48 := rfl
      omega
    · rename_i h
      rw [head_app (dec_ne _)]
      exact ih (n / 10) (by omega) (by omega)
theorem dec_nought (n : Nat) : noNought (Lib.decDigits n) := by
  intro h
  apply dec_first
  rintro rfl
  rw [Lib.decDigits, dif_pos (by omega)] at h
  simp at h
theorem dec_canon : ∀ (k : Nat) (l : List UInt8) (n : Nat), l.length = k → l ≠ [] → Lib.decFrom 0 l = some n → noNought l → l = Lib.decDigits n
  | 0, l, n, hk, h, _, _ => absurd (List.eq_nil_of_length_eq_zero hk) h
  | k + 1, l, n, hk, h, hd, hn => by
    rcases List.eq_nil_or_concat l with rfl | ⟨r, b, rfl⟩
    · exact absurd rfl h
    · rw [List.concat_eq_append] at hk h hd hn ⊢
      rw [decFrom_snoc] at hd
      cases hr : Lib.decFrom 0 r with
      | none => rw [hr] at hd; cases hd
      | some m =>
        rw [hr] at hd
        cases hb : Lib.digitVal b with
        | none => rw [hb] at hd; cases hd
        | some d =>
          rw [hb] at hd
          obtain ⟨h10, rfl⟩ := digit_is hb
          simp at hd
          by_cases hre : r = []
          · subst hre
            cases hr
            have : n = d := by omega
            subst this
            rw [Lib.decDigits, dif_pos h10]
            rfl
          · have hhd : r.head? ≠ some 48 := by
              have := hn (by cases r with | nil => exact absurd rfl hre | cons x y => simp)
              rw [head_app hre] at this
              exact this
            have ih := dec_canon k r m (by rw [List.length_append] at hk; simpa using hk) hre hr (fun _ => hhd)
            have hm : m ≠ 0 := by
              rintro rfl
              rw [ih, Lib.decDigits, dif_pos (by omega)] at hhd
              exact hhd rfl
            have e1 : n / 10 = m := by omega
            have e2 : n % 10 = d := by omega
            rw [Lib.decDigits, dif_neg (by omega), e1, e2, ← ih]
theorem dec_inj {a b : Nat} (h : Lib.decDigits a = Lib.decDigits b) : a = b := by
  have := dec_back a
  rw [h, dec_back b] at this
  exact (Option.some.inj this).symm
theorem atoi_dec (k : Nat) (hk : k ≤ 65535) : Lib.atoiAll (Lib.decDigits k) = .ok (k : Int) := by
  have hl := dec_len 4 k (by omega)
  rw [Lib.atoiAll_short _ (by omega)]
  have hb := dec_back k
  cases hd : Lib.decDigits k with
  | nil => exact absurd hd (dec_ne k)
  | cons b r =>
    rw [hd] at hb
    obtain ⟨d, hdv⟩ := Lib.digit_of_decFrom _ _ _ hb 0 b rfl
    obtain ⟨h10, rfl⟩ := digit_is hdv
    have e : (UInt8.ofNat (48 + d)).toNat = 48 + d := by rw [UInt8.toNat_ofNat']; omega
    have h45 : (UInt8.ofNat (48 + d) == 45) = false := by
      rw [beq_eq_false_iff_ne]; intro h
      have := congrArg UInt8.toNat h
      have e2 : (45 : UInt8).toNat = 45 := rfl
      omega
    have h43 : (UInt8.ofNat (48 + d) == 43) = false := by
      rw [beq_eq_false_iff_ne]; intro h
      have := congrArg UInt8.toNat h
      have e2 : (43 : UInt8).toNat = 43 := rfl
      omega
    rw [Lib.atoi, h45, h43]
    simp only [Bool.false_eq_true, if_false, Lib.decNat, List.isEmpty_cons]
    rw [hb]
    rfl
/-- a prefix is no greater. -/
theorem decFrom_le : ∀ (l : List UInt8) (acc n : Nat), Lib.decFrom acc l = some n → acc ≤ n
  | [], acc, n, h => by cases h; exact Nat.le_refl _
  | b :: r, acc, n, h => by
    rw [Lib.decFrom] at h
    cases hb : Lib.digitVal b with
    | none => rw [hb] at h; cases h
    | some d =>
      rw [hb] at h
      have := decFrom_le r _ n h
      omega
theorem decFrom_app : ∀ (l r : List UInt8) (acc : Nat), Lib.decFrom acc (l ++ r) = (Lib.decFrom acc l).bind fun n => Lib.decFrom n r
  | [], r, acc => rfl
  | a :: l, r, acc => by
    rw [List.cons_append, Lib.decFrom, Lib.decFrom]
    cases Lib.digitVal a with
    | none => rfl
    | some d => exact decFrom_app l r _

/-- a text is a type's. -/
def IsT (text : List UInt8) (k : Nat) : Prop := k ≤ 65535 ∧ typeT k = text
theorem own_mem {k : Int} {t : List UInt8} (h : own? k = some t) : (k, t) ∈ tab := by
  unfold own? at h
  rw [Option.map_eq_some_iff] at h
  obtain ⟨r, hr, rfl⟩ := h
  have h1 := List.mem_of_find?_eq_some hr
  have h2 := List.find?_some hr
  have : r.1 = k := by simpa using h2
  rw [← this]
  exact h1
theorem tab_texts : ∀ r ∈ tab, ∀ s ∈ tab, r.2 = s.2 → r.1 = s.1 := by decide
theorem tab_type : ∀ r ∈ tab, Lib.hasPrefix r.2 [84, 89, 80, 69] = false ∧ 0 ≤ r.1 ∧ r.1 ≤ 255 ∧ own? r.1 = some r.2 ∧ r.2 ≠ [] := by decide
theorem isT_own {k : Nat} {t : List UInt8} (h : own? (k : Int) = some t) : IsT t k := by
  have := tab_type _ (own_mem h)
  refine ⟨by have h1 := this.2.2.1; simp only at h1; omega, ?_⟩
  rw [typeT, h]
theorem isT_cases {text : List UInt8} {k : Nat} (h : IsT text k) : own? (k : Int) = some text ∨ (own? (k : Int) = none ∧ text = [84, 89, 80, 69] ++ Lib.decDigits k) := by
  obtain ⟨h1, h2⟩ := h
  unfold typeT at h2
  cases ho : own? (k : Int) with
  | some t => rw [ho] at h2; left; rw [← h2]
  | none => rw [ho] at h2; right; exact ⟨rfl, h2.symm⟩
theorem isT_inj {text : List UInt8} {j k : Nat} (h : IsT text j) (h' : IsT text k) : j = k := by
  rcases isT_cases h with a | ⟨a, b⟩ <;> rcases isT_cases h' with c | ⟨c, d⟩
  · have := tab_texts _ (own_mem a) _ (own_mem c) rfl
    simp only at this
    omega
  · have := (tab_type _ (own_mem a)).1
    simp only at this
    rw [d] at this
    simp [Lib.hasPrefix] at this
  · have := (tab_type _ (own_mem c)).1
    simp only at this
    rw [b] at this
    simp [Lib.hasPrefix] at this
  · rw [b, List.append_cancel_left_eq] at d
    exact dec_inj d
end Go.Proofs.YtndlplebodcmjaaGreatDoor

/- The variables ErrSyntax and ErrRange of strconv hold errors; numberedType and TypeOf of any text. -/
namespace Go.Proofs.YtndlplebodcmjaaGreatDoor
set_option linter.unusedVariables false
open Go.RowKit Go.Sort

/-- the two variables hold errors. -/
structure ErrV (W : World) : Prop where
  syn : ∃ te pe, W.cell? ⟨2, 0, none⟩ = some (.iface te pe)
  rng : ∃ te pe, W.cell? ⟨3, 0, none⟩ = some (.iface te pe)
theorem ErrV.below {W W' : World} (h : ErrV W) (hb : Below W.heap.size W W') : ErrV W' := by
  obtain ⟨te, pe, h1⟩ := h.syn
  obtain ⟨tf, pf, h2⟩ := h.rng
  exact ⟨⟨te, pe, (hb.cell (p := ⟨2, 0, none⟩) (cell_block h1)).trans h1⟩, ⟨tf, pf, (hb.cell (p := ⟨3, 0, none⟩) (cell_block h2)).trans h2⟩⟩

/-- what Atoi makes of any text. -/
def AtoiPost (s : ByteArray) (w : World) (e : Ending) (w' : World) : Prop := ((∃ v : Int, Lib.atoiAll s.data.toList = .ok v ∧ e = .returned (.tuple #[.int .i64 v, .nilIface])) ∨ ((∀ v, Lib.atoiAll s.data.toList ≠ .ok v) ∧ ∃ v N, e = .returned (.tuple #[.int .i64 v, .iface 83 (.pointer (some ⟨N, 0, none⟩))]))) ∧ Below w.heap.size w w'
theorem atoi_in (s : ByteArray) (hs : s.size ≤ 140737488355328) (w : World) (hE : ErrV w) : Calls Tryz.prog 23 #[.string s] w fun e w' => AtoiPost s w e w' := by
  cases h : Lib.atoiAll s.data.toList with
  | ok v =>
    refine (Tryz.strconv_Atoi_ok s (by omega) v h w).mono ?_
    rintro e w' ⟨rfl, h' | ⟨t, h'⟩⟩
    · rw [h']; exact ⟨.inl ⟨v, h, rfl⟩, Below.refl _ _⟩
    · rw [h']; exact ⟨.inl ⟨v, h, rfl⟩, below_bytesW w t⟩
  | «syntax» =>
    obtain ⟨te, pe, hc⟩ := hE.syn
    refine (Tryz.strconv_Atoi_syntax s (by omega) h _ w hc (.inr ⟨te, pe, rfl⟩)).mono ?_
    rintro e w' ⟨N, rfl, _, _, hb⟩
    exact ⟨.inr ⟨(fun v hv => by rw [h] at hv; cases hv), _, N, rfl⟩, hb⟩
  | range =>
    obtain ⟨te, pe, hc⟩ := hE.rng
    refine (Tryz.strconv_Atoi_range s (by omega) h _ w hc (.inr ⟨te, pe, rfl⟩)).mono ?_
    rintro e w' ⟨N, rfl, _, _, hb⟩
    exact ⟨.inr ⟨(fun v hv => by rw [h] at hv; cases hv), _, N, rfl⟩, hb⟩

theorem NumEnd_ok {a b : Int} (h : (Lib.NumEnd.ok a : Lib.NumEnd Int) = .ok b) : a = b := by cases h; rfl
/-- what TypeOf makes of any text. -/
def TypeOfPost (text : ByteArray) (e : Ending) : Prop := (∃ k : Nat, IsT text.data.toList k ∧ e = .returned (.tuple #[.int .i64 ((k : Nat) : Int), .int .i64 0])) ∨ ((∀ k, ¬ IsT text.data.toList k) ∧ e = .returned (.tuple #[.int .i64 0, .int .i64 7]))

theorem pre_cut {l : List UInt8} (h : Lib.hasPrefix l [84, 89, 80, 69] = true) : l = [84, 89, 80, 69] ++ Lib.trimPrefix l [84, 89, 80, 69] := by
  simp only [Lib.trimPrefix, h, if_true]
  simp only [Lib.hasPrefix, List.isPrefixOf_iff_prefix] at h
  obtain ⟨r, rfl⟩ := h
  simp

set_option maxRecDepth 100000 in
set_option maxHeartbeats 2000000 in
theorem numbered_all (text : ByteArray) (hs : text.size ≤ 140737488355328) (hno : ∀ r ∈ tab, r.2 ≠ text.data.toList) (w : World) (hT : Types w) (hP : Pow w) (hE : ErrV w) :
    Calls Tryz.prog 16 #[.string text] w fun e w' => TypeOfPost text e ∧ Below w.heap.size w w' := by
  have hown : ∀ k, IsT text.data.toList k → text.data.toList = [84, 89, 80, 69] ++ Lib.decDigits k := fun k hk => by
    rcases isT_cases hk with h | h
    · exact absurd rfl (hno _ (own_mem h))
    · exact h.2
  have hC := Tryz.strings_CutPrefix text ⟨#[84, 89, 80, 69]⟩
  simp only at hC
  cases hp : Lib.hasPrefix text.data.toList [84, 89, 80, 69] with
  | false =>
    have HN : Hid (∀ k, ¬ IsT text.data.toList k) := fun k hk => by
      rw [hown k hk] at hp
      simp [Lib.hasPrefix] at hp
    have HC := Hid.mk hC
    rw [hp] at HC
    clear hC hp hown
    go_enter Tryz.func16, Tryz.ntmps16
    go_wp2_with fail
    refine (HC.out _).mono ?_
    rintro e w1 ⟨rfl, rfl⟩
    go_wp2
    go_ret2
    exact ⟨.inr ⟨HN.out, rfl⟩, Below.refl _ _⟩
  | true =>
    have htx := pre_cut hp
    rw [hp] at hC
    obtain ⟨ds, hds⟩ : ∃ ds, Lib.trimPrefix text.data.toList [84, 89, 80, 69] = ds := ⟨_, rfl⟩
    rw [hds] at htx hC
    have hdz : (⟨ds.toArray⟩ : ByteArray).size ≤ 140737488355328 := by
      have := congrArg List.length htx
      rw [size_list, List.length_append] at this
      rw [ba_size]; omega
    have HC := Hid.mk hC
    have HA := Hid.mk (atoi_in ⟨ds.toArray⟩ hdz)
    have HK : Hid (∀ k, IsT text.data.toList k → Lib.atoiAll ds = .ok (k : Int)) := fun k hk => by
      have := hown k hk
      rw [htx, List.append_cancel_left_eq] at this
      rw [this]
      exact atoi_dec k hk.1
    have htz : 0 < text.size := by
      have := congrArg List.length htx
      rw [size_list, List.length_append] at this
      simp at this
      omega
    clear hC hp hown hds htx hdz
    go_enter Tryz.func16, Tryz.ntmps16
    go_wp2_with fail
    refine (HC.out _).mono ?_
    rintro e w1 ⟨rfl, rfl⟩
    go_wp2_with fail
    refine (HA.out _ hE).mono ?_
    rintro e w2 ⟨⟨v, hv, rfl⟩ | ⟨hv, v, N, rfl⟩, hb2⟩
    · have hT2 := Hid.mk (hT.below hb2)
      have hP2 := Hid.mk (hP.below hb2)
      by_cases hr : 0 ≤ v ∧ v ≤ 65535
      · obtain ⟨n, rfl⟩ : ∃ n : Nat, v = (n : Int) := ⟨v.toNat, by omega⟩
        have hn : n ≤ 65535 := by omega
        have HTT := Hid.mk (typeText_in n hn)
        by_cases he : typeT n = text.data.toList
        · have HI : Hid (IsT text.data.toList n) := ⟨hn, he⟩
          have hte : (⟨(typeT n).toArray⟩ : ByteArray) = text := by apply ba_ext; exact he
          rw [hte] at HTT
          have hne : (text.toList != text.toList) = false := by simp
          clear he hte hv hr
          go_wp2_with fail
          refine (HTT.out _ hT2.out hP2.out).mono ?_
          rintro e w3 ⟨rfl, hb3⟩
          go_wp2
          go_ret2
          exact ⟨.inl ⟨n, HI.out, rfl⟩, hb2.trans (hb3.mono hb2.size)⟩
        · have HN : Hid (∀ k, ¬ IsT text.data.toList k) := fun k hk => by
            have := HK.out k hk
            have hv' : Lib.atoiAll ds = .ok ((n : Nat) : Int) := hv
            rw [hv'] at this
            have e1 : n = k := by
              have := NumEnd_ok this
              omega
            exact he (by rw [e1]; exact hk.2)
          obtain ⟨u, hu⟩ : ∃ u : ByteArray, (⟨(typeT n).toArray⟩ : ByteArray) = u := ⟨_, rfl⟩
          rw [hu] at HTT
          have hne : (u.toList == text.toList) = false := by
            rw [beq_eq_false_iff_ne, ne_eq, ByteArray.toList_eq, ByteArray.toList_eq]
            intro h
            apply he
            have h2 : u.data.toList = typeT n := by rw [← hu]
            rw [← h2]; exact h
          clear he hu hv hr
          go_wp2_with fail
          refine (HTT.out _ hT2.out hP2.out).mono ?_
          rintro e w3 ⟨rfl, hb3⟩
          go_wp2
          go_ret2
          exact ⟨.inr ⟨HN.out, rfl⟩, hb2.trans (hb3.mono hb2.size)⟩
      · have HN : Hid (∀ k, ¬ IsT text.data.toList k) := fun k hk => by
          have := HK.out k hk
          have hv' : Lib.atoiAll ds = .ok v := hv
          rw [hv'] at this
          have e1 := NumEnd_ok this
          have := hk.1
          exact hr (by omega)
        have HTT := Hid.mk (typeText_no v hr)
        have hne : (([] : List UInt8) == text.toList) = false := by
          rw [beq_eq_false_iff_ne, ne_eq, ByteArray.toList_eq]
          intro h
          have := congrArg List.length h
          rw [size_list] at this
          simp at this
          omega
        have hne2 : (text.toList == ([] : List UInt8)) = false := by
          rw [beq_eq_false_iff_ne] at hne ⊢
          exact fun h => hne h.symm
        clear hv hr
        go_wp2_with fail
        refine (HTT.out _).mono ?_
        rintro e w3 ⟨rfl, rfl⟩
        go_wp2
        go_ret2
        exact ⟨.inr ⟨HN.out, rfl⟩, hb2⟩
    · have HN : Hid (∀ k, ¬ IsT text.data.toList k) := fun k hk => hv _ (HK.out k hk)
      clear hv
      go_wp2
      go_ret2
      exact ⟨.inr ⟨HN.out, rfl⟩, hb2⟩
end Go.Proofs.YtndlplebodcmjaaGreatDoor

/- TypeOf of any text; TypeText of any number. -/
namespace Go.Proofs.YtndlplebodcmjaaGreatDoor
set_option linter.unusedVariables false
open Go.RowKit Go.Sort

set_option maxRecDepth 100000 in
set_option maxHeartbeats 2000000 in
theorem typeOf_all (text : ByteArray) (hs : text.size ≤ 140737488355328) (w : World) (hT : Types w) (hP : Pow w) (hE : ErrV w) :
    Calls Tryz.prog 7 #[.string text] w fun e w' => TypeOfPost text e ∧ Below w.heap.size w w' := by
  have HL := Hid.mk (types_var hT)
  have HN := Hid.mk (fun hno w hT hP hE => numbered_all text hs hno w hT hP hE)
  clear hs
  go_enter Tryz.func7, Tryz.ntmps7
  go_upto_region 1 with fail
  refine wp_region_lit ?_
  refine wpList_run (v := .agg tabCells.toArray) rfl ?_ ?_
  · simp only [execOp, Act.eval]
    rw [Sem.run_bind, HL.out]; rfl
  go_wp2
  go_loopw [7] (fun i wr => ∃ m : Nat, m ≤ 15 ∧ i = .int .i64 m ∧ Hid (∀ j, j < m → ∀ r, tab[j]? = some r → r.2 ≠ text.data.toList) ∧ Below w.heap.size w wr) (fun i _ => 15 - (intOf i).toNat)
  case atStart => exact ⟨0, by omega, rfl, fun j hj => absurd hj (by omega), Below.refl _ _⟩
  case round =>
    obtain ⟨m, hm, rfl, HJ, hbl⟩ := hrel
    have hsz := hbl.size
    by_cases hlt : m < 15
    · obtain ⟨kd, tx, htab, hown, hix⟩ := tab_at m hlt
      by_cases he : tx = text.data.toList
      · have hte : (⟨tx.toArray⟩ : ByteArray) = text := by apply ba_ext; exact he
        have htt := tab_type _ (own_mem hown)
        obtain ⟨k, hk⟩ : ∃ k : Nat, kd = (k : Int) := ⟨kd.toNat, by have := htt.2.1; simp only at this; omega⟩
        subst hk
        have HI : Hid (IsT text.data.toList k) := by rw [Hid, ← he]; exact isT_own hown
        rw [hte] at hix
        have hb1 : (text.toList == text.toList) = true := by simp
        clear htab hown htt he hte HJ
        go_wp2
        go_ret2
        exact ⟨.inl ⟨k, HI.out, rfl⟩, by first | exact hbl | exact hbl.alloc hsz _⟩
      · have HJ2 : Hid (∀ j, j < m + 1 → ∀ r, tab[j]? = some r → r.2 ≠ text.data.toList) := fun j hj r hr => by
          rcases Nat.lt_or_ge j m with h1 | h1
          · exact HJ.out j h1 r hr
          · obtain rfl : j = m := by omega
            rw [htab] at hr
            cases hr
            exact he
        have hb2 : ((⟨tx.toArray⟩ : ByteArray).toList == text.toList) = false := by
          rw [beq_eq_false_iff_ne, ne_eq, ByteArray.toList_eq, ByteArray.toList_eq]; exact he
        have hb1 : (tx == text.toList) = false := by
          rw [beq_eq_false_iff_ne, ne_eq, ByteArray.toList_eq]; exact he
        clear htab hown he HJ
        go_wp2
        go_roundw
        case rel => exact ⟨m + 1, by omega, by go_num, HJ2, hbl.alloc hsz _⟩
        case measure => simp [intOf]; omega
    · have hno : ∀ r ∈ tab, r.2 ≠ text.data.toList := fun r hr => by
        obtain ⟨j, hj⟩ := List.getElem?_of_mem hr
        have hl := (List.getElem?_eq_some_iff.1 hj).1
        have h15 : tab.length = 15 := rfl
        exact HJ.out j (by omega) r hj
      have HN2 := Hid.mk (HN.out hno)
      clear hno HN HJ
      go_wp2_with fail
      refine (HN2.out _ (hT.below hbl) (hP.below hbl) (hE.below hbl)).mono ?_
      rintro e w2 ⟨⟨k, hk, rfl⟩ | ⟨hk, rfl⟩, hb2⟩
      · have HK := Hid.mk hk
        clear hk
        go_wp2
        go_ret2
        exact ⟨.inl ⟨k, HK.out, rfl⟩, hbl.trans (hb2.mono hsz)⟩
      · have HK := Hid.mk hk
        clear hk
        go_wp2
        go_ret2
        exact ⟨.inr ⟨HK.out, rfl⟩, hbl.trans (hb2.mono hsz)⟩

/-- what TypeText makes of any number. -/
def TypeTextPost (k : Int) (e : Ending) : Prop := (∃ n : Nat, k = (n : Int) ∧ n ≤ 65535 ∧ e = .returned (.tuple #[.string ⟨(typeT n).toArray⟩, .int .i64 0])) ∨ (¬ (0 ≤ k ∧ k ≤ 65535) ∧ e = .returned (.tuple #[.string ⟨#[]⟩, .int .i64 1]))
theorem typeText_all (k : Int) (w : World) (hT : Types w) (hP : Pow w) : Calls Tryz.prog 5 #[.int .i64 k] w fun e w' => TypeTextPost k e ∧ Below w.heap.size w w' := by
  by_cases h : 0 ≤ k ∧ k ≤ 65535
  · obtain ⟨n, rfl⟩ : ∃ n : Nat, k = (n : Int) := ⟨k.toNat, by omega⟩
    refine (typeText_in n (by omega) w hT hP).mono ?_
    rintro e w' ⟨rfl, hb⟩
    exact ⟨.inl ⟨n, rfl, by omega, rfl⟩, hb⟩
  · refine (typeText_no k h w).mono ?_
    rintro e w' ⟨rfl, rfl⟩
    exact ⟨.inr ⟨h, rfl⟩, Below.refl _ _⟩
end Go.Proofs.YtndlplebodcmjaaGreatDoor

/- The document's own TypeText and TypeOf (guidepostref02). -/
namespace Go.Proofs.YtndlplebodcmjaaGreatDoor
set_option linter.unusedVariables false
open Go.RowKit Go.Sort

/-- a type's own word. -/
def wordT (k : Int) : List UInt8 := (own? k).getD []
set_option maxRecDepth 100000 in
set_option maxHeartbeats 4000000 in
theorem rWord_in (k : Int) (w : World) : Calls Tryz.prog 14 #[.int .i64 k] w fun e w' => e = .returned (.string ⟨(wordT k).toArray⟩) ∧ w' = w := by
  by_cases h1 : k = 1
  · subst h1
    go_enter Tryz.func14, Tryz.ntmps14
    go_wp2
    go_ret
    exact ⟨rfl, rfl⟩
  by_cases h2 : k = 2
  · subst h2
    go_enter Tryz.func14, Tryz.ntmps14
    go_wp2
    go_ret
    exact ⟨rfl, rfl⟩
  by_cases h5 : k = 5
  · subst h5
    go_enter Tryz.func14, Tryz.ntmps14
    go_wp2
    go_ret
    exact ⟨rfl, rfl⟩
  by_cases h6 : k = 6
  · subst h6
    go_enter Tryz.func14, Tryz.ntmps14
    go_wp2
    go_ret
    exact ⟨rfl, rfl⟩
  by_cases h15 : k = 15
  · subst h15
    go_enter Tryz.func14, Tryz.ntmps14
    go_wp2
    go_ret
    exact ⟨rfl, rfl⟩
  by_cases h16 : k = 16
  · subst h16
    go_enter Tryz.func14, Tryz.ntmps14
    go_wp2
    go_ret
    exact ⟨rfl, rfl⟩
  by_cases h28 : k = 28
  · subst h28
    go_enter Tryz.func14, Tryz.ntmps14
    go_wp2
    go_ret
    exact ⟨rfl, rfl⟩
  by_cases h39 : k = 39
  · subst h39
    go_enter Tryz.func14, Tryz.ntmps14
    go_wp2
    go_ret
    exact ⟨rfl, rfl⟩
  by_cases h41 : k = 41
  · subst h41
    go_enter Tryz.func14, Tryz.ntmps14
    go_wp2
    go_ret
    exact ⟨rfl, rfl⟩
  by_cases h43 : k = 43
  · subst h43
    go_enter Tryz.func14, Tryz.ntmps14
    go_wp2
    go_ret
    exact ⟨rfl, rfl⟩
  by_cases h46 : k = 46
  · subst h46
    go_enter Tryz.func14, Tryz.ntmps14
    go_wp2
    go_ret
    exact ⟨rfl, rfl⟩
  by_cases h47 : k = 47
  · subst h47
    go_enter Tryz.func14, Tryz.ntmps14
    go_wp2
    go_ret
    exact ⟨rfl, rfl⟩
  by_cases h48 : k = 48
  · subst h48
    go_enter Tryz.func14, Tryz.ntmps14
    go_wp2
    go_ret
    exact ⟨rfl, rfl⟩
  by_cases h50 : k = 50
  · subst h50
    go_enter Tryz.func14, Tryz.ntmps14
    go_wp2
    go_ret
    exact ⟨rfl, rfl⟩
  by_cases h255 : k = 255
  · subst h255
    go_enter Tryz.func14, Tryz.ntmps14
    go_wp2
    go_ret
    exact ⟨rfl, rfl⟩
  have hno : wordT k = [] := by
    have : own? k = none := by
      cases ho : own? k with
      | none => rfl
      | some t =>
        have hm := own_mem ho
        simp only [tab, List.mem_cons, Prod.mk.injEq, List.mem_nil_iff, or_false] at hm
        omega
    rw [wordT, this]; rfl
  rw [hno]
  clear hno
  have g1 : (k == 1) = false := by rw [beq_eq_false_iff_ne]; exact h1
  have g2 : (k == 2) = false := by rw [beq_eq_false_iff_ne]; exact h2
  have g5 : (k == 5) = false := by rw [beq_eq_false_iff_ne]; exact h5
  have g6 : (k == 6) = false := by rw [beq_eq_false_iff_ne]; exact h6
  have g15 : (k == 15) = false := by rw [beq_eq_false_iff_ne]; exact h15
  have g16 : (k == 16) = false := by rw [beq_eq_false_iff_ne]; exact h16
  have g28 : (k == 28) = false := by rw [beq_eq_false_iff_ne]; exact h28
  have g39 : (k == 39) = false := by rw [beq_eq_false_iff_ne]; exact h39
  have g41 : (k == 41) = false := by rw [beq_eq_false_iff_ne]; exact h41
  have g43 : (k == 43) = false := by rw [beq_eq_false_iff_ne]; exact h43
  have g46 : (k == 46) = false := by rw [beq_eq_false_iff_ne]; exact h46
  have g47 : (k == 47) = false := by rw [beq_eq_false_iff_ne]; exact h47
  have g48 : (k == 48) = false := by rw [beq_eq_false_iff_ne]; exact h48
  have g50 : (k == 50) = false := by rw [beq_eq_false_iff_ne]; exact h50
  have g255 : (k == 255) = false := by rw [beq_eq_false_iff_ne]; exact h255
  clear h1 h2 h5 h6 h15 h16 h28 h39 h41 h43 h46 h47 h48 h50 h255
  go_enter Tryz.func14, Tryz.ntmps14
  go_wp2
  go_ret
  exact ⟨rfl, rfl⟩

theorem ne_txt (u : ByteArray) (h : 0 < u.size) : (u.toList == ([] : List UInt8)) = false ∧ (([] : List UInt8) == u.toList) = false := by
  have hne : u.toList ≠ [] := by
    rw [ByteArray.toList_eq]
    intro e
    have h2 : u.size = 0 := by rw [← size_list, e]; rfl
    omega
  exact ⟨by rw [beq_eq_false_iff_ne]; exact hne, by rw [beq_eq_false_iff_ne]; exact hne.symm⟩
end Go.Proofs.YtndlplebodcmjaaGreatDoor

/- The document's own Number and TypeOf (guidepostref02). -/
namespace Go.Proofs.YtndlplebodcmjaaGreatDoor
set_option linter.unusedVariables false
open Go.RowKit Go.Sort

theorem list_ne (s : ByteArray) (h : 0 < s.size) : s.data.toList ≠ [] := by
  intro e
  have h2 : s.size = 0 := by rw [← size_list, e]; rfl
  omega
theorem ba_nil (s : ByteArray) (h : s.size = 0) : s = ⟨#[]⟩ := by
  apply ba_ext
  exact List.eq_nil_of_length_eq_zero (by rw [size_list]; exact h)
/-- a text is a type's number. -/
def IsNum (l : List UInt8) (n : Nat) : Prop := l = Lib.decDigits n ∧ n ≤ 65535
theorem isNum_dec {l : List UInt8} {n : Nat} (h : IsNum l n) : Lib.decFrom 0 l = some n := by rw [h.1]; exact dec_back n
def NumbPost (s : ByteArray) (e : Ending) : Prop := (∃ n : Nat, IsNum s.data.toList n ∧ e = .returned (.int .i64 ((n : Nat) : Int))) ∨ ((∀ n, ¬ IsNum s.data.toList n) ∧ e = .returned (.int .i64 (-1)))

set_option maxRecDepth 100000 in
set_option maxHeartbeats 4000000 in
theorem rNumber_in (s : ByteArray) (hs : s.size ≤ 140737488355328) (w : World) :
    Calls Tryz.prog 17 #[.string s, .int .i64 65535] w fun e w' => NumbPost s e ∧ w' = w := by
  go_enter Tryz.func17, Tryz.ntmps17
  go_wp2
  go_loopw [5, 6] (fun nv i wr => ∃ (k n : Nat), k ≤ s.size ∧ i = .int .i64 k ∧ nv = .int .i64 ((n : Nat) : Int) ∧ n ≤ 655359 ∧ Hid (Lib.decFrom 0 (s.data.toList.take k) = some n) ∧ wr = w) (fun _ i _ => s.size - (intOf i).toNat)
  case atStart => exact ⟨0, 0, Nat.zero_le _, rfl, rfl, by omega, rfl, rfl⟩
  case round =>
    obtain ⟨k, n, hk, rfl, rfl, hn, HD, rfl⟩ := hrel
    by_cases hlt : k < s.size
    · have hlt' : k < s.data.toList.length := by rw [size_list]; exact hlt
      have hg : s.data.toList[k]? = some s[k] := by rw [List.getElem?_eq_getElem hlt']; rfl
      have hu := s[k].toNat_lt
      by_cases hd : 48 ≤ s[k].toNat ∧ s[k].toNat ≤ 57
      · obtain ⟨hd1, hd2⟩ := hd
        by_cases hm : n ≤ 65535
        · have HD2 : Hid (Lib.decFrom 0 (s.data.toList.take (k + 1)) = some (n * 10 + (s[k].toNat - 48))) := Lib.decFrom_take _ k 0 n s[k] _ HD.out hg (by rw [Lib.digitVal, if_pos ⟨hd1, hd2⟩])
          clear hg HD
          go_wp2
          exact ⟨⟨k + 1, n * 10 + (s[k].toNat - 48), by omega, by go_num, by go_num, by omega, HD2, trivial⟩, by simp [intOf]; omega⟩
        · have HN : Hid (∀ N, ¬ IsNum s.data.toList N) := fun N hN => by
            have h1 := isNum_dec hN
            rw [← List.take_append_drop k s.data.toList, decFrom_app, HD.out] at h1
            have := decFrom_le _ _ _ h1
            have := hN.2
            omega
          clear hg HD
          go_wp2
          go_ret
          exact ⟨.inr ⟨HN.out, rfl⟩, rfl⟩
      · have HN : Hid (∀ N, ¬ IsNum s.data.toList N) := fun N hN => by
          obtain ⟨d, hd'⟩ := Lib.digit_of_decFrom _ _ _ (isNum_dec hN) k s[k] hg
          rw [Lib.digitVal, if_neg hd] at hd'
          cases hd'
        clear hg HD
        by_cases h48 : s[k].toNat < 48
        · clear hd
          go_wp2
          go_ret
          exact ⟨.inr ⟨HN.out, rfl⟩, rfl⟩
        · have h57 : 57 < s[k].toNat := by omega
          clear hd
          go_wp2
          go_ret
          exact ⟨.inr ⟨HN.out, rfl⟩, rfl⟩
    · have hall : s.data.toList.take k = s.data.toList := List.take_of_length_le (by rw [size_list]; omega)
      rw [hall] at HD
      clear hall
      by_cases h0 : 0 < s.size
      · obtain ⟨hn1, hn2⟩ := ne_txt s h0
        by_cases hm : n ≤ 65535
        · by_cases h1 : 1 < s.size
          · have hhd : s.data.toList.head? = some s[0] := by
              rw [List.head?_eq_getElem?, List.getElem?_eq_getElem (by rw [size_list]; exact h0)]; rfl
            by_cases hz : s[0].toNat = 48
            · have HN : Hid (∀ N, ¬ IsNum s.data.toList N) := fun N hN => by
                have := dec_nought N
                rw [← hN.1] at this
                apply this (by rw [size_list]; exact h1)
                rw [hhd]
                congr 1
                exact UInt8.toNat_inj.1 hz
              have hzb : ((s[0].toNat : Int) == 48) = true := by rw [hz]; rfl
              clear HD hhd hz
              go_wp2
              go_ret
              exact ⟨.inr ⟨HN.out, rfl⟩, rfl⟩
            · have HI : Hid (IsNum s.data.toList n) := ⟨dec_canon _ _ n rfl (list_ne s h0) HD.out (fun _ => by rw [hhd]; intro e; apply hz; rw [Option.some.inj e]; rfl), hm⟩
              have hzb : ((s[0].toNat : Int) == 48) = false := by rw [beq_eq_false_iff_ne]; omega
              clear HD hhd hz
              go_wp2
              go_ret
              exact ⟨.inl ⟨n, HI.out, rfl⟩, rfl⟩
          · have HI : Hid (IsNum s.data.toList n) := ⟨dec_canon _ _ n rfl (list_ne s h0) HD.out (fun h => by rw [size_list] at h; omega), hm⟩
            clear HD
            go_wp2
            go_ret
            exact ⟨.inl ⟨n, HI.out, rfl⟩, rfl⟩
        · have HN : Hid (∀ N, ¬ IsNum s.data.toList N) := fun N hN => by
            have h1 := isNum_dec hN
            rw [HD.out] at h1
            have := Option.some.inj h1
            have := hN.2
            omega
          clear HD
          go_wp2
          go_ret
          exact ⟨.inr ⟨HN.out, rfl⟩, rfl⟩
      · obtain rfl := ba_nil s (by omega)
        have HN : Hid (∀ N, ¬ IsNum (⟨#[]⟩ : ByteArray).data.toList N) := fun N hN => dec_ne N hN.1.symm
        clear HD
        go_wp2
        go_ret
        exact ⟨.inr ⟨HN.out, rfl⟩, rfl⟩

/-- what the document's TypeOf makes of any text. -/
def RTypeOfPost (text : ByteArray) (e : Ending) : Prop := (∃ k : Nat, IsT text.data.toList k ∧ e = .returned (.tuple #[.int .i64 ((k : Nat) : Int), .bool true])) ∨ ((∀ k, ¬ IsT text.data.toList k) ∧ e = .returned (.tuple #[.int .i64 0, .bool false]))
theorem word_own (k : Int) : (wordT k = [] ∧ own? k = none) ∨ (own? k = some (wordT k) ∧ wordT k ≠ []) := by
  cases h : own? k with
  | none => left; exact ⟨by rw [wordT, h]; rfl, rfl⟩
  | some t =>
    right
    have := (tab_type _ (own_mem h)).2.2.2.2
    have e : wordT k = t := by rw [wordT, h]; rfl
    rw [e]
    exact ⟨rfl, this⟩

set_option maxRecDepth 100000 in
set_option maxHeartbeats 4000000 in
theorem rTypeOf_in (text : ByteArray) (hs : text.size ≤ 140737488355328) (w : World) :
    Calls Tryz.prog 8 #[.string text] w fun e w' => RTypeOfPost text e ∧ w' = w := by
  go_enter Tryz.func8, Tryz.ntmps8
  go_wp2
  go_loopw [4] (fun i wr => ∃ k : Nat, k ≤ 256 ∧ i = .int .i64 k ∧ Hid (∀ j : Nat, j < k → own? (j : Int) ≠ some text.data.toList) ∧ wr = w) (fun i _ => 256 - (intOf i).toNat)
  case atStart => exact ⟨0, by omega, rfl, fun j hj => absurd hj (by omega), rfl⟩
  case round =>
    obtain ⟨k, hk, rfl, HJ, rfl⟩ := hrel
    by_cases hlt : k < 256
    · have HW := Hid.mk (rWord_in (k : Int))
      by_cases he : own? (k : Int) = some text.data.toList
      · have hwt : (⟨(wordT (k : Int)).toArray⟩ : ByteArray) = text := by
          rw [wordT, he]; apply ba_ext; rfl
        have HI : Hid (IsT text.data.toList k) := isT_own he
        have hz : 0 < text.size := by
          have h1 := (tab_type _ (own_mem he)).2.2.2.2
          simp only at h1
          rw [← size_list]
          cases hh : text.data.toList with
          | nil => exact absurd hh h1
          | cons => simp
        obtain ⟨hn1, hn2⟩ := ne_txt text hz
        have hb1 : (text.toList == text.toList) = true := by simp
        rw [hwt] at HW
        clear he hwt HJ
        go_wp2_with fail
        refine (HW.out _).mono ?_
        rintro e w1 ⟨rfl, rfl⟩
        go_wp2
        go_ret2
        exact ⟨.inl ⟨k, HI.out, rfl⟩, rfl⟩
      · have HJ2 : Hid (∀ j : Nat, j < k + 1 → own? (j : Int) ≠ some text.data.toList) := fun j hj => by
          rcases Nat.lt_or_ge j k with h1 | h1
          · exact HJ.out j h1
          · obtain rfl : j = k := by omega
            exact he
        rcases word_own (k : Int) with ⟨hw0, _⟩ | ⟨hw1, hw2⟩
        · rw [hw0] at HW
          clear he hw0 HJ
          by_cases hz : 0 < text.size
          · obtain ⟨hn1, hn2⟩ := ne_txt text hz
            go_wp2_with fail
            refine (HW.out _).mono ?_
            rintro e w1 ⟨rfl, rfl⟩
            go_wp2
            exact ⟨⟨k + 1, by omega, by go_num, HJ2, trivial⟩, by simp [intOf]; omega⟩
          · obtain rfl := ba_nil text (by omega)
            go_wp2_with fail
            refine (HW.out _).mono ?_
            rintro e w1 ⟨rfl, rfl⟩
            go_wp2
            exact ⟨⟨k + 1, by omega, by go_num, HJ2, trivial⟩, by simp [intOf]; omega⟩
        · obtain ⟨u, hu⟩ : ∃ u : ByteArray, (⟨(wordT (k : Int)).toArray⟩ : ByteArray) = u := ⟨_, rfl⟩
          have hne : (u.toList == text.toList) = false := by
            rw [beq_eq_false_iff_ne, ne_eq, ByteArray.toList_eq, ByteArray.toList_eq]
            intro h
            apply he
            rw [hw1]
            congr 1
            rw [← h, ← hu]
          rw [hu] at HW
          clear he hw1 hw2 hu HJ
          go_wp2_with fail
          refine (HW.out _).mono ?_
          rintro e w1 ⟨rfl, rfl⟩
          go_wp2
          exact ⟨⟨k + 1, by omega, by go_num, HJ2, trivial⟩, by simp [intOf]; omega⟩
    · have hcs : ∀ j, IsT text.data.toList j → own? (j : Int) = none ∧ text.data.toList = [84, 89, 80, 69] ++ Lib.decDigits j := fun j hj => by
        rcases isT_cases hj with h | h
        · have hb := (tab_type _ (own_mem h)).2.2.1
          simp only at hb
          exact absurd h (HJ.out j (by omega))
        · exact h
      have HK := Hid.mk hcs
      clear hcs HJ
      by_cases h5 : text.size < 5
      · have HN : Hid (∀ j, ¬ IsT text.data.toList j) := fun j hj => by
          have h1 := congrArg List.length (HK.out j hj).2
          rw [size_list, List.length_append] at h1
          have h2 := dec_ne j
          have h3 : 0 < (Lib.decDigits j).length := by
            cases hh : Lib.decDigits j with
            | nil => exact absurd hh h2
            | cons => simp
          simp at h1
          omega
        go_wp2
        go_ret2
        exact ⟨.inr ⟨HN.out, rfl⟩, rfl⟩
      · have htd : text.data.toList = (text.extract 0 4).data.toList ++ (text.extract 4 text.size).data.toList := by
          rw [Lib.extract_data, Lib.extract_data, List.drop_zero, Nat.sub_zero, show (text.data.toList.drop 4).take (text.size - 4) = text.data.toList.drop 4 from List.take_of_length_le (by rw [List.length_drop, size_list]; exact Nat.le_refl _)]
          exact (List.take_append_drop 4 _).symm
        have hp4 : (text.extract 0 4).data.toList.length = 4 := by rw [size_list, ByteArray.size_extract]; omega
        have hz4 : (text.extract 4 text.size).size ≤ 140737488355328 := by rw [ByteArray.size_extract]; omega
        have HNm := Hid.mk (rNumber_in (text.extract 4 text.size) hz4)
        have HTD := Hid.mk htd
        have HP4 := Hid.mk hp4
        clear htd hp4 hz4
        obtain ⟨pr, he4⟩ : ∃ pr, text.extract 0 4 = pr := ⟨_, rfl⟩
        obtain ⟨ds, he5⟩ : ∃ ds, text.extract 4 text.size = ds := ⟨_, rfl⟩
        rw [he4] at HTD HP4
        rw [he5] at HTD HNm
        by_cases hpr : pr.data.toList = [84, 89, 80, 69]
        · obtain rfl : pr = ⟨#[84, 89, 80, 69]⟩ := ba_ext hpr
          have HEQ : Hid (∀ j, IsT text.data.toList j ↔ (own? (j : Int) = none ∧ IsNum ds.data.toList j)) := fun j => by
            constructor
            · intro hj
              obtain ⟨h1, h2⟩ := HK.out j hj
              have h3 := HTD.out
              rw [h2] at h3
              exact ⟨h1, (List.append_cancel_left h3).symm, hj.1⟩
            · rintro ⟨h1, h2, h3⟩
              refine ⟨h3, ?_⟩
              rw [typeT, h1, HTD.out, h2]
          clear hpr HP4 HK HTD
          go_wp2_with fail
          refine (HNm.out _).mono ?_
          rintro e w1 ⟨⟨n, hn, rfl⟩ | ⟨hn, rfl⟩, rfl⟩
          · have HI := Hid.mk hn
            have hn0 : ¬ ((n : Int) < 0) := by omega
            have HW := Hid.mk (rWord_in (n : Int))
            clear hn HNm
            rcases word_own (n : Int) with ⟨hw0, ho⟩ | ⟨ho, hw2⟩
            · have HT : Hid (IsT text.data.toList n) := (HEQ.out n).2 ⟨ho, HI.out⟩
              rw [hw0] at HW
              clear hw0 ho HEQ
              go_wp2_with fail
              refine (HW.out _).mono ?_
              rintro e w2 ⟨rfl, rfl⟩
              go_wp2
              go_ret2
              exact ⟨.inl ⟨n, HT.out, rfl⟩, rfl⟩
            · have HN : Hid (∀ j, ¬ IsT text.data.toList j) := fun j hj => by
                obtain ⟨h1, h2⟩ := (HEQ.out j).1 hj
                have : n = j := dec_inj (HI.out.1.symm.trans h2.1)
                subst this
                rw [h1] at ho; cases ho
              have hz : 0 < (⟨(wordT (n : Int)).toArray⟩ : ByteArray).size := by
                rw [ba_size]
                cases hh : wordT (n : Int) with
                | nil => exact absurd hh hw2
                | cons => simp
              obtain ⟨u, hu⟩ : ∃ u : ByteArray, (⟨(wordT (n : Int)).toArray⟩ : ByteArray) = u := ⟨_, rfl⟩
              rw [hu] at HW hz
              obtain ⟨hn1, hn2⟩ := ne_txt u hz
              clear ho hw2 hu HEQ
              go_wp2_with fail
              refine (HW.out _).mono ?_
              rintro e w2 ⟨rfl, rfl⟩
              go_wp2
              go_ret2
              exact ⟨.inr ⟨HN.out, rfl⟩, rfl⟩
          · have HN : Hid (∀ j, ¬ IsT text.data.toList j) := fun j hj => hn j ((HEQ.out j).1 hj).2
            clear hn HEQ HNm
            go_wp2
            go_ret2
            exact ⟨.inr ⟨HN.out, rfl⟩, rfl⟩
        · have HN : Hid (∀ j, ¬ IsT text.data.toList j) := fun j hj => by
            have h1 := (HK.out j hj).2
            rw [HTD.out] at h1
            exact hpr (List.append_inj_left h1 (by rw [HP4.out]; rfl))
          have hne : (pr.toList == [84, 89, 80, 69]) = false := by
            rw [beq_eq_false_iff_ne, ne_eq, ByteArray.toList_eq]; exact hpr
          clear hpr HP4 HK HTD HNm
          go_wp2
          go_ret2
          exact ⟨.inr ⟨HN.out, rfl⟩, rfl⟩
end Go.Proofs.YtndlplebodcmjaaGreatDoor
