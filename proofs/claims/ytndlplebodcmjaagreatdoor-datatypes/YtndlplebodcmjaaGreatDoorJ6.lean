/- Texts of this proof, joined: DRefDig, DGlob2, DUnder, DReads, DGrpRead, DStr. -/
import Derived.BigQuiet
import Derived.Test.YtndlplebodcmjaaGreatDoorJ5
import Derived.Test.YtndlplebodcmjaaGreatDoorJ4
/- The document's own digits and TypeText (guidepostref02). -/
namespace Go.Proofs.YtndlplebodcmjaaGreatDoor
set_option linter.unusedVariables false
open Go.RowKit Go.Sort

def digs : ByteArray := ⟨#[48, 49, 50, 51, 52, 53, 54, 55, 56, 57]⟩
theorem dig_ext (n : Nat) (h : n < 10) : (⟨#[48, 49, 50, 51, 52, 53, 54, 55, 56, 57]⟩ : ByteArray).extract n (n + 1) = ⟨[UInt8.ofNat (48 + n)].toArray⟩ := by
  rcases (show n = 0 ∨ n = 1 ∨ n = 2 ∨ n = 3 ∨ n = 4 ∨ n = 5 ∨ n = 6 ∨ n = 7 ∨ n = 8 ∨ n = 9 by omega) with rfl | rfl | rfl | rfl | rfl | rfl | rfl | rfl | rfl | rfl
  all_goals exact ba_ext (by decide)
theorem drew_add (w : World) (n m : Nat) : (w.drewN n).drewN m = w.drewN (n + m) := by simp [World.drewN, Nat.add_assoc]
theorem below_dn (w : World) (j : Nat) : Below w.heap.size w (w.drewN j) := ⟨rfl, rfl, rfl, Nat.le_refl _, fun _ _ => rfl⟩
set_option maxRecDepth 100000 in
set_option maxHeartbeats 800000 in
theorem rDigits_in : ∀ (n : Nat), n ≤ 65535 → ∀ w : World, Calls Tryz.prog 15 #[.int .i64 ((n : Nat) : Int)] w fun e w' => e = .returned (.string ⟨(Lib.decDigits n).toArray⟩) ∧ ∃ j, w' = w.drewN j := by
  intro n
  induction n using Nat.strongRecOn with
  | ind n ih =>
    intro hn w
    by_cases h : n < 10
    · have HD : Hid ((⟨(Lib.decDigits n).toArray⟩ : ByteArray) = (⟨#[48, 49, 50, 51, 52, 53, 54, 55, 56, 57]⟩ : ByteArray).extract n (n + 1)) := by rw [Hid, dig_ext n h, Lib.decDigits, dif_pos h]
      clear ih
      rw [HD.out]
      go_enter Tryz.func15, Tryz.ntmps15
      go_wp2
      go_ret
      exact ⟨rfl, 0, rfl⟩
    · have HI := Hid.mk (ih (n / 10) (by omega) (by omega))
      have hl := dec_len 4 (n / 10) (by omega)
      have HD : Hid ((⟨(Lib.decDigits n).toArray⟩ : ByteArray) = (⟨(Lib.decDigits (n / 10)).toArray⟩ : ByteArray) ++ (⟨#[48, 49, 50, 51, 52, 53, 54, 55, 56, 57]⟩ : ByteArray).extract (n % 10) (n % 10 + 1)) := by
        rw [Hid, dig_ext (n % 10) (by omega)]
        apply ba_ext
        rw [ByteArray.data_append, Array.toList_append, Lib.decDigits, dif_neg h]
      obtain ⟨u, hu⟩ : ∃ u : ByteArray, (⟨(Lib.decDigits (n / 10)).toArray⟩ : ByteArray) = u := ⟨_, rfl⟩
      have huz : u.size ≤ 5 := by rw [← hu, ba_size]; exact hl
      rw [HD.out, hu]
      rw [hu] at HI
      clear ih hl hu HD
      have hmo : Tryz.prog.follows Departure.mixedOrders = true := by kernel_rfl
      obtain ⟨m, hm⟩ : ∃ m, n % 10 = m := ⟨_, rfl⟩
      obtain ⟨q, hq⟩ : ∃ q, n / 10 = q := ⟨_, rfl⟩
      have hm1 : m < 10 := by omega
      have hm2 : (n : Int) % 10 = (m : Int) := by omega
      have hm3 : (n : Int).tmod 10 = (m : Int) := by rw [Int.tmod_eq_emod_of_nonneg (by omega)]; exact hm2
      have hw : IntKind.i64.wrap ((m : Int) + 1) = (m : Int) + 1 := by rw [IntKind.wrap_i64]; omega
      have hi0 : (0 : Int) ≤ (m : Int) := by omega
      have hi1 : (m : Int) + 1 ≤ 10 := by omega
      have hi2 : (m : Int) ≤ (m : Int) + 1 := by omega
      have hi3 : ((m : Int) + 1).toNat = m + 1 := by omega
      have hi4 : (m : Int) ≤ 10 := by omega
      have hq2 : (n : Int) / 10 = (q : Int) := by omega
      have hq3 : (n : Int).tdiv 10 = (q : Int) := by rw [Int.tdiv_eq_ediv_of_nonneg (by omega)]; exact hq2
      rw [hq] at HI
      rw [hm]
      go_enter Tryz.func15, Tryz.ntmps15
      go_wp2
      go_quiet ((go_at_call 15; exact (HI.out _).mono fun _ _ hh => ⟨hh.1, hh.2.elim fun j hj => ⟨_, hj.trans (drew_add _ _ _)⟩⟩))
      go_wp2
      go_ret
      exact ⟨rfl, _, rfl⟩

/-- what the document's TypeText makes of any number. -/
def RTextPost (k : Int) (e : Ending) : Prop := (∃ n : Nat, k = (n : Int) ∧ n ≤ 65535 ∧ e = .returned (.tuple #[.string ⟨(typeT n).toArray⟩, .bool true])) ∨ (¬ (0 ≤ k ∧ k ≤ 65535) ∧ e = .returned (.tuple #[.string ⟨#[]⟩, .bool false]))
set_option maxRecDepth 100000 in
theorem rText_in (k : Int) (w : World) : Calls Tryz.prog 6 #[.int .i64 k] w fun e w' => RTextPost k e ∧ Below w.heap.size w w' := by
  by_cases hr : 0 ≤ k ∧ k ≤ 65535
  · obtain ⟨n, rfl⟩ : ∃ n : Nat, k = (n : Int) := ⟨k.toNat, by omega⟩
    have hn : n ≤ 65535 := by omega
    have HW := Hid.mk (rWord_in (n : Int))
    have HD := Hid.mk (rDigits_in n hn)
    have hl := dec_len 4 n (by omega)
    cases ho : own? (n : Int) with
    | some t =>
      have hne := (tab_type _ (own_mem ho)).2.2.2.2
      have HT : Hid ((⟨(wordT (n : Int)).toArray⟩ : ByteArray) = ⟨(typeT n).toArray⟩) := by rw [Hid, wordT, typeT, ho]; rfl
      have hz : 0 < (⟨(typeT n).toArray⟩ : ByteArray).size := by
        rw [ba_size, typeT, ho]
        simp only at hne ⊢
        cases t with
        | nil => exact absurd rfl hne
        | cons => simp
      rw [HT.out] at HW
      have HN := Hid.mk hn
      clear ho hne HT HD hl hr
      obtain ⟨u, hu⟩ : ∃ u : ByteArray, (⟨(typeT n).toArray⟩ : ByteArray) = u := ⟨_, rfl⟩
      rw [hu] at HW hz
      have HU := Hid.mk hu
      clear hu
      obtain ⟨hn1, hn2⟩ := ne_txt u hz
      go_enter Tryz.func6, Tryz.ntmps6
      go_wp2_with fail
      refine (HW.out _).mono ?_
      rintro e w1 ⟨rfl, rfl⟩
      go_wp2
      go_ret2
      exact ⟨.inl ⟨n, rfl, HN.out, by rw [HU.out]; rfl⟩, Below.refl _ _⟩
    | none =>
      have HT : Hid ((⟨(wordT (n : Int)).toArray⟩ : ByteArray) = ⟨#[]⟩) := by rw [Hid, wordT, ho]; rfl
      have HC : Hid ((⟨#[84, 89, 80, 69]⟩ : ByteArray) ++ ⟨(Lib.decDigits n).toArray⟩ = ⟨(typeT n).toArray⟩) := by
        rw [Hid, typeT, ho]
        apply ba_ext
        rw [ByteArray.data_append, Array.toList_append]
      rw [HT.out] at HW
      have HN := Hid.mk hn
      obtain ⟨u, hu⟩ : ∃ u : ByteArray, (⟨(Lib.decDigits n).toArray⟩ : ByteArray) = u := ⟨_, rfl⟩
      have huz : u.size ≤ 5 := by rw [← hu, ba_size]; exact hl
      rw [hu] at HD HC
      clear ho HT hr hu hl
      go_enter Tryz.func6, Tryz.ntmps6
      go_wp2_with fail
      refine (HW.out _).mono ?_
      rintro e w1 ⟨rfl, rfl⟩
      go_wp2_with fail
      refine (HD.out _).mono ?_
      rintro e w2 ⟨rfl, j, rfl⟩
      go_wp2
      go_ret2
      exact ⟨.inl ⟨n, rfl, HN.out, by rw [← HC.out]; rfl⟩, below_dn _ j⟩
  · have HR := Hid.mk hr
    by_cases h0 : k < 0
    · clear hr
      go_enter Tryz.func6, Tryz.ntmps6
      go_wp2
      go_ret2
      exact ⟨.inr ⟨HR.out, rfl⟩, Below.refl _ _⟩
    · have h1 : 65535 < k := by omega
      clear hr
      go_enter Tryz.func6, Tryz.ntmps6
      go_wp2
      go_ret2
      exact ⟨.inr ⟨HR.out, rfl⟩, Below.refl _ _⟩
end Go.Proofs.YtndlplebodcmjaaGreatDoor

/- What DataTypes reads of packages besides: strconv's two errors. -/
namespace Go.Proofs.YtndlplebodcmjaaGreatDoor
set_option linter.unusedVariables false
open Go.RowKit Go.ChangeShapes

theorem c_es : Tryz.prog.cellsOf 122 = 1 := by kernel_rfl
theorem star : "*" ++ "errors.errorString" = "*errors.errorString" := by decide
theorem row_es (u : TypeId) (h : Tryz.prog.typeName? 3 u = some "*errors.errorString") : u = 120 :=
  typeName_ptr_named (nm := "errors.errorString") (by rw [star]; kernel_rfl) (by kernel_rfl) (by decide) u (by rw [star]; exact h)
theorem gSyn : Tryz.prog.globalNamed "strconv.ErrSyntax" = some 2 := by kernel_rfl
theorem gSynT : (Tryz.prog.globals[2]?).map (·.type) = some 45 := by kernel_rfl
theorem gRng : Tryz.prog.globalNamed "strconv.ErrRange" = some 3 := by kernel_rfl
theorem gRngT : (Tryz.prog.globals[3]?).map (·.type) = some 45 := by kernel_rfl
theorem sent_mem {P : Program} {W : World} {x : String × DataW Unit} : ∀ {l : List (String × DataW Unit)}, laidMet P l W → x ∈ l → ∃ r, laidMet P (x :: r) W
  | [], _, hm => by cases hm
  | y :: l, h, hm => by
    rcases List.mem_cons.1 hm with rfl | hm
    · exact ⟨l, h⟩
    · exact sent_mem h.tail hm
theorem errv_of {W : World} {l : List (String × DataW Unit)} (h : laidMet Tryz.prog l W) (h3 : ("strconv.ErrSyntax", (Rows.laid_strconv_ErrSyntax : DataW Unit)) ∈ l) (h4 : ("strconv.ErrRange", (Rows.laid_strconv_ErrRange : DataW Unit)) ∈ l) : ErrV W := by
  obtain ⟨r, hr⟩ := sent_mem h h3
  obtain ⟨r', hr'⟩ := sent_mem h h4
  obtain ⟨a, s, hv, _⟩ := laid_sentinel hr gSyn gSynT Tryz.underlying45 row_es Tryz.underlying120 Tryz.underlying122 rfl rfl Tryz.underlying9 c_es cells_s
  obtain ⟨b, u, hw, _⟩ := laid_sentinel hr' gRng gRngT Tryz.underlying45 row_es Tryz.underlying120 Tryz.underlying122 rfl rfl Tryz.underlying9 c_es cells_s
  exact ⟨⟨_, _, by simpa using World.var?_cell gSyn hv 0⟩, ⟨_, _, by simpa using World.var?_cell gRng hw 0⟩⟩
structure Glob2 (W : World) : Prop where
  g : Glob W
  e : ErrV W
theorem glob2_of {W : World} {l : List (String × DataW Unit)} (h : laidMet Tryz.prog l W) (hs : W.ShapedOpen Tryz.prog) (h1 : ("guidepost/data.typeTexts", (Rows.laid_guidepost_data_typeTexts : DataW Unit)) ∈ l) (h2 : ("internal/strconv.uint64pow10", (Rows.laid_internal_strconv_uint64pow10 : DataW Unit)) ∈ l)
    (h3 : ("strconv.ErrSyntax", (Rows.laid_strconv_ErrSyntax : DataW Unit)) ∈ l) (h4 : ("strconv.ErrRange", (Rows.laid_strconv_ErrRange : DataW Unit)) ∈ l) : Glob2 W := ⟨glob_of h hs h1 h2, errv_of h h3 h4⟩
end Go.Proofs.YtndlplebodcmjaaGreatDoor

/- understood: what a text tells to the parts of a type's form. -/
namespace Go.Proofs.YtndlplebodcmjaaGreatDoor
set_option linter.unusedVariables false
open Go.RowKit

/-- what the work of understood does to its variable at block b. -/
def UnderPost (R : Option (List ByteArray)) (b : Nat) (W : World) (e : Ending) (w' : World) : Prop := (match R with
  | some ps => e = .returned (.tuple #[]) ∧ w'.heap[b]? = some (.cells #[.string ⟨(Lib.join (ps.map (·.data.toList)) []).toArray⟩] 9 (0, 0))
  | none => e = .panicked mustV ∧ w'.heap[b]? = W.heap[b]?) ∧ Kept b W w'

/-- how the loop of understood stands. -/
def UnRel (dm : Nat → ByteArray → Prop) (rf : Nat → ByteArray → Option (ByteArray × ByteArray)) (n : Nat) (s : ByteArray) (R : Option (List ByteArray)) (d : Nat) (W w2 : World) (v i : Value) (wr : World) : Prop :=
  ∃ (k : Nat) (done : List ByteArray) (rest : ByteArray), k ≤ n ∧ i = .int .i64 k ∧ done.length = k ∧ wr.ownsRow w2.heap.size 9 1 v k (baV done) ∧ Rd wr d rest ∧ rest.size ≤ 1000000 ∧ (∀ x ∈ done, x.size ≤ 1000000) ∧ Hid (k < n → dm k rest) ∧
    Hid (R = (readP rf (n - k) k rest).map fun r => done ++ r) ∧ Kept d w2 wr ∧ Below d W wr

theorem kept_then {d : Nat} {w2 w1 w3 : World} (k : Kept d w2 w1) (h : Below w2.heap.size w1 w3) : Kept d w2 w3 :=
  ⟨h.os.trans k.os, h.tape.trans k.tape, h.output.trans k.output, Nat.le_trans k.size h.size, fun b hb hd => (h.block b hb).trans (k.same b hb hd)⟩
theorem kept_cell {d : Nat} {W W' : World} (h : Kept d W W') {a : Addr} (ha : a.block < W.heap.size) (hd : a.block ≠ d) : W'.cell? a = W.cell? a := by
  have := h.same a.block ha hd
  simp [World.cell?, this]
theorem PartsIn.kept {d g n : Nat} {P : Nat → Part} {W W' : World} (h : PartsIn W g n P) (k : Kept d W W') (hgd : g ≠ d) : PartsIn W' g n P :=
  ⟨fun h0 => Nat.lt_of_lt_of_le (h.lt h0) k.size, fun j hj => (kept_cell k (h.lt (by omega)) hgd).trans (h.c0 j hj), fun j hj => (kept_cell k (h.lt (by omega)) hgd).trans (h.c1 j hj), fun j hj => (kept_cell k (h.lt (by omega)) hgd).trans (h.c2 j hj), fun j hj => (kept_cell k (h.lt (by omega)) hgd).trans (h.c3 j hj)⟩

set_option maxRecDepth 100000 in
set_option maxHeartbeats 4000000 in
theorem under1_in (W : World) (bt bk bd n : Nat) (hn : n ≤ 20) (k : Int) (s : ByteArray) (hs : s.size ≤ 1000000) (v0 : ByteArray) (dm : Nat → ByteArray → Prop) (hdm0 : dm 0 s) (rf : Nat → ByteArray → Option (ByteArray × ByteArray))
    (ht : W.heap[bt]? = some (.cells #[.string s] 9 (0, 0))) (hk : W.heap[bk]? = some (.cells #[.int .i64 k] 3 (0, 0))) (hd : W.heap[bd]? = some (.cells #[.string v0] 9 (0, 0)))
    (hG : Glob W) (hrf : ∀ k s q, rf k s = some q → s.size ≤ 1000000 → q.1.size ≤ 1000000 ∧ q.2.size ≤ 1000000)
    (hdmS : ∀ k s q, dm k s → rf k s = some q → dm (k + 1) q.2)
    (hparts : ∀ w, Glob w → Calls Tryz.prog 26 #[.int .i64 k] w fun e w' => ReadsPost n dm rf w e w') :
    Calls Tryz.prog 25 #[boxV bt, boxV bk, boxV bd] W fun e w' => UnderPost (readP rf n 0 s) bd W e w' := by
  have ct := box_cell ht
  have hal : ∀ o, Below W.heap.size W (W.alloc o) := fun o => (Below.refl _ _).alloc (Nat.le_refl _) o
  have ck : ∀ o, (W.alloc o).cell? ⟨bk, 0, none⟩ = some (.int .i64 k) := fun o => ((hal o).cell (p := ⟨bk, 0, none⟩) (box_lt hk)).trans (box_cell hk)
  have HPA := Hid.mk hparts
  clear hparts
  obtain ⟨i0, hi, hz0, hz1, hz2⟩ := info_parts info9
  obtain ⟨R, hR⟩ : ∃ R, readP rf n 0 s = R := ⟨_, rfl⟩
  rw [hR]
  have HR := Hid.mk hR
  clear hR
  go_enter Tryz.func25, Tryz.ntmps25
  go_wp2_with fail
  refine (HPA.out _ (hG.below (hal _))).mono ?_
  rintro e w2 ⟨g, P, rfl, hg, hP, hen, hread, hb2⟩
  have hrd2 : Rd w2 W.heap.size s := (hb2.block _ (by simp)).trans (heap_new _ _)
  have hbW2 : Below W.heap.size W w2 := (hal _).trans (hb2.mono (hal _).size)
  have hs2 := hb2.size
  simp only [World.size_alloc] at hs2 hg
  have HREAD := Hid.mk hread
  have HEN := Hid.mk hen
  have HRF := Hid.mk hrf
  clear hread hen hrf
  go_wp2
  go_loopw [4, 13] (fun v i wr => UnRel dm rf n s R W.heap.size W w2 v i wr) (fun _ i _ => n - (intOf i).toNat)
  case atStart =>
    refine ⟨0, [], s, Nat.zero_le _, rfl, rfl, World.ownsRow_nil .., hrd2, hs, by simp, fun _ => hdm0, ?_, Kept.refl _ _, hbW2⟩
    rw [Hid, Nat.sub_zero, HR.out]
    cases R <;> rfl
  case round =>
    obtain ⟨m, done, rest, hm, rfl, hdl, hrow, hrd, hrz, hdz, hdm, hcut, hkp, hbl⟩ := hrel
    have hswr := Nat.le_trans hs2 hkp.size
    by_cases hlt : m < n
    · have hPk := hP.kept hkp (by omega)
      have c0 := hPk.c0 m hlt
      have c1 := hPk.c1 m hlt
      have c2 := hPk.c2 m hlt
      have c3 := hPk.c3 m hlt
      have hgl := hPk.lt (by omega)
      have hent := HEN.out m hlt
      have hcall := HREAD.out m hlt
      have hcs : readP rf (n - m) m rest = match rf m rest with
          | none => none
          | some q => (readP rf (n - (m + 1)) (m + 1) q.2).map fun r => q.1 :: r := by
        rw [show n - m = n - (m + 1) + 1 by omega]; rfl
      have HCS := Hid.mk (hcut.out.trans (by rw [hcs]))
      clear hcs hcut
      generalize P m = pk at c0 c1 c2 c3 hent hcall
      obtain ⟨fp, cp, ft, ct', fr, cr, nmb⟩ := pk
      dsimp only [Enters] at c0 c1 c2 c3 hent hcall
      have hbn : Below W.heap.size W (wr.alloc (.cells #[fnV fp cp, fnV ft ct', fnV fr cr, .bool nmb] 58)) := hbl.alloc (by omega) _
      have hkn : Kept W.heap.size w2 (wr.alloc (.cells #[fnV fp cp, fnV ft ct', fnV fr cr, .bool nmb] 58)) := hkp.trans (Kept.of_below ((Below.refl _ _).alloc (Nat.le_refl _) _))
      have hrn : Rd (wr.alloc (.cells #[fnV fp cp, fnV ft ct', fnV fr cr, .bool nmb] 58)) W.heap.size rest := hrd.below ((Below.refl _ _).alloc (Nat.le_refl _) _)
      have HC2 := Hid.mk (hcall _ W.heap.size rest hkn (by simp) (fun W'' hk' => hG.below (hbn.trans (hk'.below (Nat.le_refl _) (by simp; omega)))) hrn hrz (hdm.out hlt))
      have hrow2 : (wr.alloc (.cells #[fnV fp cp, fnV ft ct', fnV fr cr, .bool nmb] 58)).ownsRow w2.heap.size 9 1 u4 m (baV done) := hrow.alloc _
      clear hcall
      cases hpk : rf m rest with
      | none =>
        rw [hpk] at HCS HC2
        go_wp2_with fail
        refine HC2.out.mono ?_
        rintro e w1 ⟨rfl, hk1⟩
        go_wp2
        have hbl1 : Below W.heap.size W w1 := hbn.trans (hk1.below (Nat.le_refl _) (by simp; omega))
        refine ⟨rfl, ?_⟩
        have hRn : R = none := by rw [HCS.out]; rfl
        rw [hRn]
        exact ⟨⟨rfl, hbl1.block bd (box_lt hd)⟩, Kept.of_below hbl1⟩
      | some q =>
        obtain ⟨q1, q2⟩ := q
        have hqz := HRF.out m rest _ hpk hrz
        have HDN : Hid (dm (m + 1) q2) := hdmS m rest _ (hdm.out hlt) hpk
        rw [hpk] at HCS HC2
        have HCN : Hid (R = (readP rf (n - (m + 1)) (m + 1) q2).map fun r => (done ++ [q1]) ++ r) := by
          rw [Hid, HCS.out]
          show Option.map _ (Option.map _ _) = _
          rw [Option.map_map]
          congr 1
          funext r
          simp
        clear HCS
        go_wp2_with fail
        refine HC2.out.mono ?_
        rintro e w1 ⟨rfl, hrd1, hk1⟩
        have hrow1 := row_kept' hrow2 hk1 (by omega)
        have hbl1 : Below W.heap.size W w1 := hbn.trans (hk1.below (Nat.le_refl _) (by simp; omega))
        have hk1' : Kept W.heap.size w2 w1 := hkn.trans hk1
        have hs1 := Nat.le_trans hs2 hk1'.size
        have hs1' := hk1'.size
        clear hrow2 hrow hrd hrn hbn hkn hk1 hkp hbl c0 c1 c2 c3 HC2 hent hPk hpk
        go_wp2_with (at_builtin; refine wpList_append_own _ rfl _ _ 40 rfl w2.heap.size 9 i0 (.string ⟨#[]⟩) 1 16 Tryz.underlying40 hi hz0 hz1 hz2 rfl (by decide) _ _ _ rfl (hrow1.alloc _) ⟨w1.heap.size, 0, none⟩ 1 1 [.string q1] rfl rfl (cell_one_new _ _ _) (by simp [Value.oneCell']) (by unfold maxLen; omega) (by omega) (by simp; omega) ?_; intro v1 w3 hown3 hgrow3 _)
        go_roundw
        case rel =>
          have h3 : Below w2.heap.size w1 w3 := ((Below.refl _ w1).alloc hs1' _).grown hgrow3 (by simp; omega) (rowBaseB hrow1)
          refine ⟨m + 1, done ++ [q1], q2, by omega, by go_num, by simp [hdl], ?_, (h3.block _ (by omega)).trans hrd1, hqz.2, ?_, fun _ => HDN.out, HCN, kept_then hk1' h3, hbl1.trans (h3.mono (by omega))⟩
          · rw [baV, List.map_append]; exact hown3
          · intro y hy
            rcases List.mem_append.1 hy with h | h
            · exact hdz y h
            · simp only [List.mem_singleton] at h; subst h; exact hqz.1
        case measure => simp [intOf]; omega
    · obtain rfl : m = n := by omega
      have hRv : R = some done := by
        rw [hcut.out, Nat.sub_self]; simp [readP]
      rw [← hdl] at hrow
      have hjl := join_len [] done 1000000 hdz
      have HJ := Hid.mk (join_row ⟨#[]⟩ hrow (by omega) (by
        refine Nat.le_trans hjl ?_
        refine Nat.le_trans (Nat.mul_le_mul_right _ (show done.length ≤ 20 by omega)) ?_
        decide))
      obtain ⟨qw, cw, hqw⟩ := row_as hrow
      subst hqw
      have HD : Hid (∀ w3, Below wr.heap.size wr w3 → w3.heap[bd]? = some (.cells #[.string v0] 9 (0, 0)) ∧ Below W.heap.size W w3) := by
        intro w3 hb3
        have hbl3 : Below W.heap.size W w3 := hbl.trans (hb3.mono (by omega))
        exact ⟨(hbl3.block bd (box_lt hd)).trans hd, hbl3⟩
      have HRV := Hid.mk hRv
      have hdl' : done.length = m := hdl
      rw [hdl'] at HJ
      clear hjl hrow hcut hRv hdl
      go_wp2_with fail
      refine HJ.out.mono ?_
      rintro e w3 ⟨rfl, hb3⟩
      obtain ⟨hd3, hbl3⟩ := HD.out w3 hb3
      have cd3 := box_cell hd3
      have fd3 := box_frozen hd3
      go_wp2
      refine bodyPost_end (results_none rfl _ _ _) rfl ?_
      rw [HRV.out]
      exact ⟨⟨rfl, box_set hd3 _⟩, (Kept.of_below hbl3).trans (Kept.set _ _ _ _)⟩
end Go.Proofs.YtndlplebodcmjaaGreatDoor

/- understood, with sound around its work; Read. -/
namespace Go.Proofs.YtndlplebodcmjaaGreatDoor
set_option linter.unusedVariables false
open Go.RowKit

def jn (ps : List ByteArray) : ByteArray := ⟨(Lib.join (ps.map (·.data.toList)) []).toArray⟩

/-- what sound makes of the work of understood. -/
def SoundU (R : Option (List ByteArray)) (b : Nat) (W : World) (e : Ending) (w' : World) : Prop := (match R with
  | some ps => e = .returned (.bool true) ∧ w'.heap[b]? = some (.cells #[.string (jn ps)] 9 (0, 0))
  | none => e = .returned (.bool false) ∧ w'.heap[b]? = W.heap[b]?) ∧ Kept b W w'

set_option maxRecDepth 100000 in
set_option maxHeartbeats 2000000 in
theorem soundUnder_in (W : World) (bt bk bd n : Nat) (hn : n ≤ 20) (k : Int) (s : ByteArray) (hs : s.size ≤ 1000000) (v0 : ByteArray) (dm : Nat → ByteArray → Prop) (hdm0 : dm 0 s) (rf : Nat → ByteArray → Option (ByteArray × ByteArray))
    (ht : W.heap[bt]? = some (.cells #[.string s] 9 (0, 0))) (hk : W.heap[bk]? = some (.cells #[.int .i64 k] 3 (0, 0))) (hd : W.heap[bd]? = some (.cells #[.string v0] 9 (0, 0)))
    (hG : Glob W) (hrf : ∀ k s q, rf k s = some q → s.size ≤ 1000000 → q.1.size ≤ 1000000 ∧ q.2.size ≤ 1000000)
    (hdmS : ∀ k s q, dm k s → rf k s = some q → dm (k + 1) q.2)
    (hparts : ∀ w, Glob w → Calls Tryz.prog 26 #[.int .i64 k] w fun e w' => ReadsPost n dm rf w e w') :
    Calls Tryz.prog 24 #[fnV 25 #[boxV bt, boxV bk, boxV bd]] W fun e w' => SoundU (readP rf n 0 s) bd W e w' := by
  have hmf := mkf
  have hal : ∀ o, Below W.heap.size W (W.alloc o) := fun o => (Below.refl _ _).alloc (Nat.le_refl _) o
  have HW := Hid.mk (fun (o : Obj) => under1_in (W.alloc o) bt bk bd n hn k s hs v0 dm hdm0 rf (((hal o).block bt (box_lt ht)).trans ht) (((hal o).block bk (box_lt hk)).trans hk) (((hal o).block bd (box_lt hd)).trans hd) (hG.below (hal o)) hrf hdmS hparts)
  clear hparts hrf
  obtain ⟨R, hR⟩ : ∃ R, readP rf n 0 s = R := ⟨_, rfl⟩
  rw [hR] at HW ⊢
  clear hR
  have hbd := box_lt hd
  cases R with
  | none =>
    go_enter_defers Tryz.func24, Tryz.ntmps24
    go_wp2_with fail
    refine (HW.out _).mono ?_
    rintro e w1 ⟨⟨rfl, hb⟩, hkp⟩
    have hbox : w1.heap[W.heap.size]? = some (.cells #[.bool false] 4 (0, 0)) := (hkp.same _ (by simp) (by omega)).trans (heap_new _ _)
    go_wp2
    refine leaves_cons (f := 34) (args := #[boxV W.heap.size]) (by simp) (by simp [go_sem]) ?_
    refine (catch_panic W.heap.size w1 false hbox []).mono ?_
    rintro e u' w2 ⟨rfl, rfl, rfl⟩
    have hs2 := box_cell (box_set hbox (.bool false))
    simp [Leaves, settle, results, Tryz.results24, go_sem, hs2]
    refine ⟨⟨rfl, ?_⟩, kept_box hkp _⟩
    rw [Below.heap_setCell w1 ⟨W.heap.size, 0, none⟩ _ bd (show bd ≠ W.heap.size by omega), hb, alloc_old W _ bd hbd]
  | some ps =>
    go_enter_defers Tryz.func24, Tryz.ntmps24
    go_wp2_with fail
    refine (HW.out _).mono ?_
    rintro e w1 ⟨⟨rfl, hb⟩, hkp⟩
    have hbox : w1.heap[W.heap.size]? = some (.cells #[.bool false] 4 (0, 0)) := (hkp.same _ (by simp) (by omega)).trans (heap_new _ _)
    have hbc := box_cell hbox
    have hbf := box_frozen hbox
    go_wp2
    refine leaves_cons (f := 34) (args := #[boxV W.heap.size]) (by simp) (by simp [go_sem]) ?_
    refine (catch_idle W.heap.size _).mono ?_
    rintro e u' w2 ⟨rfl, rfl, rfl⟩
    have hs2 := box_cell (box_set hbox (.bool true))
    simp [Leaves, settle, results, Tryz.results24, go_sem, hs2]
    refine ⟨⟨rfl, ?_⟩, kept_box hkp _⟩
    rw [Below.heap_setCell w1 ⟨W.heap.size, 0, none⟩ _ bd (show bd ≠ W.heap.size by omega)]; exact hb

/-- what understood hands back. -/
def UnPost (R : Option (List ByteArray)) (W : World) (e : Ending) (w' : World) : Prop := (match R with
  | some ps => e = .returned (.tuple #[.string (jn ps), .bool true])
  | none => e = .returned (.tuple #[.string ⟨#[]⟩, .bool false])) ∧ Below W.heap.size W w'

set_option maxRecDepth 100000 in
set_option maxHeartbeats 2000000 in
theorem understood_in (W : World) (n : Nat) (hn : n ≤ 20) (k : Int) (s : ByteArray) (hs : s.size ≤ 1000000) (dm : Nat → ByteArray → Prop) (hdm0 : dm 0 s) (rf : Nat → ByteArray → Option (ByteArray × ByteArray))
    (hG : Glob W) (hrf : ∀ k s q, rf k s = some q → s.size ≤ 1000000 → q.1.size ≤ 1000000 ∧ q.2.size ≤ 1000000)
    (hdmS : ∀ k s q, dm k s → rf k s = some q → dm (k + 1) q.2)
    (hparts : ∀ w, Glob w → Calls Tryz.prog 26 #[.int .i64 k] w fun e w' => ReadsPost n dm rf w e w') :
    Calls Tryz.prog 18 #[.int .i64 k, .string s] W fun e w' => UnPost (readP rf n 0 s) W e w' := by
  have hmf := mkf
  obtain ⟨W3, hW3⟩ : ∃ W3, W3 = (((W.alloc (.cells #[.int .i64 k] 3)).alloc (.cells #[.string s] 9)).alloc (.cells #[.string ⟨#[]⟩] 9)) := ⟨_, rfl⟩
  have hk3 : W3.heap[W.heap.size]? = some (.cells #[.int .i64 k] 3 (0, 0)) := by
    rw [hW3, alloc_old _ _ _ (by simp <;> omega), alloc_old _ _ _ (by simp)]; exact heap_new _ _
  have hd3 : W3.heap[W.heap.size + 1]? = some (.cells #[.string s] 9 (0, 0)) := by
    rw [hW3, alloc_old _ _ _ (by simp)]
    have := heap_new (W.alloc (.cells #[.int .i64 k] 3)) (.cells #[.string s] 9)
    rwa [World.size_alloc] at this
  have hp3 : W3.heap[W.heap.size + 1 + 1]? = some (.cells #[.string ⟨#[]⟩] 9 (0, 0)) := by
    rw [hW3]
    have := heap_new ((W.alloc (.cells #[.int .i64 k] 3)).alloc (.cells #[.string s] 9)) (.cells #[.string ⟨#[]⟩] 9)
    rwa [World.size_alloc, World.size_alloc] at this
  have hsz3 : W3.heap.size = W.heap.size + 3 := by rw [hW3]; simp
  have hbl3 : Below W.heap.size W W3 := by
    rw [hW3]; exact (((Below.refl _ _).alloc (Nat.le_refl _) _).alloc (by simp) _).alloc (by simp <;> omega) _
  have HS := Hid.mk (soundUnder_in W3 (W.heap.size + 1) W.heap.size (W.heap.size + 1 + 1) n hn k s hs _ dm hdm0 rf hd3 hk3 hp3 (hG.below hbl3) hrf hdmS hparts)
  obtain ⟨R, hR⟩ : ∃ R, readP rf n 0 s = R := ⟨_, rfl⟩
  rw [hR] at HS ⊢
  have HP3 := Hid.mk hp3
  clear hR hk3 hd3 hparts hp3 hrf
  have HW3 := Hid.mk hW3
  cases R with
  | none =>
    go_enter Tryz.func18, Tryz.ntmps18
    go_wp2_with fail
    rw [← HW3.out]
    refine HS.out.mono ?_
    rintro e w2 ⟨⟨rfl, hb⟩, hkp⟩
    have hb2 := hb.trans HP3.out
    have hc2 := box_cell hb2
    have hf2 := box_frozen hb2
    clear hW3
    go_wp2
    have hc4 := box_cell (box_set hb2 (.string ⟨#[]⟩))
    refine bodyPost_ret (v := .tuple #[.string ⟨#[]⟩, .bool false]) (by simp [results, Tryz.results18, go_sem, hc4]) rfl ⟨rfl, ?_⟩
    exact (hbl3.trans (hkp.below (n := W.heap.size) (by omega) (by omega))).setCell (p := ⟨W.heap.size + 1 + 1, 0, none⟩) (show W.heap.size ≤ W.heap.size + 1 + 1 by omega) _
  | some ps =>
    go_enter Tryz.func18, Tryz.ntmps18
    go_wp2_with fail
    rw [← HW3.out]
    refine HS.out.mono ?_
    rintro e w2 ⟨⟨rfl, hb2⟩, hkp⟩
    have hc2 := box_cell hb2
    have hf2 := box_frozen hb2
    clear hW3
    go_wp2
    have hc4 := box_cell (box_set hb2 (.string (jn ps)))
    refine bodyPost_ret (v := .tuple #[.string (jn ps), .bool true]) (by simp [results, Tryz.results18, go_sem, hc4]) rfl ⟨rfl, ?_⟩
    exact (hbl3.trans (hkp.below (n := W.heap.size) (by omega) (by omega))).setCell (p := ⟨W.heap.size + 1 + 1, 0, none⟩) (show W.heap.size ≤ W.heap.size + 1 + 1 by omega) _
end Go.Proofs.YtndlplebodcmjaaGreatDoor

/- Read; and the form of A, how it is read where it goes well. -/
namespace Go.Proofs.YtndlplebodcmjaaGreatDoor
set_option linter.unusedVariables false
open Go.RowKit

theorem read_no {k : Int} (hk : 0 ≤ k ∧ k ≤ 65535) {s : ByteArray} {W : World} (h : Calls Tryz.prog 18 #[.int .i64 k, .string s] W fun e w' => UnPost none W e w') :
    Calls Tryz.prog 9 #[.int .i64 k, .string s] W fun e w' => e = .returned (.tuple #[.string ⟨#[]⟩, .int .i64 7]) ∧ Below W.heap.size W w' := by
  have H := Hid.mk h
  have HK := Hid.mk hk
  clear h hk
  go_enter Tryz.func9, Tryz.ntmps9
  go_wp2_with fail
  refine (isType_yes HK.out _).mono ?_
  rintro e w1 ⟨rfl, rfl⟩
  go_wp2_with fail
  refine H.out.mono ?_
  rintro e w2 ⟨rfl, hb⟩
  go_wp2
  go_ret2
  exact ⟨rfl, hb⟩

/-- the data that were understood are told by this very text, or by another one. -/
theorem read_of {k : Int} (hk : 0 ≤ k ∧ k ≤ 65535) {s t : ByteArray} {ps : List ByteArray} {W : World} (h : Calls Tryz.prog 18 #[.int .i64 k, .string s] W fun e w' => UnPost (some ps) W e w')
    (ht : ∀ w, Below W.heap.size W w → Calls Tryz.prog 19 #[.int .i64 k, .string (jn ps)] w fun e w' => e = .returned (.tuple #[.string t, .bool true]) ∧ Below w.heap.size w w') :
    Calls Tryz.prog 9 #[.int .i64 k, .string s] W fun e w' => e = .returned (if t = s then .tuple #[.string (jn ps), .int .i64 0] else .tuple #[.string ⟨#[]⟩, .int .i64 7]) ∧ Below W.heap.size W w' := by
  have H := Hid.mk h
  have HK := Hid.mk hk
  have HT := Hid.mk ht
  clear h hk ht
  by_cases he : t = s
  · rw [if_pos he]
    subst he
    have hb0 : (t.toList == t.toList) = true := by simp
    go_enter Tryz.func9, Tryz.ntmps9
    go_wp2_with fail
    refine (isType_yes HK.out _).mono ?_
    rintro e w1 ⟨rfl, rfl⟩
    go_wp2_with fail
    refine H.out.mono ?_
    rintro e w2 ⟨rfl, hb⟩
    go_wp2_with fail
    refine (HT.out _ hb).mono ?_
    rintro e w3 ⟨rfl, hb3⟩
    go_wp2
    go_ret2
    exact ⟨rfl, bth hb hb3 hb.size⟩
  · rw [if_neg he]
    have hb0 : (t.toList == s.toList) = false := by
      rw [beq_eq_false_iff_ne, ByteArray.toList_eq, ByteArray.toList_eq]
      intro e; exact he (ba_ext e)
    go_enter Tryz.func9, Tryz.ntmps9
    go_wp2_with fail
    refine (isType_yes HK.out _).mono ?_
    rintro e w1 ⟨rfl, rfl⟩
    go_wp2_with fail
    refine H.out.mono ?_
    rintro e w2 ⟨rfl, hb⟩
    go_wp2_with fail
    refine (HT.out _ hb).mono ?_
    rintro e w3 ⟨rfl, hb3⟩
    go_wp2
    go_ret2
    exact ⟨rfl, bth hb hb3 hb.size⟩

set_option maxRecDepth 100000 in
set_option maxHeartbeats 1000000 in
theorem bytesOf1_in (n : Nat) (hn : n < 256) (w : World) :
    Calls Tryz.prog 87 #[.int .i64 (n : Int), .int .i64 1] w fun e w' => e = .returned (.string ⟨#[UInt8.ofNat n]⟩) ∧ Below w.heap.size w w' := by
  obtain ⟨i0, hi, hz0, hz1, hz2⟩ := info_parts info5
  have hsh : (n : Int) / 256 = 0 := by omega
  go_enter Tryz.func87, Tryz.ntmps87
  go_wp2_with fail
  refine (must_yes _).mono ?_
  rintro e w1 ⟨rfl, rfl⟩
  obtain ⟨M, hM⟩ : ∃ M, M = madeCells (Value.int .u8 0).cells (((1 : Nat) : Int).toNat * i0.size) := ⟨_, rfl⟩
  have hMs : M.size = 1 := by rw [hM, size_madeCells, hz1]; simp
  have hmk : ∀ W : World, (Instr.makeSlice 67 (.int .i64 1) (.int .i64 1)).run Tryz.prog W = .ok (.slice (some ⟨W.heap.size, 0, none⟩) 1 1) (W.alloc (.cells M 5)) := fun W => by
    have h := run_make (P := Tryz.prog) W 67 5 i0 (.int .u8 0) Tryz.underlying67 hi hz0 .i64 .i64 ((1 : Nat) : Int) ((1 : Nat) : Int) (by omega) (by omega) (by rw [hz2]; omega) (by omega)
    rw [← hM] at h
    simpa using h
  obtain ⟨v0, hv0⟩ : ∃ v0, M = #[v0] := by
    match M, hMs with
    | ⟨[v]⟩, _ => exact ⟨v, rfl⟩
  subst hv0
  clear hM hMs
  go_wp2
  clear hmk
  go_loopw [21] (fun i wr => ∃ (j : Nat) (v : Value), j ≤ 1 ∧ i = .int .i64 j ∧ (j = 1 → v = .int .u8 (n : Int)) ∧ wr.heap[w1.heap.size]? = some (.cells #[v] 5 (0, 0)) ∧ Below w1.heap.size w1 wr) (fun i _ => 1 - (intOf i).toNat)
  case atStart => exact ⟨0, v0, by omega, rfl, fun h => absurd h (by omega), heap_new _ _, (Below.refl _ _).alloc (Nat.le_refl _) _⟩
  case round =>
    obtain ⟨j, v, hj, rfl, hv, hh, hbl⟩ := hrel
    rcases (show j = 0 ∨ j = 1 by omega) with rfl | rfl
    · have hc := box_cell hh
      have hf := box_frozen hh
      have hbs := Hid.mk (box_set hh (.int .u8 (n : Int)))
      clear hv
      go_wp2
      exact ⟨⟨1, _, by omega, rfl, fun _ => rfl, hbs.out, hbl.setCell (p := ⟨w1.heap.size, 0, none⟩) (Nat.le_refl _) _⟩, by simp [intOf]⟩
    · obtain rfl := hv rfl
      have hc := box_cell hh
      have hcv := run_convert_bytes_back (P := Tryz.prog) wr 67 9 5 ⟨w1.heap.size, 0, none⟩ 1 [UInt8.ofNat n] Tryz.underlying67 Tryz.underlying5 Tryz.underlying9 (fun j hj => by
        have e : j = 0 := by simpa using hj
        subst e
        rw [add_at, hc]; simp; omega)
      simp only [List.length_cons, List.length_nil, Nat.zero_add] at hcv
      clear hv
      go_wp2
      go_ret
      exact ⟨rfl, hbl⟩

theorem readNum_ok (g : ByteArray) (hg : g.size ≤ 1000) (n : Nat) (hn : n < 256) (h : Lib.parseIntB 64 g.data.toList = .ok (n : Int)) (w : World) :
    Calls Tryz.prog 65 #[.string g, .int .i64 10, .int .i64 1] w fun e w' => e = .returned (.string ⟨#[UInt8.ofNat n]⟩) ∧ Below w.heap.size w w' := by
  have HP : Hid (Calls Tryz.prog 117 #[.string g, .int .i64 10, .int .i64 64] w fun e w' => e = .returned (.tuple #[.int .i64 (n : Int), .nilIface]) ∧ Below w.heap.size w w') := by
    refine (Tryz.strconv_ParseInt_10_at64_ok g (by omega) n h w).mono ?_
    rintro e w' ⟨rfl, h | ⟨t, h⟩⟩
    · rw [h]; exact ⟨rfl, Below.refl _ _⟩
    · rw [h]; exact ⟨rfl, ⟨rfl, rfl, rfl, by rw [Lib.bytesWorld_size]; omega, fun k hk => Lib.bytesWorld_at_old w 5 t k hk⟩⟩
  clear h
  go_enter Tryz.func65, Tryz.ntmps65
  go_wp2_with fail
  refine HP.out.mono ?_
  rintro e w1 ⟨rfl, hb1⟩
  go_wp2_with fail
  refine (must_yes _).mono ?_
  rintro e w2 ⟨rfl, rfl⟩
  go_wp2_with fail
  refine (bytesOf1_in n hn _).mono ?_
  rintro e w3 ⟨rfl, hb3⟩
  go_wp2
  go_ret
  exact ⟨rfl, bth hb1 hb3 hb1.size⟩

theorem cells_new1 (W : World) (cs : Array Value) (t : TypeId) (j : Nat) (u : Value) (h : cs.toList[j]? = some u) : (W.alloc (.cells cs t)).cell? ((⟨W.heap.size, 0, none⟩ : Addr).add j) = some u := by
  rw [add_at]
  have hh : (W.alloc (.cells cs t)).heap[W.heap.size]? = some (.cells cs t) := World.alloc_heap_new W _
  simp only [World.cell?, hh]
  simpa using h

theorem join_ones : ∀ ns : List Nat, Lib.join ((ns.map (fun x => (⟨#[UInt8.ofNat x]⟩ : ByteArray))).map (·.data.toList)) [] = ns.map UInt8.ofNat
  | [] => rfl
  | [x] => Lib.join_one _ _
  | x :: y :: r => by
    have ih := join_ones (y :: r)
    simp only [List.map_cons, Lib.join, List.intercalate] at ih ⊢
    rw [List.intersperse_cons_cons, List.flatten_cons, List.flatten_cons, ih]
    rfl

theorem GrpBoxes.kept {W W' : World} {b d : Nat} (h : GrpBoxes W b) (k : Kept d W W') (hd : d < b) : GrpBoxes W' b :=
  ⟨(k.same _ (box_lt h.cnt) (by omega)).trans h.cnt, (k.same _ (box_lt h.wid) (by omega)).trans h.wid, (k.same _ (box_lt h.bas) (by omega)).trans h.bas, (k.same _ (box_lt h.btw) (by omega)).trans h.btw⟩

set_option maxRecDepth 100000 in
set_option maxHeartbeats 600000 in
theorem grpRead_ok (W : World) (b d : Nat) (hdb : d < b) (hb : GrpBoxes W b) (s : ByteArray) (h : Rd W d s) (hs : s.size ≤ 1000) (hG : GlobK d W) (gs : List ByteArray) (ns : List Nat) (hlen : gs.length = ns.length) (h5 : gs.length ≤ 5)
    (hok : ∀ j (h1 : j < gs.length) (h2 : j < ns.length), gs[j].size ≤ 1000 ∧ ns[j] < 256 ∧ Lib.parseIntB 64 gs[j].data.toList = .ok (ns[j] : Int))
    (hws : (wordB s).size ≤ 1000) (hgs : Lib.splitB ⟨#[46]⟩ 0 (min 5 ((wordB s).size + 1) - 1) (wordB s) = gs) :
    Calls Tryz.prog 69 #[boxV d, boxV (b + 3), boxV b, boxV (b + 2), boxV (b + 1)] W fun e w' => e = .returned (.string ⟨(ns.map UInt8.ofNat).toArray⟩) ∧ Rd w' d (restB s) ∧ Kept d W w' := by
  have d0 := box_cell hb.cnt
  have d3 := box_cell hb.btw
  have hmo : Tryz.prog.follows Departure.mixedOrders = true := by kernel_rfl
  obtain ⟨i0, hi, hz0, hz1, hz2⟩ := info_parts info9
  have HW : Hid (Calls Tryz.prog 66 #[boxV d] W.drew fun e w1 => e = .returned (.string (wordB s)) ∧ Rd w1 d (restB s) ∧ Kept d W w1) := by
    refine (word_in W.drew d s (by omega) h (hG W.drew ⟨rfl, rfl, rfl, Nat.le_refl _, fun _ _ _ => rfl⟩)).mono ?_
    rintro e w1 ⟨he, hr, hk⟩
    exact ⟨he, hr, hk.os, hk.tape, hk.output, hk.size, hk.same⟩
  have HL1 : Hid (∀ (G : Prop) (w1 : World), Kept d W w1 → (w1.cell? ⟨b + 3, 0, none⟩ = some (.string ⟨#[46]⟩) → w1.cell? ⟨b, 0, none⟩ = some (.int .i64 4) → G) → G) := by
    intro G w1 hk hg
    have hb1 := hb.kept hk hdb
    exact hg (box_cell hb1.btw) (box_cell hb1.cnt)
  have HS : Hid (∀ w1, Kept d W w1 → Calls Tryz.prog 70 #[.string (wordB s), .string ⟨#[46]⟩, .int .i64 5] w1 fun e w2 => ∃ cap, e = .returned (.slice (some ⟨w1.heap.size, 0, none⟩) gs.length cap) ∧ (∀ j (hj : j < gs.length), w2.cell? ⟨w1.heap.size, j, none⟩ = some (.string gs[j])) ∧ w1.heap.size < w2.heap.size ∧ Below w1.heap.size w1 w2 ∧ w2.cell? ⟨b + 3, 0, none⟩ = some (.string ⟨#[46]⟩) ∧ w2.cell? ⟨b, 0, none⟩ = some (.int .i64 4)) := by
    intro w1 hk
    obtain ⟨m, hm⟩ := (hG w1 hk).maxl
    have := Tryz.strings_SplitN (wordB s) ⟨#[46]⟩ 5 m w1 (by omega) hm (by decide) (by omega) (by omega)
    rw [hgs] at this
    refine this.mono ?_
    rintro e w2 ⟨he, hw⟩
    have hbl : Below w1.heap.size w1 w2 := by rw [hw]; exact (Below.refl _ _).alloc (Nat.le_refl _) _
    have hb2 := (hb.kept hk hdb).below hbl
    refine ⟨_, he, fun j hj => ?_, by rw [hw]; simp, hbl, box_cell hb2.btw, box_cell hb2.cnt⟩
    rw [hw]
    have := cells_new1 w1 (Lib.cellsOf gs (min 5 ((wordB s).size + 1))) 9 j (.string gs[j]) (by
      simp only [Lib.cellsOf]
      rw [List.getElem?_append_left (by simpa using hj)]
      simp [hj])
    rwa [add_at] at this
  have HOK := Hid.mk hok
  clear hok hgs
  go_enter Tryz.func69, Tryz.ntmps69
  go_wp2_with fail
  go_region_held3 (fun w' => w'.cell? ⟨b + 3, 0, none⟩ = some (.string ⟨#[46]⟩) ∧ w'.cell? ⟨b, 0, none⟩ = some (.int .i64 4)) (first | (constructor <;> assumption) | go_keep)
    (first
      | (go_at_call 66; refine HW.out.mono ?_; rintro e w1 ⟨rfl, hr1, hk1⟩; refine HL1.out _ w1 hk1 ?_; intro e1 e2)
      | (go_at_call 70; refine (HS.out _ hk1).mono ?_; rintro e w2 ⟨cap, rfl, hgc, hlt2, hb2, e3, e4⟩))
  have hbx2 : GrpBoxes w2 b := (hb.kept hk1 hdb).below hb2
  have hr2 : Rd w2 d (restB s) := hr1.below hb2
  have hk2 : Kept d W w2 := hk1.trans (Kept.of_below hb2)
  clear e1 e2 e3 e4 d0 d3 HW HL1 HS
  go_wp2
  go_loopw [7, 17] (fun v i wr => ∃ m : Nat, m ≤ gs.length ∧ i = .int .i64 m ∧ wr.ownsRow w2.heap.size 9 1 v m (baV ((ns.take m).map fun x => ⟨#[UInt8.ofNat x]⟩)) ∧ Below w2.heap.size w2 wr) (fun _ i _ => gs.length - (intOf i).toNat)
  case atStart => exact ⟨0, Nat.zero_le _, rfl, World.ownsRow_nil .., Below.refl _ _⟩
  case round =>
    obtain ⟨m, hm, rfl, hrow, hbl⟩ := hrel
    have hsz := hbl.size
    by_cases hlt : m < gs.length
    · have hmn : m < ns.length := by omega
      obtain ⟨ho1, ho2, ho3⟩ := HOK.out m hlt hmn
      have hc := (hbl.cell (p := ⟨w1.heap.size, m, none⟩) hlt2).trans (hgc m hlt)
      have hbx := hbx2.below hbl
      have f1 := box_cell hbx.wid
      have f2 := box_cell hbx.bas
      have HN := Hid.mk (readNum_ok gs[m] ho1 ns[m] ho2 ho3)
      have hnx : (ns.take (m + 1)).map (fun x => (⟨#[UInt8.ofNat x]⟩ : ByteArray)) = (ns.take m).map (fun x => (⟨#[UInt8.ofNat x]⟩ : ByteArray)) ++ [⟨#[UInt8.ofNat ns[m]]⟩] := by
        rw [List.take_succ_eq_append_getElem hmn, List.map_append]; rfl
      have HNX := Hid.mk hnx
      have hltn : (m : Int) < (ns.length : Int) := by omega
      clear hnx ho3
      generalize gs[m] = gm at hc HN
      generalize ns[m] = nm at HN HNX ho2
      go_wp2_with fail
      refine (HN.out _).mono ?_
      rintro e w3 ⟨rfl, hb3⟩
      have hrow3 := row_bel hrow hb3
      have hbl3 : Below w2.heap.size w2 w3 := hbl.trans (hb3.mono hsz)
      have hsz3 := hbl3.size
      go_wp2_with (at_builtin; refine wpList_append_own _ rfl _ _ 40 rfl w2.heap.size 9 i0 (.string ⟨#[]⟩) 1 16 Tryz.underlying40 hi hz0 hz1 hz2 rfl (by decide) _ _ _ rfl (hrow3.alloc _) ⟨w3.heap.size, 0, none⟩ 1 1 [.string ⟨#[UInt8.ofNat nm]⟩] rfl rfl (cell_one_new _ _ _) (by simp [Value.oneCell']) (by unfold maxLen; omega) (by omega) (by simp; omega) ?_; intro v1 w4 hown4 hgrow4 _)
      have hrelN : ∃ j : Nat, j ≤ gs.length ∧ Value.int .i64 ((m : Int) + 1) = .int .i64 j ∧ w4.ownsRow w2.heap.size 9 1 v1 j (baV ((ns.take j).map fun x => ⟨#[UInt8.ofNat x]⟩)) ∧ Below w2.heap.size w2 w4 := by
        refine ⟨m + 1, by omega, by go_num, ?_, (hbl3.alloc hsz3 _).grown hgrow4 (by simp; omega) (rowBaseB hrow3)⟩
        rw [HNX.out, baV, List.map_append]; exact hown4
      go_roundw
      case rel =>
        (repeat apply Exists.intro)
        exact ⟨hrelN, rfl⟩
      case measure => simp [intOf]; omega
    · obtain rfl : m = ns.length := by omega
      have hall : ns.take ns.length = ns := List.take_of_length_le (Nat.le_refl _)
      rw [hall] at hrow
      have hrowL : wr.ownsRow w2.heap.size 9 1 u7 (ns.map (fun x => (⟨#[UInt8.ofNat x]⟩ : ByteArray))).length (baV (ns.map (fun x => (⟨#[UInt8.ofNat x]⟩ : ByteArray)))) := by
        rw [List.length_map]; exact hrow
      have hjn : Lib.join ((ns.map (fun x => (⟨#[UInt8.ofNat x]⟩ : ByteArray))).map (·.data.toList)) [] = ns.map UInt8.ofNat := join_ones ns
      have HJ0 := join_row ⟨#[]⟩ hrowL (by rw [List.length_map]; omega) (by
        show (Lib.join _ []).length ≤ _
        rw [hjn, List.length_map]; omega)
      have HJ : Hid (Calls Tryz.prog 27 #[u7, .string ⟨#[]⟩] wr fun e w' => e = .returned (.string ⟨(ns.map UInt8.ofNat).toArray⟩) ∧ Below wr.heap.size wr w') := by
        have h0 := HJ0
        simp only at h0
        rw [hjn] at h0
        exact h0
      clear HJ0 hall hjn hrowL
      obtain ⟨qw, cw, hqw⟩ := row_as hrow
      subst hqw
      clear hrow
      go_wp2_with fail
      refine HJ.out.mono ?_
      rintro e w3 ⟨rfl, hb3⟩
      go_wp2
      go_ret
      have hbl3 : Below w2.heap.size w2 w3 := hbl.trans (hb3.mono hsz)
      exact ⟨rfl, hr2.below hbl3, hk2.trans (Kept.of_below hbl3)⟩
end Go.Proofs.YtndlplebodcmjaaGreatDoor

/- Strings of TXT: readString and readMarked, where no byte is told by its number. -/
namespace Go.Proofs.YtndlplebodcmjaaGreatDoor
set_option linter.unusedVariables false
open Go.RowKit

theorem cons_first (c : UInt8) (t : List UInt8) : (⟨(c :: t).toArray⟩ : ByteArray).extract 0 1 = ⟨#[c]⟩ := by
  apply ba_ext
  rw [Lib.extract_data]; simp
theorem cons_rest (c : UInt8) (t : List UInt8) : (⟨(c :: t).toArray⟩ : ByteArray).extract 1 (⟨(c :: t).toArray⟩ : ByteArray).size = ⟨t.toArray⟩ := by
  apply ba_ext
  rw [Lib.extract_data]; simp [ba_size]

theorem take1_in (W : World) (d : Nat) (c : UInt8) (t : List UInt8) (ht : t.length ≤ 1000000) (h : Rd W d ⟨(c :: t).toArray⟩) :
    Calls Tryz.prog 61 #[boxV d, .int .i64 1] W fun e w' => e = .returned (.string ⟨#[c]⟩) ∧ Rd w' d ⟨t.toArray⟩ ∧ Kept d W w' := by
  have := take_yes W d 1 ⟨(c :: t).toArray⟩ (by rw [ba_size]; unfold maxLen; simp; omega) h (by rw [ba_size]; simp)
  rw [cons_first, cons_rest] at this
  refine this.mono ?_
  rintro e w' ⟨he, hw⟩
  subst hw
  exact ⟨he, h.set _, Kept.set _ _ _ _⟩

theorem marked_in (W : World) (d : Nat) (c : UInt8) (t : List UInt8) (ht : t.length ≤ 1000000) (hc : c = 34 ∨ c = 92) (h : Rd W d ⟨(c :: t).toArray⟩) :
    Calls Tryz.prog 146 #[boxV d] W fun e w' => e = .returned (.int .u8 (c.toNat : Int)) ∧ Rd w' d ⟨t.toArray⟩ ∧ Kept d W w' := by
  have HT := Hid.mk (take1_in W d c t ht h)
  have hcl := h.cell
  have hz : (⟨(c :: t).toArray⟩ : ByteArray).size = t.length + 1 := by rw [ba_size]; rfl
  have h0 : ∀ hh, (⟨(c :: t).toArray⟩ : ByteArray)[0]'hh = c := fun _ => rfl
  generalize hS : (⟨(c :: t).toArray⟩ : ByteArray) = S at hcl hz h0
  have hne : (S.toList == []) = false := by
    rw [beq_eq_false_iff_ne, ByteArray.toList_eq]
    intro e
    have : S.size = 0 := by rw [← size_list, e]; rfl
    omega
  have hne2 : (!S.toList.isEmpty) = true := by
    rw [ByteArray.toList_eq]
    cases hl : S.data.toList with
    | nil => exfalso; have : S.size = 0 := by rw [← size_list, hl]; rfl
             omega
    | cons a l => rfl
  have hpos : 0 < S.size := by omega
  have hix := h0 hpos
  clear hS
  rcases hc with rfl | rfl
  all_goals
    go_enter Tryz.func146, Tryz.ntmps146
    go_wp2_with fail
    refine HT.out.mono ?_
    rintro e w1 ⟨rfl, hr, hk⟩
    go_wp2
    go_ret
    exact ⟨rfl, hr, hk⟩

/-- the bytes that are told up to the closing sign, behind acc, and what is left; none: one is told by its number, or there is no end. -/
def rsGo : Nat → List UInt8 → List UInt8 → Option (List UInt8 × List UInt8)
  | 0, _, _ => none
  | n + 1, acc, l => match l with
    | [] => none
    | c :: t => if c = 34 then some (acc, t) else if c = 92 then (match t with
        | [] => none
        | e :: t' => if e = 34 ∨ e = 92 then rsGo n (acc ++ [e]) t' else none)
      else rsGo n (acc ++ [c]) t

theorem rs_nil (n : Nat) (acc : List UInt8) : rsGo n acc [] = none := by cases n <;> rfl
theorem rs_34 (n : Nat) (acc t : List UInt8) : rsGo (n + 1) acc (34 :: t) = some (acc, t) := rfl
theorem rs_92 (n : Nat) (acc t : List UInt8) (e : UInt8) : rsGo (n + 1) acc (92 :: e :: t) = if e = 34 ∨ e = 92 then rsGo n (acc ++ [e]) t else none := by
  rw [rsGo]
  simp only [show ((92 : UInt8) = 34) = False by simp, if_false, if_true]
theorem rs_else (n : Nat) (acc t : List UInt8) (c : UInt8) (h : c ≠ 34) (h2 : c ≠ 92) : rsGo (n + 1) acc (c :: t) = rsGo n (acc ++ [c]) t := by
  rw [rsGo.eq_def]
  simp only [h, h2, if_false]

theorem Kept.belowTo {d n : Nat} {A B C : World} (h : Kept d A B) (k : Below n B C) (hn : A.heap.size ≤ n) : Kept d A C :=
  ⟨k.os.trans h.os, k.tape.trans h.tape, k.output.trans h.output, Nat.le_trans h.size k.size, fun b hb hd => (k.block b (by omega)).trans (h.same b hb hd)⟩
theorem Rd.belowTo {W W' : World} {d n : Nat} {s : ByteArray} (h : Rd W d s) (k : Below n W W') (hd : d < n) : Rd W' d s := (k.block d hd).trans h
def strLen : Option Value → Nat
  | some (.string s) => s.size
  | _ => 0
def rdLen (W : World) (d : Nat) : Nat := strLen (W.cell? ⟨d, 0, none⟩)
theorem Rd.len {W : World} {d : Nat} {s : ByteArray} (h : Rd W d s) : rdLen W d = s.size := by
  rw [rdLen, h.cell]; rfl
theorem row_slice' {W : World} {n₀ n : Nat} {v : Value} {xs : List Value} (h : W.ownsRow n₀ 5 1 v n xs) : ∃ q cap, v = .slice q n cap := by
  rcases h.2 with ⟨rfl, rfl⟩ | ⟨g, cap, cur, hv, _⟩
  · exact ⟨none, 0, rfl⟩
  · exact ⟨_, _, hv⟩
theorem ba1_ne {c k : UInt8} (h : c ≠ k) : ([c] == [k]) = false := by
  rw [beq_eq_false_iff_ne]; intro e; exact h (by simpa using e)

set_option maxRecDepth 100000 in
set_option maxHeartbeats 1000000 in
theorem readString_in (W : World) (d : Nat) (l : List UInt8) (hl : l.length ≤ 1000) (h : Rd W d ⟨(34 :: l).toArray⟩) (r : List UInt8 × List UInt8) (hr : rsGo (l.length + 1) [] l = some r) :
    Calls Tryz.prog 124 #[boxV d] W fun e w' => e = .returned (.string ⟨r.1.toArray⟩) ∧ Rd w' d ⟨r.2.toArray⟩ ∧ Kept d W w' := by
  obtain ⟨i0, hi, hz0, hz1, hz2⟩ := info_parts info5
  have HT := Hid.mk (take1_in W d 34 l (by omega) h)
  have HR := Hid.mk hr
  clear hr
  go_enter Tryz.func124, Tryz.ntmps124
  go_wp2_with fail
  refine HT.out.mono ?_
  rintro e w1 ⟨rfl, hr1, hk1⟩
  go_wp2_with fail
  refine (must_yes _).mono ?_
  rintro e w2 ⟨rfl, rfl⟩
  go_wp2
  have hdn := hr1.lt
  have hWn := hk1.size
  go_loopw [3] (fun v wr => ∃ (acc t : List UInt8) (n : Nat), acc.length + t.length ≤ 1000 ∧ Rd wr d ⟨t.toArray⟩ ∧ wr.ownsRow w2.heap.size 5 1 v acc.length (Lib.byteCells acc) ∧ Hid (rsGo n acc t = some r) ∧ w2.heap.size ≤ wr.heap.size ∧ Kept d W wr) (fun _ wr => rdLen wr d)
  case atStart => exact ⟨[], l, l.length + 1, by simpa using hl, hr1, World.ownsRow_nil .., HR, Nat.le_refl _, hk1⟩
  case round =>
    obtain ⟨acc, t, n, hat, hrd, hrow, HG, hsz, hkp⟩ := hrel
    have HM := Hid.mk hrd.len
    cases t with
    | nil => exact absurd HG.out (by simp [rs_nil])
    | cons c t =>
      obtain ⟨n, rfl⟩ : ∃ m, n = m + 1 := by
        cases n with
        | zero => exact absurd HG.out (by simp [rsGo])
        | succ m => exact ⟨m, rfl⟩
      have HT2 := Hid.mk (take1_in wr d c t (by simp at hat; omega) hrd)
      simp only [List.length_cons] at hat
      obtain ⟨q, cap, rfl⟩ := row_slice' hrow
      have HROW : Hid (∀ w3, Kept d wr w3 → w3.ownsRow w2.heap.size 5 1 (.slice q acc.length cap) acc.length (Lib.byteCells acc)) := fun w3 hk3 => row_kept' hrow hk3 hdn
      clear hrow
      by_cases h34 : c = 34
      · subst h34
        go_wp2_with fail
        refine HT2.out.mono ?_
        rintro e w3 ⟨rfl, hr3, hk3⟩
        have hrow3 := HROW.out w3 hk3
        have hfin : r = (acc, t) := by have := HG.out; rw [rs_34] at this; exact (Option.some.inj this).symm
        subst hfin
        rcases hrow3.2 with ⟨hv, h0⟩ | ⟨g', cap', cur, hv, _, hg, _, _, _, ht⟩
        · obtain rfl : acc = [] := List.length_eq_zero_iff.1 h0
          cases hv
          have hcv : ∀ W : World, (convert 67 9 (.slice none 0 0)).run Tryz.prog W = .ok (.string ⟨#[]⟩) W := fun W => by kernel_rfl
          go_wp2
          go_ret
          exact ⟨rfl, hr3, hkp.trans hk3⟩
        · cases hv
          have hcv := run_convert_bytes_back (P := Tryz.prog) w3 67 9 5 ⟨g', 0, none⟩ cap acc Tryz.underlying67 Tryz.underlying5 Tryz.underlying9 (fun j hj => Lib.cells_of_row (w := w3) hg acc.length j _ (by rw [Nat.mul_one] at ht; rw [ht]; simp [Lib.byteCells, hj]))
          clear hg ht hrow3
          go_wp2
          go_ret
          exact ⟨rfl, hr3, hkp.trans hk3⟩
      · have hb34 := ba1_ne h34
        by_cases h92 : c = 92
        · subst h92
          go_wp2_with fail
          refine HT2.out.mono ?_
          rintro e w3 ⟨rfl, hr3, hk3⟩
          cases t with
          | nil => exact absurd HG.out (by simp [rsGo])
          | cons c t =>
            have hcc : c = 34 ∨ c = 92 := by
              have := HG.out
              rw [rs_92] at this
              by_cases hc : c = 34 ∨ c = 92
              · exact hc
              · rw [if_neg hc] at this; cases this
            have HG2 : Hid (rsGo n (acc ++ [c]) t = some r) := by
              have := HG.out
              rw [rs_92, if_pos hcc] at this
              exact this
            simp only [List.length_cons] at hat
            have HM3 := Hid.mk (marked_in w3 d c t (by omega) hcc hr3)
            go_wp2_with fail
            refine HM3.out.mono ?_
            rintro e w4 ⟨rfl, hr4, hk4⟩
            have hrow4 := HROW.out w4 (hk3.trans hk4)
            have hsz4 : w2.heap.size ≤ w4.heap.size := Nat.le_trans hsz (hk3.trans hk4).size
            clear HROW
            go_wp2_with (at_builtin; refine wpList_append_own _ rfl _ _ 67 rfl w2.heap.size 5 i0 (.int .u8 0) 1 1 Tryz.underlying67 hi hz0 hz1 hz2 rfl (by decide) _ _ _ rfl (hrow4.alloc _) ⟨w4.heap.size, 0, none⟩ 1 1 [.int .u8 (c.toNat : Int)] rfl rfl (cell_one_new _ _ _) (by simp [Value.oneCell']) (by unfold maxLen; omega) (by omega) (by simp; omega) ?_; intro v1 w5 hown5 hgrow5 _)
            have hb5 : Below w2.heap.size w4 w5 := ((Below.refl _ _).alloc hsz4 _).grown hgrow5 (by simp; omega) (own_base hrow4)
            have hrd5 := hr4.belowTo hb5 hdn
            have HLT : Hid (rdLen w5 d < rdLen wr d) := by
              rw [Hid, HM.out, hrd5.len, ba_size, ba_size]; simp; omega
            have hrelN : ∃ (acc t : List UInt8) (n : Nat), acc.length + t.length ≤ 1000 ∧ Rd w5 d ⟨t.toArray⟩ ∧ w5.ownsRow w2.heap.size 5 1 v1 acc.length (Lib.byteCells acc) ∧ Hid (rsGo n acc t = some r) ∧ w2.heap.size ≤ w5.heap.size ∧ Kept d W w5 :=
              ⟨acc ++ [c], t, n, by simp; omega, hrd5, by rw [List.length_append, byteCells_snoc]; exact hown5, HG2, Nat.le_trans hsz4 hb5.size, ((hkp.trans hk3).trans hk4).belowTo hb5 hWn⟩
            go_wp2
            go_roundw
            case rel => exact hrelN
            case measure => exact HLT.out
        · have hb92 := ba1_ne h92
          go_wp2_with fail
          refine HT2.out.mono ?_
          rintro e w4 ⟨rfl, hr4, hk4⟩
          have hrow4 := HROW.out w4 hk4
          have HG2 : Hid (rsGo n (acc ++ [c]) t = some r) := by
            have := HG.out
            rw [rs_else n acc t c h34 h92] at this
            exact this
          have h0 : ∀ hh, (⟨#[c]⟩ : ByteArray)[0]'hh = c := fun _ => rfl
          have hsz4 : w2.heap.size ≤ w4.heap.size := Nat.le_trans hsz hk4.size
          clear HROW
          go_wp2_with (at_builtin; refine wpList_append_own _ rfl _ _ 67 rfl w2.heap.size 5 i0 (.int .u8 0) 1 1 Tryz.underlying67 hi hz0 hz1 hz2 rfl (by decide) _ _ _ rfl (hrow4.alloc _) ⟨w4.heap.size, 0, none⟩ 1 1 [.int .u8 (c.toNat : Int)] rfl rfl (cell_one_new _ _ _) (by simp [Value.oneCell']) (by unfold maxLen; omega) (by omega) (by simp; omega) ?_; intro v1 w5 hown5 hgrow5 _)
          have hb5 : Below w2.heap.size w4 w5 := ((Below.refl _ _).alloc hsz4 _).grown hgrow5 (by simp; omega) (own_base hrow4)
          have hrd5 := hr4.belowTo hb5 hdn
          have HLT : Hid (rdLen w5 d < rdLen wr d) := by
            rw [Hid, HM.out, hrd5.len, ba_size, ba_size]; simp
          have hrelN : ∃ (acc t : List UInt8) (n : Nat), acc.length + t.length ≤ 1000 ∧ Rd w5 d ⟨t.toArray⟩ ∧ w5.ownsRow w2.heap.size 5 1 v1 acc.length (Lib.byteCells acc) ∧ Hid (rsGo n acc t = some r) ∧ w2.heap.size ≤ w5.heap.size ∧ Kept d W w5 :=
            ⟨acc ++ [c], t, n, by simp; omega, hrd5, by rw [List.length_append, byteCells_snoc]; exact hown5, HG2, Nat.le_trans hsz4 hb5.size, (hkp.trans hk4).belowTo hb5 hWn⟩
          go_wp2
          go_roundw
          case rel => exact hrelN
          case measure => exact HLT.out
end Go.Proofs.YtndlplebodcmjaaGreatDoor
