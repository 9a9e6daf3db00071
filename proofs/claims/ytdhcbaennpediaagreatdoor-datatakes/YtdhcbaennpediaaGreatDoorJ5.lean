/- Texts of this proof, joined: DUnder, DReads, DGrpRead, DBytes. -/
import Derived.Test.YtdhcbaennpediaaGreatDoorJ4
/- understood: what a text tells to the parts of a type's form. -/
namespace Go.Proofs.YtdhcbaennpediaaGreatDoor
set_option linter.unusedVariables false
open Go.RowKit

/-- what the work of understood does to its variable at block b. -/
def UnderPost (R : Option (List ByteArray)) (b : Nat) (W : World) (e : Ending) (w' : World) : Prop := (match R with
  | some ps => e = .returned (.tuple #[]) ∧ w'.heap[b]? = some (.cells #[.string ⟨(Lib.join (ps.map (·.data.toList)) []).toArray⟩] 9 (0, 0))
  | none => e = .panicked mustV ∧ w'.heap[b]? = W.heap[b]?) ∧ Kept b W w'

/-- how the loop of understood stands. -/
def UnRel (dm : Nat → ByteArray → Prop) (rf : Nat → ByteArray → Option (ByteArray × ByteArray)) (n : Nat) (s : ByteArray) (R : Option (List ByteArray)) (d : Nat) (W w2 : World) (v i : Value) (wr : World) : Prop :=
  ∃ (k : Nat) (done : List ByteArray) (rest : ByteArray), k ≤ n ∧ i = .int .i64 k ∧ done.length = k ∧ wr.ownsRow w2.heap.size 9 1 v k (baV done) ∧ Rd wr d rest ∧ rest.size ≤ 1000000 ∧ (∀ x ∈ done, x.size ≤ 1000000) ∧ Hid (k < n → dm k rest) ∧
    Hid (R = (readP rf (n - k) k rest).map fun r => done ++ r) ∧ Kept d w2 wr ∧ Below d W wr

theorem kept_then {d : Nat} {w2 w1 w3 : World} (k : Kept d w2 w1) (h : Below w2.heap.size w1 w3) : Kept d w2 w3 :=
  ⟨h.os.trans k.os, h.tape.trans k.tape, h.output.trans k.output, Nat.le_trans k.size h.size, fun b hb hd => (h.block b hb).trans (k.same b hb hd)⟩
theorem kept_cell {d : Nat} {W W' : World} (h : Kept d W W') {a : Addr} (ha : a.block < W.heap.size) (hd : a.block ≠ d) : W'.cell? a = W.cell? a := by
  have := h.same a.block ha hd
  simp [World.cell?, this]
theorem PartsIn.kept {d g n : Nat} {P : Nat → Part} {W W' : World} (h : PartsIn W g n P) (k : Kept d W W') (hgd : g ≠ d) : PartsIn W' g n P :=
  ⟨fun h0 => Nat.lt_of_lt_of_le (h.lt h0) k.size, fun j hj => (kept_cell k (h.lt (by omega)) hgd).trans (h.c0 j hj), fun j hj => (kept_cell k (h.lt (by omega)) hgd).trans (h.c1 j hj), fun j hj => (kept_cell k (h.lt (by omega)) hgd).trans (h.c2 j hj), fun j hj => (kept_cell k (h.lt (by omega)) hgd).trans (h.c3 j hj)⟩

set_option maxRecDepth 100000 in
set_option maxHeartbeats 4000000 in
theorem under1_in (W : World) (bt bk bd n : Nat) (hn : n ≤ 20) (k : Int) (s : ByteArray) (hs : s.size ≤ 1000000) (v0 : ByteArray) (dm : Nat → ByteArray → Prop) (hdm0 : dm 0 s) (rf : Nat → ByteArray → Option (ByteArray × ByteArray))
    (ht : W.heap[bt]? = some (.cells #[.string s] 9 (0, 0))) (hk : W.heap[bk]? = some (.cells #[.int .i64 k] 3 (0, 0))) (hd : W.heap[bd]? = some (.cells #[.string v0] 9 (0, 0)))
    (hG : Glob W) (hrf : ∀ k s q, rf k s = some q → s.size ≤ 1000000 → q.1.size ≤ 1000000 ∧ q.2.size ≤ 1000000)
    (hdmS : ∀ k s q, dm k s → rf k s = some q → dm (k + 1) q.2)
    (hparts : ∀ w, Glob w → Calls Tryz.prog 65 #[.int .i64 k] w fun e w' => ReadsPost n dm rf w e w') :
    Calls Tryz.prog 75 #[boxV bt, boxV bk, boxV bd] W fun e w' => UnderPost (readP rf n 0 s) bd W e w' := by
  have ct := box_cell ht
  have hal : ∀ o, Below W.heap.size W (W.alloc o) := fun o => (Below.refl _ _).alloc (Nat.le_refl _) o
  have ck : ∀ o, (W.alloc o).cell? ⟨bk, 0, none⟩ = some (.int .i64 k) := fun o => ((hal o).cell (p := ⟨bk, 0, none⟩) (box_lt hk)).trans (box_cell hk)
  have HPA := Hid.mk hparts
  clear hparts
  obtain ⟨i0, hi, hz0, hz1, hz2⟩ := info_parts info9
  obtain ⟨R, hR⟩ : ∃ R, readP rf n 0 s = R := ⟨_, rfl⟩
  rw [hR]
  have HR := Hid.mk hR
  clear hR
  go_enter Tryz.func75, Tryz.ntmps75
  go_wp2_with fail
  refine (HPA.out _ (hG.below (hal _))).mono ?_
  rintro e w2 ⟨g, P, rfl, hg, hP, hen, hread, hb2⟩
  have hrd2 : Rd w2 W.heap.size s := (hb2.block _ (by simp)).trans (heap_new _ _)
  have hbW2 : Below W.heap.size W w2 := (hal _).trans (hb2.mono (hal _).size)
  have hs2 := hb2.size
  simp only [World.size_alloc] at hs2 hg
  have HREAD := Hid.mk hread
  have HEN := Hid.mk hen
  have HRF := Hid.mk hrf
  clear hread hen hrf
  go_wp2
  go_loopw [4, 13] (fun v i wr => UnRel dm rf n s R W.heap.size W w2 v i wr) (fun _ i _ => n - (intOf i).toNat)
  case atStart =>
    refine ⟨0, [], s, Nat.zero_le _, rfl, rfl, World.ownsRow_nil .., hrd2, hs, by simp, fun _ => hdm0, ?_, Kept.refl _ _, hbW2⟩
    rw [Hid, Nat.sub_zero, HR.out]
    cases R <;> rfl
  case round =>
    obtain ⟨m, done, rest, hm, rfl, hdl, hrow, hrd, hrz, hdz, hdm, hcut, hkp, hbl⟩ := hrel
    have hswr := Nat.le_trans hs2 hkp.size
    by_cases hlt : m < n
    · have hPk := hP.kept hkp (by omega)
      have c0 := hPk.c0 m hlt
      have c1 := hPk.c1 m hlt
      have c2 := hPk.c2 m hlt
      have c3 := hPk.c3 m hlt
      have hgl := hPk.lt (by omega)
      have hent := HEN.out m hlt
      have hcall := HREAD.out m hlt
      have hcs : readP rf (n - m) m rest = match rf m rest with
          | none => none
          | some q => (readP rf (n - (m + 1)) (m + 1) q.2).map fun r => q.1 :: r := by
        rw [show n - m = n - (m + 1) + 1 by omega]; rfl
      have HCS := Hid.mk (hcut.out.trans (by rw [hcs]))
      clear hcs hcut
      generalize P m = pk at c0 c1 c2 c3 hent hcall
      obtain ⟨fp, cp, ft, ct', fr, cr, nmb⟩ := pk
      dsimp only [Enters] at c0 c1 c2 c3 hent hcall
      have hbn : Below W.heap.size W (wr.alloc (.cells #[fnV fp cp, fnV ft ct', fnV fr cr, .bool nmb] 128)) := hbl.alloc (by omega) _
      have hkn : Kept W.heap.size w2 (wr.alloc (.cells #[fnV fp cp, fnV ft ct', fnV fr cr, .bool nmb] 128)) := hkp.trans (Kept.of_below ((Below.refl _ _).alloc (Nat.le_refl _) _))
      have hrn : Rd (wr.alloc (.cells #[fnV fp cp, fnV ft ct', fnV fr cr, .bool nmb] 128)) W.heap.size rest := hrd.below ((Below.refl _ _).alloc (Nat.le_refl _) _)
      have HC2 := Hid.mk (hcall _ W.heap.size rest hkn (by simp) (fun W'' hk' => hG.below (hbn.trans (hk'.below (Nat.le_refl _) (by simp; omega)))) hrn hrz (hdm.out hlt))
      have hrow2 : (wr.alloc (.cells #[fnV fp cp, fnV ft ct', fnV fr cr, .bool nmb] 128)).ownsRow w2.heap.size 9 1 u4 m (baV done) := hrow.alloc _
      clear hcall
      cases hpk : rf m rest with
      | none =>
        rw [hpk] at HCS HC2
        go_wp2_with fail
        refine HC2.out.mono ?_
        rintro e w1 ⟨rfl, hk1⟩
        go_wp2
        have hbl1 : Below W.heap.size W w1 := hbn.trans (hk1.below (Nat.le_refl _) (by simp; omega))
        refine ⟨rfl, ?_⟩
        have hRn : R = none := by rw [HCS.out]; rfl
        rw [hRn]
        exact ⟨⟨rfl, hbl1.block bd (box_lt hd)⟩, Kept.of_below hbl1⟩
      | some q =>
        obtain ⟨q1, q2⟩ := q
        have hqz := HRF.out m rest _ hpk hrz
        have HDN : Hid (dm (m + 1) q2) := hdmS m rest _ (hdm.out hlt) hpk
        rw [hpk] at HCS HC2
        have HCN : Hid (R = (readP rf (n - (m + 1)) (m + 1) q2).map fun r => (done ++ [q1]) ++ r) := by
          rw [Hid, HCS.out]
          show Option.map _ (Option.map _ _) = _
          rw [Option.map_map]
          congr 1
          funext r
          simp
        clear HCS
        go_wp2_with fail
        refine HC2.out.mono ?_
        rintro e w1 ⟨rfl, hrd1, hk1⟩
        have hrow1 := row_kept' hrow2 hk1 (by omega)
        have hbl1 : Below W.heap.size W w1 := hbn.trans (hk1.below (Nat.le_refl _) (by simp; omega))
        have hk1' : Kept W.heap.size w2 w1 := hkn.trans hk1
        have hs1 := Nat.le_trans hs2 hk1'.size
        have hs1' := hk1'.size
        clear hrow2 hrow hrd hrn hbn hkn hk1 hkp hbl c0 c1 c2 c3 HC2 hent hPk hpk
        go_wp2_with (at_builtin; refine wpList_append_own _ rfl _ _ 84 rfl w2.heap.size 9 i0 (.string ⟨#[]⟩) 1 16 Tryz.underlying84 hi hz0 hz1 hz2 rfl (by decide) _ _ _ rfl (hrow1.alloc _) ⟨w1.heap.size, 0, none⟩ 1 1 [.string q1] rfl rfl (cell_one_new _ _ _) (by simp [Value.oneCell']) (by unfold maxLen; omega) (by omega) (by simp; omega) ?_; intro v1 w3 hown3 hgrow3 _)
        go_roundw
        case rel =>
          have h3 : Below w2.heap.size w1 w3 := ((Below.refl _ w1).alloc hs1' _).grown hgrow3 (by simp; omega) (rowBaseB hrow1)
          refine ⟨m + 1, done ++ [q1], q2, by omega, by go_num, by simp [hdl], ?_, (h3.block _ (by omega)).trans hrd1, hqz.2, ?_, fun _ => HDN.out, HCN, kept_then hk1' h3, hbl1.trans (h3.mono (by omega))⟩
          · rw [baV, List.map_append]; exact hown3
          · intro y hy
            rcases List.mem_append.1 hy with h | h
            · exact hdz y h
            · simp only [List.mem_singleton] at h; subst h; exact hqz.1
        case measure => simp [intOf]; omega
    · obtain rfl : m = n := by omega
      have hRv : R = some done := by
        rw [hcut.out, Nat.sub_self]; simp [readP]
      rw [← hdl] at hrow
      have hjl := join_len [] done 1000000 hdz
      have HJ := Hid.mk (join_row ⟨#[]⟩ hrow (by omega) (by
        refine Nat.le_trans hjl ?_
        refine Nat.le_trans (Nat.mul_le_mul_right _ (show done.length ≤ 20 by omega)) ?_
        decide))
      obtain ⟨qw, cw, hqw⟩ := row_as hrow
      subst hqw
      have HD : Hid (∀ w3, Below wr.heap.size wr w3 → w3.heap[bd]? = some (.cells #[.string v0] 9 (0, 0)) ∧ Below W.heap.size W w3) := by
        intro w3 hb3
        have hbl3 : Below W.heap.size W w3 := hbl.trans (hb3.mono (by omega))
        exact ⟨(hbl3.block bd (box_lt hd)).trans hd, hbl3⟩
      have HRV := Hid.mk hRv
      have hdl' : done.length = m := hdl
      rw [hdl'] at HJ
      clear hjl hrow hcut hRv hdl
      go_wp2_with fail
      refine HJ.out.mono ?_
      rintro e w3 ⟨rfl, hb3⟩
      obtain ⟨hd3, hbl3⟩ := HD.out w3 hb3
      have cd3 := box_cell hd3
      have fd3 := box_frozen hd3
      go_wp2
      refine bodyPost_end (results_none rfl _ _ _) rfl ?_
      rw [HRV.out]
      exact ⟨⟨rfl, box_set hd3 _⟩, (Kept.of_below hbl3).trans (Kept.set _ _ _ _)⟩
end Go.Proofs.YtdhcbaennpediaaGreatDoor

/- understood, with sound around its work; Read. -/
namespace Go.Proofs.YtdhcbaennpediaaGreatDoor
set_option linter.unusedVariables false
open Go.RowKit

def jn (ps : List ByteArray) : ByteArray := ⟨(Lib.join (ps.map (·.data.toList)) []).toArray⟩

/-- what sound makes of the work of understood. -/
def SoundU (R : Option (List ByteArray)) (b : Nat) (W : World) (e : Ending) (w' : World) : Prop := (match R with
  | some ps => e = .returned (.bool true) ∧ w'.heap[b]? = some (.cells #[.string (jn ps)] 9 (0, 0))
  | none => e = .returned (.bool false) ∧ w'.heap[b]? = W.heap[b]?) ∧ Kept b W w'

set_option maxRecDepth 100000 in
set_option maxHeartbeats 2000000 in
theorem soundUnder_in (W : World) (bt bk bd n : Nat) (hn : n ≤ 20) (k : Int) (s : ByteArray) (hs : s.size ≤ 1000000) (v0 : ByteArray) (dm : Nat → ByteArray → Prop) (hdm0 : dm 0 s) (rf : Nat → ByteArray → Option (ByteArray × ByteArray))
    (ht : W.heap[bt]? = some (.cells #[.string s] 9 (0, 0))) (hk : W.heap[bk]? = some (.cells #[.int .i64 k] 3 (0, 0))) (hd : W.heap[bd]? = some (.cells #[.string v0] 9 (0, 0)))
    (hG : Glob W) (hrf : ∀ k s q, rf k s = some q → s.size ≤ 1000000 → q.1.size ≤ 1000000 ∧ q.2.size ≤ 1000000)
    (hdmS : ∀ k s q, dm k s → rf k s = some q → dm (k + 1) q.2)
    (hparts : ∀ w, Glob w → Calls Tryz.prog 65 #[.int .i64 k] w fun e w' => ReadsPost n dm rf w e w') :
    Calls Tryz.prog 62 #[fnV 75 #[boxV bt, boxV bk, boxV bd]] W fun e w' => SoundU (readP rf n 0 s) bd W e w' := by
  have hmf := mkf
  have hal : ∀ o, Below W.heap.size W (W.alloc o) := fun o => (Below.refl _ _).alloc (Nat.le_refl _) o
  have HW := Hid.mk (fun (o : Obj) => under1_in (W.alloc o) bt bk bd n hn k s hs v0 dm hdm0 rf (((hal o).block bt (box_lt ht)).trans ht) (((hal o).block bk (box_lt hk)).trans hk) (((hal o).block bd (box_lt hd)).trans hd) (hG.below (hal o)) hrf hdmS hparts)
  clear hparts hrf
  obtain ⟨R, hR⟩ : ∃ R, readP rf n 0 s = R := ⟨_, rfl⟩
  rw [hR] at HW ⊢
  clear hR
  have hbd := box_lt hd
  cases R with
  | none =>
    go_enter_defers Tryz.func62, Tryz.ntmps62
    go_wp2_with fail
    refine (HW.out _).mono ?_
    rintro e w1 ⟨⟨rfl, hb⟩, hkp⟩
    have hbox : w1.heap[W.heap.size]? = some (.cells #[.bool false] 4 (0, 0)) := (hkp.same _ (by simp) (by omega)).trans (heap_new _ _)
    go_wp2
    refine leaves_cons (f := 79) (args := #[boxV W.heap.size]) (by simp) (by simp [go_sem]) ?_
    refine (catch_panic W.heap.size w1 false hbox []).mono ?_
    rintro e u' w2 ⟨rfl, rfl, rfl⟩
    have hs2 := box_cell (box_set hbox (.bool false))
    simp [Leaves, settle, results, Tryz.results62, go_sem, hs2]
    refine ⟨⟨rfl, ?_⟩, kept_box hkp _⟩
    rw [Below.heap_setCell w1 ⟨W.heap.size, 0, none⟩ _ bd (show bd ≠ W.heap.size by omega), hb, alloc_old W _ bd hbd]
  | some ps =>
    go_enter_defers Tryz.func62, Tryz.ntmps62
    go_wp2_with fail
    refine (HW.out _).mono ?_
    rintro e w1 ⟨⟨rfl, hb⟩, hkp⟩
    have hbox : w1.heap[W.heap.size]? = some (.cells #[.bool false] 4 (0, 0)) := (hkp.same _ (by simp) (by omega)).trans (heap_new _ _)
    have hbc := box_cell hbox
    have hbf := box_frozen hbox
    go_wp2
    refine leaves_cons (f := 79) (args := #[boxV W.heap.size]) (by simp) (by simp [go_sem]) ?_
    refine (catch_idle W.heap.size _).mono ?_
    rintro e u' w2 ⟨rfl, rfl, rfl⟩
    have hs2 := box_cell (box_set hbox (.bool true))
    simp [Leaves, settle, results, Tryz.results62, go_sem, hs2]
    refine ⟨⟨rfl, ?_⟩, kept_box hkp _⟩
    rw [Below.heap_setCell w1 ⟨W.heap.size, 0, none⟩ _ bd (show bd ≠ W.heap.size by omega)]; exact hb

/-- what understood hands back. -/
def UnPost (R : Option (List ByteArray)) (W : World) (e : Ending) (w' : World) : Prop := (match R with
  | some ps => e = .returned (.tuple #[.string (jn ps), .bool true])
  | none => e = .returned (.tuple #[.string ⟨#[]⟩, .bool false])) ∧ Below W.heap.size W w'

set_option maxRecDepth 100000 in
set_option maxHeartbeats 2000000 in
theorem understood_in (W : World) (n : Nat) (hn : n ≤ 20) (k : Int) (s : ByteArray) (hs : s.size ≤ 1000000) (dm : Nat → ByteArray → Prop) (hdm0 : dm 0 s) (rf : Nat → ByteArray → Option (ByteArray × ByteArray))
    (hG : Glob W) (hrf : ∀ k s q, rf k s = some q → s.size ≤ 1000000 → q.1.size ≤ 1000000 ∧ q.2.size ≤ 1000000)
    (hdmS : ∀ k s q, dm k s → rf k s = some q → dm (k + 1) q.2)
    (hparts : ∀ w, Glob w → Calls Tryz.prog 65 #[.int .i64 k] w fun e w' => ReadsPost n dm rf w e w') :
    Calls Tryz.prog 59 #[.int .i64 k, .string s] W fun e w' => UnPost (readP rf n 0 s) W e w' := by
  have hmf := mkf
  obtain ⟨W3, hW3⟩ : ∃ W3, W3 = (((W.alloc (.cells #[.int .i64 k] 3)).alloc (.cells #[.string s] 9)).alloc (.cells #[.string ⟨#[]⟩] 9)) := ⟨_, rfl⟩
  have hk3 : W3.heap[W.heap.size]? = some (.cells #[.int .i64 k] 3 (0, 0)) := by
    rw [hW3, alloc_old _ _ _ (by simp <;> omega), alloc_old _ _ _ (by simp)]; exact heap_new _ _
  have hd3 : W3.heap[W.heap.size + 1]? = some (.cells #[.string s] 9 (0, 0)) := by
    rw [hW3, alloc_old _ _ _ (by simp)]
    have := heap_new (W.alloc (.cells #[.int .i64 k] 3)) (.cells #[.string s] 9)
    rwa [World.size_alloc] at this
  have hp3 : W3.heap[W.heap.size + 1 + 1]? = some (.cells #[.string ⟨#[]⟩] 9 (0, 0)) := by
    rw [hW3]
    have := heap_new ((W.alloc (.cells #[.int .i64 k] 3)).alloc (.cells #[.string s] 9)) (.cells #[.string ⟨#[]⟩] 9)
    rwa [World.size_alloc, World.size_alloc] at this
  have hsz3 : W3.heap.size = W.heap.size + 3 := by rw [hW3]; simp
  have hbl3 : Below W.heap.size W W3 := by
    rw [hW3]; exact (((Below.refl _ _).alloc (Nat.le_refl _) _).alloc (by simp) _).alloc (by simp <;> omega) _
  have HS := Hid.mk (soundUnder_in W3 (W.heap.size + 1) W.heap.size (W.heap.size + 1 + 1) n hn k s hs _ dm hdm0 rf hd3 hk3 hp3 (hG.below hbl3) hrf hdmS hparts)
  obtain ⟨R, hR⟩ : ∃ R, readP rf n 0 s = R := ⟨_, rfl⟩
  rw [hR] at HS ⊢
  have HP3 := Hid.mk hp3
  clear hR hk3 hd3 hparts hp3 hrf
  have HW3 := Hid.mk hW3
  cases R with
  | none =>
    go_enter Tryz.func59, Tryz.ntmps59
    go_wp2_with fail
    rw [← HW3.out]
    refine HS.out.mono ?_
    rintro e w2 ⟨⟨rfl, hb⟩, hkp⟩
    have hb2 := hb.trans HP3.out
    have hc2 := box_cell hb2
    have hf2 := box_frozen hb2
    clear hW3
    go_wp2
    have hc4 := box_cell (box_set hb2 (.string ⟨#[]⟩))
    refine bodyPost_ret (v := .tuple #[.string ⟨#[]⟩, .bool false]) (by simp [results, Tryz.results59, go_sem, hc4]) rfl ⟨rfl, ?_⟩
    exact (hbl3.trans (hkp.below (n := W.heap.size) (by omega) (by omega))).setCell (p := ⟨W.heap.size + 1 + 1, 0, none⟩) (show W.heap.size ≤ W.heap.size + 1 + 1 by omega) _
  | some ps =>
    go_enter Tryz.func59, Tryz.ntmps59
    go_wp2_with fail
    rw [← HW3.out]
    refine HS.out.mono ?_
    rintro e w2 ⟨⟨rfl, hb2⟩, hkp⟩
    have hc2 := box_cell hb2
    have hf2 := box_frozen hb2
    clear hW3
    go_wp2
    have hc4 := box_cell (box_set hb2 (.string (jn ps)))
    refine bodyPost_ret (v := .tuple #[.string (jn ps), .bool true]) (by simp [results, Tryz.results59, go_sem, hc4]) rfl ⟨rfl, ?_⟩
    exact (hbl3.trans (hkp.below (n := W.heap.size) (by omega) (by omega))).setCell (p := ⟨W.heap.size + 1 + 1, 0, none⟩) (show W.heap.size ≤ W.heap.size + 1 + 1 by omega) _
end Go.Proofs.YtdhcbaennpediaaGreatDoor

/- Read; and the form of A, how it is read where it goes well. -/
namespace Go.Proofs.YtdhcbaennpediaaGreatDoor
set_option linter.unusedVariables false
open Go.RowKit

theorem read_no {k : Int} (hk : 0 ≤ k ∧ k ≤ 65535) {s : ByteArray} {W : World} (h : Calls Tryz.prog 59 #[.int .i64 k, .string s] W fun e w' => UnPost none W e w') :
    Calls Tryz.prog 32 #[.int .i64 k, .string s] W fun e w' => e = .returned (.tuple #[.string ⟨#[]⟩, .int .i64 7]) ∧ Below W.heap.size W w' := by
  have H := Hid.mk h
  have HK := Hid.mk hk
  clear h hk
  go_enter Tryz.func32, Tryz.ntmps32
  go_wp2_with fail
  refine (isType_yes HK.out _).mono ?_
  rintro e w1 ⟨rfl, rfl⟩
  go_wp2_with fail
  refine H.out.mono ?_
  rintro e w2 ⟨rfl, hb⟩
  go_wp2
  go_ret2
  exact ⟨rfl, hb⟩

/-- the data that were understood are told by this very text, or by another one. -/
theorem read_of {k : Int} (hk : 0 ≤ k ∧ k ≤ 65535) {s t : ByteArray} {ps : List ByteArray} {W : World} (h : Calls Tryz.prog 59 #[.int .i64 k, .string s] W fun e w' => UnPost (some ps) W e w')
    (ht : ∀ w, Below W.heap.size W w → Calls Tryz.prog 60 #[.int .i64 k, .string (jn ps)] w fun e w' => e = .returned (.tuple #[.string t, .bool true]) ∧ Below w.heap.size w w') :
    Calls Tryz.prog 32 #[.int .i64 k, .string s] W fun e w' => e = .returned (if t = s then .tuple #[.string (jn ps), .int .i64 0] else .tuple #[.string ⟨#[]⟩, .int .i64 7]) ∧ Below W.heap.size W w' := by
  have H := Hid.mk h
  have HK := Hid.mk hk
  have HT := Hid.mk ht
  clear h hk ht
  by_cases he : t = s
  · rw [if_pos he]
    subst he
    have hb0 : (t.toList == t.toList) = true := by simp
    go_enter Tryz.func32, Tryz.ntmps32
    go_wp2_with fail
    refine (isType_yes HK.out _).mono ?_
    rintro e w1 ⟨rfl, rfl⟩
    go_wp2_with fail
    refine H.out.mono ?_
    rintro e w2 ⟨rfl, hb⟩
    go_wp2_with fail
    refine (HT.out _ hb).mono ?_
    rintro e w3 ⟨rfl, hb3⟩
    go_wp2
    go_ret2
    exact ⟨rfl, bth hb hb3 hb.size⟩
  · rw [if_neg he]
    have hb0 : (t.toList == s.toList) = false := by
      rw [beq_eq_false_iff_ne, ByteArray.toList_eq, ByteArray.toList_eq]
      intro e; exact he (ba_ext e)
    go_enter Tryz.func32, Tryz.ntmps32
    go_wp2_with fail
    refine (isType_yes HK.out _).mono ?_
    rintro e w1 ⟨rfl, rfl⟩
    go_wp2_with fail
    refine H.out.mono ?_
    rintro e w2 ⟨rfl, hb⟩
    go_wp2_with fail
    refine (HT.out _ hb).mono ?_
    rintro e w3 ⟨rfl, hb3⟩
    go_wp2
    go_ret2
    exact ⟨rfl, bth hb hb3 hb.size⟩

set_option maxRecDepth 100000 in
set_option maxHeartbeats 1000000 in
theorem bytesOf1_in (n : Nat) (hn : n < 256) (w : World) :
    Calls Tryz.prog 46 #[.int .i64 (n : Int), .int .i64 1] w fun e w' => e = .returned (.string ⟨#[UInt8.ofNat n]⟩) ∧ Below w.heap.size w w' := by
  obtain ⟨i0, hi, hz0, hz1, hz2⟩ := info_parts info5
  have hsh : (n : Int) / 256 = 0 := by omega
  go_enter Tryz.func46, Tryz.ntmps46
  go_wp2_with fail
  refine (must_yes _).mono ?_
  rintro e w1 ⟨rfl, rfl⟩
  obtain ⟨M, hM⟩ : ∃ M, M = madeCells (Value.int .u8 0).cells (((1 : Nat) : Int).toNat * i0.size) := ⟨_, rfl⟩
  have hMs : M.size = 1 := by rw [hM, size_madeCells, hz1]; simp
  have hmk : ∀ W : World, (Instr.makeSlice 118 (.int .i64 1) (.int .i64 1)).run Tryz.prog W = .ok (.slice (some ⟨W.heap.size, 0, none⟩) 1 1) (W.alloc (.cells M 5)) := fun W => by
    have h := run_make (P := Tryz.prog) W 118 5 i0 (.int .u8 0) Tryz.underlying118 hi hz0 .i64 .i64 ((1 : Nat) : Int) ((1 : Nat) : Int) (by omega) (by omega) (by rw [hz2]; omega) (by omega)
    rw [← hM] at h
    simpa using h
  obtain ⟨v0, hv0⟩ : ∃ v0, M = #[v0] := by
    match M, hMs with
    | ⟨[v]⟩, _ => exact ⟨v, rfl⟩
  subst hv0
  clear hM hMs
  go_wp2
  clear hmk
  go_loopw [21] (fun i wr => ∃ (j : Nat) (v : Value), j ≤ 1 ∧ i = .int .i64 j ∧ (j = 1 → v = .int .u8 (n : Int)) ∧ wr.heap[w1.heap.size]? = some (.cells #[v] 5 (0, 0)) ∧ Below w1.heap.size w1 wr) (fun i _ => 1 - (intOf i).toNat)
  case atStart => exact ⟨0, v0, by omega, rfl, fun h => absurd h (by omega), heap_new _ _, (Below.refl _ _).alloc (Nat.le_refl _) _⟩
  case round =>
    obtain ⟨j, v, hj, rfl, hv, hh, hbl⟩ := hrel
    rcases (show j = 0 ∨ j = 1 by omega) with rfl | rfl
    · have hc := box_cell hh
      have hf := box_frozen hh
      have hbs := Hid.mk (box_set hh (.int .u8 (n : Int)))
      clear hv
      go_wp2
      exact ⟨⟨1, _, by omega, rfl, fun _ => rfl, hbs.out, hbl.setCell (p := ⟨w1.heap.size, 0, none⟩) (Nat.le_refl _) _⟩, by simp [intOf]⟩
    · obtain rfl := hv rfl
      have hc := box_cell hh
      have hcv := run_convert_bytes_back (P := Tryz.prog) wr 118 9 5 ⟨w1.heap.size, 0, none⟩ 1 [UInt8.ofNat n] Tryz.underlying118 Tryz.underlying5 Tryz.underlying9 (fun j hj => by
        have e : j = 0 := by simpa using hj
        subst e
        rw [add_at, hc]; simp; omega)
      simp only [List.length_cons, List.length_nil, Nat.zero_add] at hcv
      clear hv
      go_wp2
      go_ret
      exact ⟨rfl, hbl⟩

theorem readNum_ok (g : ByteArray) (hg : g.size ≤ 1000) (n : Nat) (hn : n < 256) (h : Lib.parseIntB 64 g.data.toList = .ok (n : Int)) (w : World) :
    Calls Tryz.prog 103 #[.string g, .int .i64 10, .int .i64 1] w fun e w' => e = .returned (.string ⟨#[UInt8.ofNat n]⟩) ∧ Below w.heap.size w w' := by
  have HP : Hid (Calls Tryz.prog 149 #[.string g, .int .i64 10, .int .i64 64] w fun e w' => e = .returned (.tuple #[.int .i64 (n : Int), .nilIface]) ∧ Below w.heap.size w w') := by
    refine (Tryz.strconv_ParseInt_10_at64_ok g (by omega) n h w).mono ?_
    rintro e w' ⟨rfl, h | ⟨t, h⟩⟩
    · rw [h]; exact ⟨rfl, Below.refl _ _⟩
    · rw [h]; exact ⟨rfl, ⟨rfl, rfl, rfl, by rw [Lib.bytesWorld_size]; omega, fun k hk => Lib.bytesWorld_at_old w 5 t k hk⟩⟩
  clear h
  go_enter Tryz.func103, Tryz.ntmps103
  go_wp2_with fail
  refine HP.out.mono ?_
  rintro e w1 ⟨rfl, hb1⟩
  go_wp2_with fail
  refine (must_yes _).mono ?_
  rintro e w2 ⟨rfl, rfl⟩
  go_wp2_with fail
  refine (bytesOf1_in n hn _).mono ?_
  rintro e w3 ⟨rfl, hb3⟩
  go_wp2
  go_ret
  exact ⟨rfl, bth hb1 hb3 hb1.size⟩

theorem cells_new1 (W : World) (cs : Array Value) (t : TypeId) (j : Nat) (u : Value) (h : cs.toList[j]? = some u) : (W.alloc (.cells cs t)).cell? ((⟨W.heap.size, 0, none⟩ : Addr).add j) = some u := by
  rw [add_at]
  have hh : (W.alloc (.cells cs t)).heap[W.heap.size]? = some (.cells cs t) := World.alloc_heap_new W _
  simp only [World.cell?, hh]
  simpa using h

theorem join_ones : ∀ ns : List Nat, Lib.join ((ns.map (fun x => (⟨#[UInt8.ofNat x]⟩ : ByteArray))).map (·.data.toList)) [] = ns.map UInt8.ofNat
  | [] => rfl
  | [x] => Lib.join_one _ _
  | x :: y :: r => by
    have ih := join_ones (y :: r)
    simp only [List.map_cons, Lib.join, List.intercalate] at ih ⊢
    rw [List.intersperse_cons_cons, List.flatten_cons, List.flatten_cons, ih]
    rfl

theorem GrpBoxes.kept {W W' : World} {b d : Nat} (h : GrpBoxes W b) (k : Kept d W W') (hd : d < b) : GrpBoxes W' b :=
  ⟨(k.same _ (box_lt h.cnt) (by omega)).trans h.cnt, (k.same _ (box_lt h.wid) (by omega)).trans h.wid, (k.same _ (box_lt h.bas) (by omega)).trans h.bas, (k.same _ (box_lt h.btw) (by omega)).trans h.btw⟩

set_option maxRecDepth 100000 in
set_option maxHeartbeats 600000 in
theorem grpRead_ok (W : World) (b d : Nat) (hdb : d < b) (hb : GrpBoxes W b) (s : ByteArray) (h : Rd W d s) (hs : s.size ≤ 1000) (hG : GlobK d W) (gs : List ByteArray) (ns : List Nat) (hlen : gs.length = ns.length) (h5 : gs.length ≤ 5)
    (hok : ∀ j (h1 : j < gs.length) (h2 : j < ns.length), gs[j].size ≤ 1000 ∧ ns[j] < 256 ∧ Lib.parseIntB 64 gs[j].data.toList = .ok (ns[j] : Int))
    (hws : (wordB s).size ≤ 1000) (hgs : Lib.splitB ⟨#[46]⟩ 0 (min 5 ((wordB s).size + 1) - 1) (wordB s) = gs) :
    Calls Tryz.prog 107 #[boxV d, boxV (b + 3), boxV b, boxV (b + 2), boxV (b + 1)] W fun e w' => e = .returned (.string ⟨(ns.map UInt8.ofNat).toArray⟩) ∧ Rd w' d (restB s) ∧ Kept d W w' := by
  have d0 := box_cell hb.cnt
  have d3 := box_cell hb.btw
  have hmo : Tryz.prog.follows Departure.mixedOrders = true := by kernel_rfl
  obtain ⟨i0, hi, hz0, hz1, hz2⟩ := info_parts info9
  have HW : Hid (Calls Tryz.prog 104 #[boxV d] W.drew fun e w1 => e = .returned (.string (wordB s)) ∧ Rd w1 d (restB s) ∧ Kept d W w1) := by
    refine (word_in W.drew d s (by omega) h (hG W.drew ⟨rfl, rfl, rfl, Nat.le_refl _, fun _ _ _ => rfl⟩)).mono ?_
    rintro e w1 ⟨he, hr, hk⟩
    exact ⟨he, hr, hk.os, hk.tape, hk.output, hk.size, hk.same⟩
  have HL1 : Hid (∀ (G : Prop) (w1 : World), Kept d W w1 → (w1.cell? ⟨b + 3, 0, none⟩ = some (.string ⟨#[46]⟩) → w1.cell? ⟨b, 0, none⟩ = some (.int .i64 4) → G) → G) := by
    intro G w1 hk hg
    have hb1 := hb.kept hk hdb
    exact hg (box_cell hb1.btw) (box_cell hb1.cnt)
  have HS : Hid (∀ w1, Kept d W w1 → Calls Tryz.prog 108 #[.string (wordB s), .string ⟨#[46]⟩, .int .i64 5] w1 fun e w2 => ∃ cap, e = .returned (.slice (some ⟨w1.heap.size, 0, none⟩) gs.length cap) ∧ (∀ j (hj : j < gs.length), w2.cell? ⟨w1.heap.size, j, none⟩ = some (.string gs[j])) ∧ w1.heap.size < w2.heap.size ∧ Below w1.heap.size w1 w2 ∧ w2.cell? ⟨b + 3, 0, none⟩ = some (.string ⟨#[46]⟩) ∧ w2.cell? ⟨b, 0, none⟩ = some (.int .i64 4)) := by
    intro w1 hk
    obtain ⟨m, hm⟩ := (hG w1 hk).maxl
    have := Tryz.strings_SplitN (wordB s) ⟨#[46]⟩ 5 m w1 (by omega) hm (by decide) (by omega) (by omega)
    rw [hgs] at this
    refine this.mono ?_
    rintro e w2 ⟨he, hw⟩
    have hbl : Below w1.heap.size w1 w2 := by rw [hw]; exact (Below.refl _ _).alloc (Nat.le_refl _) _
    have hb2 := (hb.kept hk hdb).below hbl
    refine ⟨_, he, fun j hj => ?_, by rw [hw]; simp, hbl, box_cell hb2.btw, box_cell hb2.cnt⟩
    rw [hw]
    have := cells_new1 w1 (Lib.cellsOf gs (min 5 ((wordB s).size + 1))) 9 j (.string gs[j]) (by
      simp only [Lib.cellsOf]
      rw [List.getElem?_append_left (by simpa using hj)]
      simp [hj])
    rwa [add_at] at this
  have HOK := Hid.mk hok
  clear hok hgs
  go_enter Tryz.func107, Tryz.ntmps107
  go_wp2_with fail
  go_region_held3 (fun w' => w'.cell? ⟨b + 3, 0, none⟩ = some (.string ⟨#[46]⟩) ∧ w'.cell? ⟨b, 0, none⟩ = some (.int .i64 4)) (first | (constructor <;> assumption) | go_keep)
    (first
      | (go_at_call 104; refine HW.out.mono ?_; rintro e w1 ⟨rfl, hr1, hk1⟩; refine HL1.out _ w1 hk1 ?_; intro e1 e2)
      | (go_at_call 108; refine (HS.out _ hk1).mono ?_; rintro e w2 ⟨cap, rfl, hgc, hlt2, hb2, e3, e4⟩))
  have hbx2 : GrpBoxes w2 b := (hb.kept hk1 hdb).below hb2
  have hr2 : Rd w2 d (restB s) := hr1.below hb2
  have hk2 : Kept d W w2 := hk1.trans (Kept.of_below hb2)
  clear e1 e2 e3 e4 d0 d3 HW HL1 HS
  go_wp2
  go_loopw [7, 17] (fun v i wr => ∃ m : Nat, m ≤ gs.length ∧ i = .int .i64 m ∧ wr.ownsRow w2.heap.size 9 1 v m (baV ((ns.take m).map fun x => ⟨#[UInt8.ofNat x]⟩)) ∧ Below w2.heap.size w2 wr) (fun _ i _ => gs.length - (intOf i).toNat)
  case atStart => exact ⟨0, Nat.zero_le _, rfl, World.ownsRow_nil .., Below.refl _ _⟩
  case round =>
    obtain ⟨m, hm, rfl, hrow, hbl⟩ := hrel
    have hsz := hbl.size
    by_cases hlt : m < gs.length
    · have hmn : m < ns.length := by omega
      obtain ⟨ho1, ho2, ho3⟩ := HOK.out m hlt hmn
      have hc := (hbl.cell (p := ⟨w1.heap.size, m, none⟩) hlt2).trans (hgc m hlt)
      have hbx := hbx2.below hbl
      have f1 := box_cell hbx.wid
      have f2 := box_cell hbx.bas
      have HN := Hid.mk (readNum_ok gs[m] ho1 ns[m] ho2 ho3)
      have hnx : (ns.take (m + 1)).map (fun x => (⟨#[UInt8.ofNat x]⟩ : ByteArray)) = (ns.take m).map (fun x => (⟨#[UInt8.ofNat x]⟩ : ByteArray)) ++ [⟨#[UInt8.ofNat ns[m]]⟩] := by
        rw [List.take_succ_eq_append_getElem hmn, List.map_append]; rfl
      have HNX := Hid.mk hnx
      have hltn : (m : Int) < (ns.length : Int) := by omega
      clear hnx ho3
      generalize gs[m] = gm at hc HN
      generalize ns[m] = nm at HN HNX ho2
      go_wp2_with fail
      refine (HN.out _).mono ?_
      rintro e w3 ⟨rfl, hb3⟩
      have hrow3 := row_bel hrow hb3
      have hbl3 : Below w2.heap.size w2 w3 := hbl.trans (hb3.mono hsz)
      have hsz3 := hbl3.size
      go_wp2_with (at_builtin; refine wpList_append_own _ rfl _ _ 84 rfl w2.heap.size 9 i0 (.string ⟨#[]⟩) 1 16 Tryz.underlying84 hi hz0 hz1 hz2 rfl (by decide) _ _ _ rfl (hrow3.alloc _) ⟨w3.heap.size, 0, none⟩ 1 1 [.string ⟨#[UInt8.ofNat nm]⟩] rfl rfl (cell_one_new _ _ _) (by simp [Value.oneCell']) (by unfold maxLen; omega) (by omega) (by simp; omega) ?_; intro v1 w4 hown4 hgrow4 _)
      have hrelN : ∃ j : Nat, j ≤ gs.length ∧ Value.int .i64 ((m : Int) + 1) = .int .i64 j ∧ w4.ownsRow w2.heap.size 9 1 v1 j (baV ((ns.take j).map fun x => ⟨#[UInt8.ofNat x]⟩)) ∧ Below w2.heap.size w2 w4 := by
        refine ⟨m + 1, by omega, by go_num, ?_, (hbl3.alloc hsz3 _).grown hgrow4 (by simp; omega) (rowBaseB hrow3)⟩
        rw [HNX.out, baV, List.map_append]; exact hown4
      go_roundw
      case rel =>
        (repeat apply Exists.intro)
        exact ⟨hrelN, rfl⟩
      case measure => simp [intOf]; omega
    · obtain rfl : m = ns.length := by omega
      have hall : ns.take ns.length = ns := List.take_of_length_le (Nat.le_refl _)
      rw [hall] at hrow
      have hrowL : wr.ownsRow w2.heap.size 9 1 u7 (ns.map (fun x => (⟨#[UInt8.ofNat x]⟩ : ByteArray))).length (baV (ns.map (fun x => (⟨#[UInt8.ofNat x]⟩ : ByteArray)))) := by
        rw [List.length_map]; exact hrow
      have hjn : Lib.join ((ns.map (fun x => (⟨#[UInt8.ofNat x]⟩ : ByteArray))).map (·.data.toList)) [] = ns.map UInt8.ofNat := join_ones ns
      have HJ0 := join_row ⟨#[]⟩ hrowL (by rw [List.length_map]; omega) (by
        show (Lib.join _ []).length ≤ _
        rw [hjn, List.length_map]; omega)
      have HJ : Hid (Calls Tryz.prog 70 #[u7, .string ⟨#[]⟩] wr fun e w' => e = .returned (.string ⟨(ns.map UInt8.ofNat).toArray⟩) ∧ Below wr.heap.size wr w') := by
        have h0 := HJ0
        simp only at h0
        rw [hjn] at h0
        exact h0
      clear HJ0 hall hjn hrowL
      obtain ⟨qw, cw, hqw⟩ := row_as hrow
      subst hqw
      clear hrow
      go_wp2_with fail
      refine HJ.out.mono ?_
      rintro e w3 ⟨rfl, hb3⟩
      go_wp2
      go_ret
      have hbl3 : Below w2.heap.size w2 w3 := hbl.trans (hb3.mono hsz)
      exact ⟨rfl, hr2.below hbl3, hk2.trans (Kept.of_below hbl3)⟩
end Go.Proofs.YtdhcbaennpediaaGreatDoor

/- bytesOf: a number as one, two or four bytes. -/
namespace Go.Proofs.YtdhcbaennpediaaGreatDoor
set_option linter.unusedVariables false
set_option linter.unusedSimpArgs false
open Go.RowKit

/-- a number as so many bytes. -/
def bytesB (n w : Nat) : List UInt8 := (List.range w).map fun i => UInt8.ofNat (n / 256 ^ (w - 1 - i))
theorem bytesB_len (n w : Nat) : (bytesB n w).length = w := by simp [bytesB]
theorem byte_back (q : Nat) (b : UInt8) (h : q % 256 = b.toNat) : UInt8.ofNat q = b := by
  apply UInt8.toNat_inj.1
  rw [UInt8.toNat_ofNat']
  exact h
theorem bytesB1 (n : Nat) : bytesB n 1 = [UInt8.ofNat n] := by simp [bytesB, List.range_succ]
theorem bytesB2 (n : Nat) : bytesB n 2 = [UInt8.ofNat (n / 256), UInt8.ofNat n] := by simp [bytesB, List.range_succ]
theorem bytesB4 (n : Nat) : bytesB n 4 = [UInt8.ofNat (n / 16777216), UInt8.ofNat (n / 65536), UInt8.ofNat (n / 256), UInt8.ofNat n] := by simp [bytesB, List.range_succ]
theorem bytesB_num (l : List UInt8) (h : l.length = 1 ∨ l.length = 2 ∨ l.length = 4) : bytesB (numB l) l.length = l := by
  rcases h with h | h | h
  · match l, h with
    | [a], _ =>
      have ha := a.toNat_lt
      rw [show [a].length = 1 from rfl, bytesB1, byte_back (numB [a]) a (by simp only [numB, List.foldl]; omega)]
  · match l, h with
    | [a, b], _ =>
      have ha := a.toNat_lt
      have hb := b.toNat_lt
      rw [show [a, b].length = 2 from rfl, bytesB2, byte_back (numB [a, b] / 256) a (by simp only [numB, List.foldl]; omega), byte_back (numB [a, b]) b (by simp only [numB, List.foldl]; omega)]
  · match l, h with
    | [a, b, c, d], _ =>
      have ha := a.toNat_lt
      have hb := b.toNat_lt
      have hc := c.toNat_lt
      have hd := d.toNat_lt
      rw [show [a, b, c, d].length = 4 from rfl, bytesB4, byte_back (numB [a, b, c, d] / 16777216) a (by simp only [numB, List.foldl]; omega), byte_back (numB [a, b, c, d] / 65536) b (by simp only [numB, List.foldl]; omega), byte_back (numB [a, b, c, d] / 256) c (by simp only [numB, List.foldl]; omega), byte_back (numB [a, b, c, d]) d (by simp only [numB, List.foldl]; omega)]

theorem cells_put {W : World} {b j : Nat} {cs : Array Value} {t : TypeId} (h : W.heap[b]? = some (.cells cs t (0, 0))) (u : Value) : (W.setCell ⟨b, j, none⟩ u).heap[b]? = some (.cells (cs.setIfInBounds j u) t (0, 0)) := by
  simp only [World.setCell, Array.getElem?_modify, h]
  rfl
theorem cells_at {W : World} {b j : Nat} {cs : Array Value} {t : TypeId} {v : Value} (h : W.heap[b]? = some (.cells cs t (0, 0))) (hj : cs[j]? = some v) : W.cell? ⟨b, j, none⟩ = some v ∧ W.frozen? ⟨b, j, none⟩ = false := by
  simp [World.cell?, World.frozen?, h, hj]
theorem wrapu8 (x : Int) (q : Nat) (h : x = (q : Int)) : IntKind.u8.wrap x = (((UInt8.ofNat q).toNat : Nat) : Int) := by
  rw [IntKind.wrap_u8, UInt8.toNat_ofNat', h]
  omega

def BytPost (n : Int) (w : Nat) (W : World) (e : Ending) (w' : World) : Prop := (if 0 ≤ n ∧ n < 256 ^ w then e = .returned (.string ⟨(bytesB n.toNat w).toArray⟩) else e = .panicked mustV) ∧ Below W.heap.size W w'

set_option maxRecDepth 100000 in
set_option maxHeartbeats 2000000 in
theorem bytes1_yes (n : Nat) (hn : n < 256) (w : World) :
    Calls Tryz.prog 46 #[.int .i64 (n : Int), .int .i64 1] w fun e w' => e = .returned (.string ⟨(bytesB n 1).toArray⟩) ∧ Below w.heap.size w w' := by
  obtain ⟨i0, hi, hz0, hz1, hz2⟩ := info_parts info5
  have hsh : (n : Int) / 256 = 0 := by omega
  have HBB : Hid ((⟨(bytesB n 1).toArray⟩ : ByteArray) = ⟨([UInt8.ofNat (n)] : List UInt8).toArray⟩) := by
    rw [Hid]
    simp [bytesB, List.range_succ]
  go_enter Tryz.func46, Tryz.ntmps46
  go_wp2_with fail
  refine (must_yes _).mono ?_
  rintro e w1 ⟨rfl, rfl⟩
  obtain ⟨M, hM⟩ : ∃ M, M = madeCells (Value.int .u8 0).cells (((1 : Nat) : Int).toNat * i0.size) := ⟨_, rfl⟩
  have hMs : M.size = 1 := by rw [hM, size_madeCells, hz1]; simp
  have hmk : ∀ W : World, (Instr.makeSlice 118 (.int .i64 1) (.int .i64 1)).run Tryz.prog W = .ok (.slice (some ⟨W.heap.size, 0, none⟩) 1 1) (W.alloc (.cells M 5)) := fun W => by
    have h := run_make (P := Tryz.prog) W 118 5 i0 (.int .u8 0) Tryz.underlying118 hi hz0 .i64 .i64 ((1 : Nat) : Int) ((1 : Nat) : Int) (by omega) (by omega) (by rw [hz2]; omega) (by omega)
    rw [← hM] at h
    simpa using h
  obtain ⟨v0, hv0⟩ : ∃ v0, M = #[v0] := by
    match M, hMs with
    | ⟨[v0]⟩, _ => exact ⟨v0, rfl⟩
  subst hv0
  clear hM hMs
  go_wp2
  clear hmk
  go_loopw [21] (fun i wr => ∃ (j : Nat) (v0 : Value), j ≤ 1 ∧ i = .int .i64 j ∧ (1 ≤ j → v0 = .int .u8 (((UInt8.ofNat (n)).toNat : Nat) : Int)) ∧ wr.heap[w1.heap.size]? = some (.cells #[v0] 5 (0, 0)) ∧ Below w1.heap.size w1 wr) (fun i _ => 1 - (intOf i).toNat)
  case atStart => exact ⟨0, v0, by omega, rfl, fun h => absurd h (by omega), heap_new _ _, (Below.refl _ _).alloc (Nat.le_refl _) _⟩
  case round =>
    obtain ⟨j, v0, hj, rfl, hv0, hh, hbl⟩ := hrel
    rcases (show j = 0 ∨ j = 1 by omega) with rfl | rfl
    · obtain ⟨hc, hf⟩ := cells_at (j := 0) hh rfl
      have hbs := Hid.mk (cells_put (j := 0) hh (.int .u8 (((UInt8.ofNat (n)).toNat : Nat) : Int)))
      have hwr := wrapu8 ((n : Int)) (n) (by omega)
      go_wp2
      exact ⟨⟨1, (.int .u8 (((UInt8.ofNat (n)).toNat : Nat) : Int)), by omega, rfl, fun _ => rfl, hbs.out, hbl.setCell (p := ⟨w1.heap.size, 0, none⟩) (Nat.le_refl _) _⟩, by simp [intOf]⟩
    · obtain rfl := hv0 (by omega)
      have hcv := run_convert_bytes_back (P := Tryz.prog) wr 118 9 5 ⟨w1.heap.size, 0, none⟩ 1 [UInt8.ofNat (n)] Tryz.underlying118 Tryz.underlying5 Tryz.underlying9 (fun j hj => by
        simp only [List.length_cons, List.length_nil] at hj
        rw [add_at]
        rcases (show j = 0 by omega) with rfl
        all_goals exact (cells_at hh rfl).1)
      simp only [List.length_cons, List.length_nil, Nat.zero_add, Nat.reduceAdd] at hcv
      clear hv0
      go_wp2
      go_ret
      exact ⟨by rw [HBB.out]; rfl, hbl⟩

theorem bytes1_in (n : Int) (w : World) : Calls Tryz.prog 46 #[.int .i64 n, .int .i64 1] w fun e w' => BytPost n 1 w e w' := by
  by_cases h0 : 0 ≤ n
  · by_cases h1 : n < 256
    · obtain ⟨m, rfl⟩ : ∃ m : Nat, n = m := ⟨n.toNat, by omega⟩
      refine (bytes1_yes m (by omega) w).mono ?_
      rintro e w' ⟨rfl, hb⟩
      refine ⟨?_, hb⟩
      rw [if_pos ⟨h0, by omega⟩]
      rfl
    · have hsh : ¬ n / 256 = 0 := by omega
      have hsb : (n / 256 == 0) = false := by simpa using hsh
      go_enter Tryz.func46, Tryz.ntmps46
      go_wp2_with fail
      refine (must_no _).mono ?_
      rintro e w1 ⟨rfl, rfl⟩
      go_wp2
      refine ⟨rfl, ?_, Below.refl _ _⟩
      rw [if_neg (by omega)]
  · go_enter Tryz.func46, Tryz.ntmps46
    go_wp2_with fail
    refine (must_no _).mono ?_
    rintro e w1 ⟨rfl, rfl⟩
    go_wp2
    refine ⟨rfl, ?_, Below.refl _ _⟩
    rw [if_neg (by omega)]

set_option maxRecDepth 100000 in
set_option maxHeartbeats 2000000 in
theorem bytes2_yes (n : Nat) (hn : n < 65536) (w : World) :
    Calls Tryz.prog 46 #[.int .i64 (n : Int), .int .i64 2] w fun e w' => e = .returned (.string ⟨(bytesB n 2).toArray⟩) ∧ Below w.heap.size w w' := by
  obtain ⟨i0, hi, hz0, hz1, hz2⟩ := info_parts info5
  have hsh : (n : Int) / 65536 = 0 := by omega
  have HBB : Hid ((⟨(bytesB n 2).toArray⟩ : ByteArray) = ⟨([UInt8.ofNat (n / 256), UInt8.ofNat (n)] : List UInt8).toArray⟩) := by
    rw [Hid]
    simp [bytesB, List.range_succ]
  go_enter Tryz.func46, Tryz.ntmps46
  go_wp2_with fail
  refine (must_yes _).mono ?_
  rintro e w1 ⟨rfl, rfl⟩
  obtain ⟨M, hM⟩ : ∃ M, M = madeCells (Value.int .u8 0).cells (((2 : Nat) : Int).toNat * i0.size) := ⟨_, rfl⟩
  have hMs : M.size = 2 := by rw [hM, size_madeCells, hz1]; simp
  have hmk : ∀ W : World, (Instr.makeSlice 118 (.int .i64 2) (.int .i64 2)).run Tryz.prog W = .ok (.slice (some ⟨W.heap.size, 0, none⟩) 2 2) (W.alloc (.cells M 5)) := fun W => by
    have h := run_make (P := Tryz.prog) W 118 5 i0 (.int .u8 0) Tryz.underlying118 hi hz0 .i64 .i64 ((2 : Nat) : Int) ((2 : Nat) : Int) (by omega) (by omega) (by rw [hz2]; omega) (by omega)
    rw [← hM] at h
    simpa using h
  obtain ⟨v0, v1, hv0⟩ : ∃ v0 v1, M = #[v0, v1] := by
    match M, hMs with
    | ⟨[v0, v1]⟩, _ => exact ⟨v0, v1, rfl⟩
  subst hv0
  clear hM hMs
  go_wp2
  clear hmk
  go_loopw [21] (fun i wr => ∃ (j : Nat) (v0 v1 : Value), j ≤ 2 ∧ i = .int .i64 j ∧ (1 ≤ j → v0 = .int .u8 (((UInt8.ofNat (n / 256)).toNat : Nat) : Int)) ∧ (2 ≤ j → v1 = .int .u8 (((UInt8.ofNat (n)).toNat : Nat) : Int)) ∧ wr.heap[w1.heap.size]? = some (.cells #[v0, v1] 5 (0, 0)) ∧ Below w1.heap.size w1 wr) (fun i _ => 2 - (intOf i).toNat)
  case atStart => exact ⟨0, v0, v1, by omega, rfl, fun h => absurd h (by omega), fun h => absurd h (by omega), heap_new _ _, (Below.refl _ _).alloc (Nat.le_refl _) _⟩
  case round =>
    obtain ⟨j, v0, v1, hj, rfl, hv0, hv1, hh, hbl⟩ := hrel
    rcases (show j = 0 ∨ j = 1 ∨ j = 2 by omega) with rfl | rfl | rfl
    · obtain ⟨hc, hf⟩ := cells_at (j := 0) hh rfl
      have hbs := Hid.mk (cells_put (j := 0) hh (.int .u8 (((UInt8.ofNat (n / 256)).toNat : Nat) : Int)))
      have hwr := wrapu8 ((n : Int) / 256) (n / 256) (by omega)
      go_wp2
      exact ⟨⟨1, (.int .u8 (((UInt8.ofNat (n / 256)).toNat : Nat) : Int)), v1, by omega, rfl, fun _ => rfl, fun h => absurd h (by omega), hbs.out, hbl.setCell (p := ⟨w1.heap.size, 0, none⟩) (Nat.le_refl _) _⟩, by simp [intOf]⟩
    · obtain ⟨hc, hf⟩ := cells_at (j := 1) hh rfl
      have hbs := Hid.mk (cells_put (j := 1) hh (.int .u8 (((UInt8.ofNat (n)).toNat : Nat) : Int)))
      have hwr := wrapu8 ((n : Int)) (n) (by omega)
      go_wp2
      exact ⟨⟨2, v0, (.int .u8 (((UInt8.ofNat (n)).toNat : Nat) : Int)), by omega, rfl, fun _ => hv0 (by omega), fun _ => rfl, hbs.out, hbl.setCell (p := ⟨w1.heap.size, 1, none⟩) (Nat.le_refl _) _⟩, by simp [intOf]⟩
    · obtain rfl := hv0 (by omega)
      obtain rfl := hv1 (by omega)
      have hcv := run_convert_bytes_back (P := Tryz.prog) wr 118 9 5 ⟨w1.heap.size, 0, none⟩ 2 [UInt8.ofNat (n / 256), UInt8.ofNat (n)] Tryz.underlying118 Tryz.underlying5 Tryz.underlying9 (fun j hj => by
        simp only [List.length_cons, List.length_nil] at hj
        rw [add_at]
        rcases (show j = 0 ∨ j = 1 by omega) with rfl | rfl
        all_goals exact (cells_at hh rfl).1)
      simp only [List.length_cons, List.length_nil, Nat.zero_add, Nat.reduceAdd] at hcv
      clear hv0 hv1
      go_wp2
      go_ret
      exact ⟨by rw [HBB.out]; rfl, hbl⟩

theorem bytes2_in (n : Int) (w : World) : Calls Tryz.prog 46 #[.int .i64 n, .int .i64 2] w fun e w' => BytPost n 2 w e w' := by
  by_cases h0 : 0 ≤ n
  · by_cases h1 : n < 65536
    · obtain ⟨m, rfl⟩ : ∃ m : Nat, n = m := ⟨n.toNat, by omega⟩
      refine (bytes2_yes m (by omega) w).mono ?_
      rintro e w' ⟨rfl, hb⟩
      refine ⟨?_, hb⟩
      rw [if_pos ⟨h0, by omega⟩]
      rfl
    · have hsh : ¬ n / 65536 = 0 := by omega
      have hsb : (n / 65536 == 0) = false := by simpa using hsh
      go_enter Tryz.func46, Tryz.ntmps46
      go_wp2_with fail
      refine (must_no _).mono ?_
      rintro e w1 ⟨rfl, rfl⟩
      go_wp2
      refine ⟨rfl, ?_, Below.refl _ _⟩
      rw [if_neg (by omega)]
  · go_enter Tryz.func46, Tryz.ntmps46
    go_wp2_with fail
    refine (must_no _).mono ?_
    rintro e w1 ⟨rfl, rfl⟩
    go_wp2
    refine ⟨rfl, ?_, Below.refl _ _⟩
    rw [if_neg (by omega)]

set_option maxRecDepth 100000 in
set_option maxHeartbeats 2000000 in
theorem bytes4_yes (n : Nat) (hn : n < 4294967296) (w : World) :
    Calls Tryz.prog 46 #[.int .i64 (n : Int), .int .i64 4] w fun e w' => e = .returned (.string ⟨(bytesB n 4).toArray⟩) ∧ Below w.heap.size w w' := by
  obtain ⟨i0, hi, hz0, hz1, hz2⟩ := info_parts info5
  have hsh : (n : Int) / 4294967296 = 0 := by omega
  have HBB : Hid ((⟨(bytesB n 4).toArray⟩ : ByteArray) = ⟨([UInt8.ofNat (n / 16777216), UInt8.ofNat (n / 65536), UInt8.ofNat (n / 256), UInt8.ofNat (n)] : List UInt8).toArray⟩) := by
    rw [Hid]
    simp [bytesB, List.range_succ]
  go_enter Tryz.func46, Tryz.ntmps46
  go_wp2_with fail
  refine (must_yes _).mono ?_
  rintro e w1 ⟨rfl, rfl⟩
  obtain ⟨M, hM⟩ : ∃ M, M = madeCells (Value.int .u8 0).cells (((4 : Nat) : Int).toNat * i0.size) := ⟨_, rfl⟩
  have hMs : M.size = 4 := by rw [hM, size_madeCells, hz1]; simp
  have hmk : ∀ W : World, (Instr.makeSlice 118 (.int .i64 4) (.int .i64 4)).run Tryz.prog W = .ok (.slice (some ⟨W.heap.size, 0, none⟩) 4 4) (W.alloc (.cells M 5)) := fun W => by
    have h := run_make (P := Tryz.prog) W 118 5 i0 (.int .u8 0) Tryz.underlying118 hi hz0 .i64 .i64 ((4 : Nat) : Int) ((4 : Nat) : Int) (by omega) (by omega) (by rw [hz2]; omega) (by omega)
    rw [← hM] at h
    simpa using h
  obtain ⟨v0, v1, v2, v3, hv0⟩ : ∃ v0 v1 v2 v3, M = #[v0, v1, v2, v3] := by
    match M, hMs with
    | ⟨[v0, v1, v2, v3]⟩, _ => exact ⟨v0, v1, v2, v3, rfl⟩
  subst hv0
  clear hM hMs
  go_wp2
  clear hmk
  go_loopw [21] (fun i wr => ∃ (j : Nat) (v0 v1 v2 v3 : Value), j ≤ 4 ∧ i = .int .i64 j ∧ (1 ≤ j → v0 = .int .u8 (((UInt8.ofNat (n / 16777216)).toNat : Nat) : Int)) ∧ (2 ≤ j → v1 = .int .u8 (((UInt8.ofNat (n / 65536)).toNat : Nat) : Int)) ∧ (3 ≤ j → v2 = .int .u8 (((UInt8.ofNat (n / 256)).toNat : Nat) : Int)) ∧ (4 ≤ j → v3 = .int .u8 (((UInt8.ofNat (n)).toNat : Nat) : Int)) ∧ wr.heap[w1.heap.size]? = some (.cells #[v0, v1, v2, v3] 5 (0, 0)) ∧ Below w1.heap.size w1 wr) (fun i _ => 4 - (intOf i).toNat)
  case atStart => exact ⟨0, v0, v1, v2, v3, by omega, rfl, fun h => absurd h (by omega), fun h => absurd h (by omega), fun h => absurd h (by omega), fun h => absurd h (by omega), heap_new _ _, (Below.refl _ _).alloc (Nat.le_refl _) _⟩
  case round =>
    obtain ⟨j, v0, v1, v2, v3, hj, rfl, hv0, hv1, hv2, hv3, hh, hbl⟩ := hrel
    rcases (show j = 0 ∨ j = 1 ∨ j = 2 ∨ j = 3 ∨ j = 4 by omega) with rfl | rfl | rfl | rfl | rfl
    · obtain ⟨hc, hf⟩ := cells_at (j := 0) hh rfl
      have hbs := Hid.mk (cells_put (j := 0) hh (.int .u8 (((UInt8.ofNat (n / 16777216)).toNat : Nat) : Int)))
      have hwr := wrapu8 ((n : Int) / 16777216) (n / 16777216) (by omega)
      go_wp2
      exact ⟨⟨1, (.int .u8 (((UInt8.ofNat (n / 16777216)).toNat : Nat) : Int)), v1, v2, v3, by omega, rfl, fun _ => rfl, fun h => absurd h (by omega), fun h => absurd h (by omega), fun h => absurd h (by omega), hbs.out, hbl.setCell (p := ⟨w1.heap.size, 0, none⟩) (Nat.le_refl _) _⟩, by simp [intOf]⟩
    · obtain ⟨hc, hf⟩ := cells_at (j := 1) hh rfl
      have hbs := Hid.mk (cells_put (j := 1) hh (.int .u8 (((UInt8.ofNat (n / 65536)).toNat : Nat) : Int)))
      have hwr := wrapu8 ((n : Int) / 65536) (n / 65536) (by omega)
      go_wp2
      exact ⟨⟨2, v0, (.int .u8 (((UInt8.ofNat (n / 65536)).toNat : Nat) : Int)), v2, v3, by omega, rfl, fun _ => hv0 (by omega), fun _ => rfl, fun h => absurd h (by omega), fun h => absurd h (by omega), hbs.out, hbl.setCell (p := ⟨w1.heap.size, 1, none⟩) (Nat.le_refl _) _⟩, by simp [intOf]⟩
    · obtain ⟨hc, hf⟩ := cells_at (j := 2) hh rfl
      have hbs := Hid.mk (cells_put (j := 2) hh (.int .u8 (((UInt8.ofNat (n / 256)).toNat : Nat) : Int)))
      have hwr := wrapu8 ((n : Int) / 256) (n / 256) (by omega)
      go_wp2
      exact ⟨⟨3, v0, v1, (.int .u8 (((UInt8.ofNat (n / 256)).toNat : Nat) : Int)), v3, by omega, rfl, fun _ => hv0 (by omega), fun _ => hv1 (by omega), fun _ => rfl, fun h => absurd h (by omega), hbs.out, hbl.setCell (p := ⟨w1.heap.size, 2, none⟩) (Nat.le_refl _) _⟩, by simp [intOf]⟩
    · obtain ⟨hc, hf⟩ := cells_at (j := 3) hh rfl
      have hbs := Hid.mk (cells_put (j := 3) hh (.int .u8 (((UInt8.ofNat (n)).toNat : Nat) : Int)))
      have hwr := wrapu8 ((n : Int)) (n) (by omega)
      go_wp2
      exact ⟨⟨4, v0, v1, v2, (.int .u8 (((UInt8.ofNat (n)).toNat : Nat) : Int)), by omega, rfl, fun _ => hv0 (by omega), fun _ => hv1 (by omega), fun _ => hv2 (by omega), fun _ => rfl, hbs.out, hbl.setCell (p := ⟨w1.heap.size, 3, none⟩) (Nat.le_refl _) _⟩, by simp [intOf]⟩
    · obtain rfl := hv0 (by omega)
      obtain rfl := hv1 (by omega)
      obtain rfl := hv2 (by omega)
      obtain rfl := hv3 (by omega)
      have hcv := run_convert_bytes_back (P := Tryz.prog) wr 118 9 5 ⟨w1.heap.size, 0, none⟩ 4 [UInt8.ofNat (n / 16777216), UInt8.ofNat (n / 65536), UInt8.ofNat (n / 256), UInt8.ofNat (n)] Tryz.underlying118 Tryz.underlying5 Tryz.underlying9 (fun j hj => by
        simp only [List.length_cons, List.length_nil] at hj
        rw [add_at]
        rcases (show j = 0 ∨ j = 1 ∨ j = 2 ∨ j = 3 by omega) with rfl | rfl | rfl | rfl
        all_goals exact (cells_at hh rfl).1)
      simp only [List.length_cons, List.length_nil, Nat.zero_add, Nat.reduceAdd] at hcv
      clear hv0 hv1 hv2 hv3
      go_wp2
      go_ret
      exact ⟨by rw [HBB.out]; rfl, hbl⟩

theorem bytes4_in (n : Int) (w : World) : Calls Tryz.prog 46 #[.int .i64 n, .int .i64 4] w fun e w' => BytPost n 4 w e w' := by
  by_cases h0 : 0 ≤ n
  · by_cases h1 : n < 4294967296
    · obtain ⟨m, rfl⟩ : ∃ m : Nat, n = m := ⟨n.toNat, by omega⟩
      refine (bytes4_yes m (by omega) w).mono ?_
      rintro e w' ⟨rfl, hb⟩
      refine ⟨?_, hb⟩
      rw [if_pos ⟨h0, by omega⟩]
      rfl
    · have hsh : ¬ n / 4294967296 = 0 := by omega
      have hsb : (n / 4294967296 == 0) = false := by simpa using hsh
      go_enter Tryz.func46, Tryz.ntmps46
      go_wp2_with fail
      refine (must_no _).mono ?_
      rintro e w1 ⟨rfl, rfl⟩
      go_wp2
      refine ⟨rfl, ?_, Below.refl _ _⟩
      rw [if_neg (by omega)]
  · go_enter Tryz.func46, Tryz.ntmps46
    go_wp2_with fail
    refine (must_no _).mono ?_
    rintro e w1 ⟨rfl, rfl⟩
    go_wp2
    refine ⟨rfl, ?_, Below.refl _ _⟩
    rw [if_neg (by omega)]

end Go.Proofs.YtdhcbaennpediaaGreatDoor
