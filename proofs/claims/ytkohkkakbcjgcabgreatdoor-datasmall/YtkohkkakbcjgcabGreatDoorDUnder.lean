/- understood: what a text tells to the parts of a type's form. -/
import Derived.Test.YtkohkkakbcjgcabGreatDoorDGlob
namespace Go.Proofs.YtkohkkakbcjgcabGreatDoor
set_option linter.unusedVariables false
open Go.RowKit

/-- what the work of understood does to its variable at block b. -/
def UnderPost (R : Option (List ByteArray)) (b : Nat) (W : World) (e : Ending) (w' : World) : Prop := (match R with
  | some ps => e = .returned (.tuple #[]) ∧ w'.heap[b]? = some (.cells #[.string ⟨(Lib.join (ps.map (·.data.toList)) []).toArray⟩] 9 (0, 0))
  | none => e = .panicked mustV ∧ w'.heap[b]? = W.heap[b]?) ∧ Kept b W w'

/-- how the loop of understood stands. -/
def UnRel (dm : Nat → ByteArray → Prop) (rf : Nat → ByteArray → Option (ByteArray × ByteArray)) (n : Nat) (s : ByteArray) (R : Option (List ByteArray)) (d : Nat) (W w2 : World) (v i : Value) (wr : World) : Prop :=
  ∃ (k : Nat) (done : List ByteArray) (rest : ByteArray), k ≤ n ∧ i = .int .i64 k ∧ done.length = k ∧ wr.ownsRow w2.heap.size 9 1 v k (baV done) ∧ Rd wr d rest ∧ rest.size ≤ 1000000 ∧ (∀ x ∈ done, x.size ≤ 1000000) ∧ Hid (k < n → dm k rest) ∧
    Hid (R = (readP rf (n - k) k rest).map fun r => done ++ r) ∧ Kept d w2 wr ∧ Below d W wr

theorem kept_then {d : Nat} {w2 w1 w3 : World} (k : Kept d w2 w1) (h : Below w2.heap.size w1 w3) : Kept d w2 w3 :=
  ⟨h.os.trans k.os, h.tape.trans k.tape, h.output.trans k.output, Nat.le_trans k.size h.size, fun b hb hd => (h.block b hb).trans (k.same b hb hd)⟩
theorem kept_cell {d : Nat} {W W' : World} (h : Kept d W W') {a : Addr} (ha : a.block < W.heap.size) (hd : a.block ≠ d) : W'.cell? a = W.cell? a := by
  have := h.same a.block ha hd
  simp [World.cell?, this]
theorem PartsIn.kept {d g n : Nat} {P : Nat → Part} {W W' : World} (h : PartsIn W g n P) (k : Kept d W W') (hgd : g ≠ d) : PartsIn W' g n P :=
  ⟨fun h0 => Nat.lt_of_lt_of_le (h.lt h0) k.size, fun j hj => (kept_cell k (h.lt (by omega)) hgd).trans (h.c0 j hj), fun j hj => (kept_cell k (h.lt (by omega)) hgd).trans (h.c1 j hj), fun j hj => (kept_cell k (h.lt (by omega)) hgd).trans (h.c2 j hj), fun j hj => (kept_cell k (h.lt (by omega)) hgd).trans (h.c3 j hj)⟩

set_option maxRecDepth 100000 in
set_option maxHeartbeats 4000000 in
theorem under1_in (W : World) (bt bk bd n : Nat) (hn : n ≤ 20) (k : Int) (s : ByteArray) (hs : s.size ≤ 1000000) (v0 : ByteArray) (dm : Nat → ByteArray → Prop) (hdm0 : dm 0 s) (rf : Nat → ByteArray → Option (ByteArray × ByteArray))
    (ht : W.heap[bt]? = some (.cells #[.string s] 9 (0, 0))) (hk : W.heap[bk]? = some (.cells #[.int .i64 k] 3 (0, 0))) (hd : W.heap[bd]? = some (.cells #[.string v0] 9 (0, 0)))
    (hG : Glob W) (hrf : ∀ k s q, rf k s = some q → s.size ≤ 1000000 → q.1.size ≤ 1000000 ∧ q.2.size ≤ 1000000)
    (hdmS : ∀ k s q, dm k s → rf k s = some q → dm (k + 1) q.2)
    (hparts : ∀ w, Glob w → Calls Tryz.prog 47 #[.int .i64 k] w fun e w' => ReadsPost n dm rf w e w') :
    Calls Tryz.prog 53 #[boxV bt, boxV bk, boxV bd] W fun e w' => UnderPost (readP rf n 0 s) bd W e w' := by
  have ct := box_cell ht
  have hal : ∀ o, Below W.heap.size W (W.alloc o) := fun o => (Below.refl _ _).alloc (Nat.le_refl _) o
  have ck : ∀ o, (W.alloc o).cell? ⟨bk, 0, none⟩ = some (.int .i64 k) := fun o => ((hal o).cell (p := ⟨bk, 0, none⟩) (box_lt hk)).trans (box_cell hk)
  have HPA := Hid.mk hparts
  clear hparts
  obtain ⟨i0, hi, hz0, hz1, hz2⟩ := info_parts info9
  obtain ⟨R, hR⟩ : ∃ R, readP rf n 0 s = R := ⟨_, rfl⟩
  rw [hR]
  have HR := Hid.mk hR
  clear hR
  go_enter Tryz.func53, Tryz.ntmps53
  go_wp2_with fail
  refine (HPA.out _ (hG.below (hal _))).mono ?_
  rintro e w2 ⟨g, P, rfl, hg, hP, hen, hread, hb2⟩
  have hrd2 : Rd w2 W.heap.size s := (hb2.block _ (by simp)).trans (heap_new _ _)
  have hbW2 : Below W.heap.size W w2 := (hal _).trans (hb2.mono (hal _).size)
  have hs2 := hb2.size
  simp only [World.size_alloc] at hs2 hg
  have HREAD := Hid.mk hread
  have HEN := Hid.mk hen
  have HRF := Hid.mk hrf
  clear hread hen hrf
  go_wp2
  go_loopw [4, 13] (fun v i wr => UnRel dm rf n s R W.heap.size W w2 v i wr) (fun _ i _ => n - (intOf i).toNat)
  case atStart =>
    refine ⟨0, [], s, Nat.zero_le _, rfl, rfl, World.ownsRow_nil .., hrd2, hs, by simp, fun _ => hdm0, ?_, Kept.refl _ _, hbW2⟩
    rw [Hid, Nat.sub_zero, HR.out]
    cases R <;> rfl
  case round =>
    obtain ⟨m, done, rest, hm, rfl, hdl, hrow, hrd, hrz, hdz, hdm, hcut, hkp, hbl⟩ := hrel
    have hswr := Nat.le_trans hs2 hkp.size
    by_cases hlt : m < n
    · have hPk := hP.kept hkp (by omega)
      have c0 := hPk.c0 m hlt
      have c1 := hPk.c1 m hlt
      have c2 := hPk.c2 m hlt
      have c3 := hPk.c3 m hlt
      have hgl := hPk.lt (by omega)
      have hent := HEN.out m hlt
      have hcall := HREAD.out m hlt
      have hcs : readP rf (n - m) m rest = match rf m rest with
          | none => none
          | some q => (readP rf (n - (m + 1)) (m + 1) q.2).map fun r => q.1 :: r := by
        rw [show n - m = n - (m + 1) + 1 by omega]; rfl
      have HCS := Hid.mk (hcut.out.trans (by rw [hcs]))
      clear hcs hcut
      generalize P m = pk at c0 c1 c2 c3 hent hcall
      obtain ⟨fp, cp, ft, ct', fr, cr, nmb⟩ := pk
      dsimp only [Enters] at c0 c1 c2 c3 hent hcall
      have hbn : Below W.heap.size W (wr.alloc (.cells #[fnV fp cp, fnV ft ct', fnV fr cr, .bool nmb] 86)) := hbl.alloc (by omega) _
      have hkn : Kept W.heap.size w2 (wr.alloc (.cells #[fnV fp cp, fnV ft ct', fnV fr cr, .bool nmb] 86)) := hkp.trans (Kept.of_below ((Below.refl _ _).alloc (Nat.le_refl _) _))
      have hrn : Rd (wr.alloc (.cells #[fnV fp cp, fnV ft ct', fnV fr cr, .bool nmb] 86)) W.heap.size rest := hrd.below ((Below.refl _ _).alloc (Nat.le_refl _) _)
      have HC2 := Hid.mk (hcall _ W.heap.size rest hkn (by simp) (fun W'' hk' => hG.below (hbn.trans (hk'.below (Nat.le_refl _) (by simp; omega)))) hrn hrz (hdm.out hlt))
      have hrow2 : (wr.alloc (.cells #[fnV fp cp, fnV ft ct', fnV fr cr, .bool nmb] 86)).ownsRow w2.heap.size 9 1 u4 m (baV done) := hrow.alloc _
      clear hcall
      cases hpk : rf m rest with
      | none =>
        rw [hpk] at HCS HC2
        go_wp2_with fail
        refine HC2.out.mono ?_
        rintro e w1 ⟨rfl, hk1⟩
        go_wp2
        have hbl1 : Below W.heap.size W w1 := hbn.trans (hk1.below (Nat.le_refl _) (by simp; omega))
        refine ⟨rfl, ?_⟩
        have hRn : R = none := by rw [HCS.out]; rfl
        rw [hRn]
        exact ⟨⟨rfl, hbl1.block bd (box_lt hd)⟩, Kept.of_below hbl1⟩
      | some q =>
        obtain ⟨q1, q2⟩ := q
        have hqz := HRF.out m rest _ hpk hrz
        have HDN : Hid (dm (m + 1) q2) := hdmS m rest _ (hdm.out hlt) hpk
        rw [hpk] at HCS HC2
        have HCN : Hid (R = (readP rf (n - (m + 1)) (m + 1) q2).map fun r => (done ++ [q1]) ++ r) := by
          rw [Hid, HCS.out]
          show Option.map _ (Option.map _ _) = _
          rw [Option.map_map]
          congr 1
          funext r
          simp
        clear HCS
        go_wp2_with fail
        refine HC2.out.mono ?_
        rintro e w1 ⟨rfl, hrd1, hk1⟩
        have hrow1 := row_kept' hrow2 hk1 (by omega)
        have hbl1 : Below W.heap.size W w1 := hbn.trans (hk1.below (Nat.le_refl _) (by simp; omega))
        have hk1' : Kept W.heap.size w2 w1 := hkn.trans hk1
        have hs1 := Nat.le_trans hs2 hk1'.size
        have hs1' := hk1'.size
        clear hrow2 hrow hrd hrn hbn hkn hk1 hkp hbl c0 c1 c2 c3 HC2 hent hPk hpk
        go_wp2_with (at_builtin; refine wpList_append_own _ rfl _ _ 61 rfl w2.heap.size 9 i0 (.string ⟨#[]⟩) 1 16 Tryz.underlying61 hi hz0 hz1 hz2 rfl (by decide) _ _ _ rfl (hrow1.alloc _) ⟨w1.heap.size, 0, none⟩ 1 1 [.string q1] rfl rfl (cell_one_new _ _ _) (by simp [Value.oneCell']) (by unfold maxLen; omega) (by omega) (by simp; omega) ?_; intro v1 w3 hown3 hgrow3 _)
        go_roundw
        case rel =>
          have h3 : Below w2.heap.size w1 w3 := ((Below.refl _ w1).alloc hs1' _).grown hgrow3 (by simp; omega) (rowBaseB hrow1)
          refine ⟨m + 1, done ++ [q1], q2, by omega, by go_num, by simp [hdl], ?_, (h3.block _ (by omega)).trans hrd1, hqz.2, ?_, fun _ => HDN.out, HCN, kept_then hk1' h3, hbl1.trans (h3.mono (by omega))⟩
          · rw [baV, List.map_append]; exact hown3
          · intro y hy
            rcases List.mem_append.1 hy with h | h
            · exact hdz y h
            · simp only [List.mem_singleton] at h; subst h; exact hqz.1
        case measure => simp [intOf]; omega
    · obtain rfl : m = n := by omega
      have hRv : R = some done := by
        rw [hcut.out, Nat.sub_self]; simp [readP]
      rw [← hdl] at hrow
      have hjl := join_len [] done 1000000 hdz
      have HJ := Hid.mk (join_row ⟨#[]⟩ hrow (by omega) (by
        refine Nat.le_trans hjl ?_
        refine Nat.le_trans (Nat.mul_le_mul_right _ (show done.length ≤ 20 by omega)) ?_
        decide))
      obtain ⟨qw, cw, hqw⟩ := row_as hrow
      subst hqw
      have HD : Hid (∀ w3, Below wr.heap.size wr w3 → w3.heap[bd]? = some (.cells #[.string v0] 9 (0, 0)) ∧ Below W.heap.size W w3) := by
        intro w3 hb3
        have hbl3 : Below W.heap.size W w3 := hbl.trans (hb3.mono (by omega))
        exact ⟨(hbl3.block bd (box_lt hd)).trans hd, hbl3⟩
      have HRV := Hid.mk hRv
      have hdl' : done.length = m := hdl
      rw [hdl'] at HJ
      clear hjl hrow hcut hRv hdl
      go_wp2_with fail
      refine HJ.out.mono ?_
      rintro e w3 ⟨rfl, hb3⟩
      obtain ⟨hd3, hbl3⟩ := HD.out w3 hb3
      have cd3 := box_cell hd3
      have fd3 := box_frozen hd3
      go_wp2
      refine bodyPost_end (results_none rfl _ _ _) rfl ?_
      rw [HRV.out]
      exact ⟨⟨rfl, box_set hd3 _⟩, (Kept.of_below hbl3).trans (Kept.set _ _ _ _)⟩
end Go.Proofs.YtkohkkakbcjgcabGreatDoor
