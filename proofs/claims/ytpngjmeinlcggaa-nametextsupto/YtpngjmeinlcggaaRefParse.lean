/- The document's own Parse (guidepostref01). -/
import Derived.Test.YtpngjmeinlcggaaRefToks
import Derived.Test.YtpngjmeinlcggaaRefEsc
import Derived.Test.YtpngjmeinlcggaaCut
namespace Go.Proofs.Ytpngjmeinlcggaa
set_option linter.unusedVariables false
open Go.RowKit

theorem row_apart {W : World} {n₁ n₂ k m : Nat} {e f : TypeId} {v u : Value} {xs ys : List Value} (h : W.ownsRow n₁ e 1 v k xs) (h' : W.ownsRow n₂ f 1 u m ys) (hne : e ≠ f) : ∀ g, u.ownBlock = some g → v.ownBlock ≠ some g := by
  intro g hu hv
  rcases h.2 with ⟨rfl, _⟩ | ⟨g1, cap1, cur1, rfl, _, hg1, _⟩
  · simp [Value.ownBlock] at hv
  · rcases h'.2 with ⟨rfl, _⟩ | ⟨g2, cap2, cur2, rfl, _, hg2, _⟩
    · simp [Value.ownBlock] at hu
    · simp [Value.ownBlock] at hu hv
      subst hu; subst hv
      rw [hg1] at hg2; cases hg2; exact hne rfl

/-- a row is kept where another row grows. -/
theorem row_kept {W W' : World} {n₁ n₂ k m : Nat} {e f : TypeId} {v u : Value} {xs ys : List Value} (h : W.ownsRow n₁ e 1 v k xs) (h' : W.ownsRow n₂ f 1 u m ys) (hne : e ≠ f) (hg : W.grownBy W' u.ownBlock) : W'.ownsRow n₁ e 1 v k xs := by
  refine ⟨h.1, ?_⟩
  rcases h.2 with hv | ⟨g1, cap1, cur1, rfl, hb, hg1, hr⟩
  · exact .inl hv
  · refine .inr ⟨g1, cap1, cur1, rfl, hb, ?_, hr⟩
    have hlt := (Array.getElem?_eq_some_iff.1 hg1).1
    have : some g1 ≠ u.ownBlock := fun e' => row_apart h h' hne g1 e'.symm rfl
    rw [← hg1]
    obtain ⟨_, _, _, _, hk⟩ := hg
    exact hk g1 hlt this

/-- the bytes of a row as a text. -/
theorem row_text {W : World} {n₀ : Nat} {q : Option Addr} {cap : Nat} {l : List UInt8} (h : W.ownsRow n₀ 5 1 (.slice q l.length cap) l.length (Lib.byteCells l)) (hne : l ≠ []) :
    (convert 56 9 (.slice q l.length cap)).run Try.prog W = .ok (.string ⟨l.toArray⟩) W := by
  rcases h.2 with ⟨h', h0⟩ | ⟨g', cap', cur, hv, _, hg, _, _, _, ht⟩
  · exact absurd (List.length_eq_zero_iff.1 h0) hne
  · cases hv
    refine run_convert_bytes_back (P := Try.prog) W 56 9 5 ⟨g', 0, none⟩ cap l Try.underlying56 Try.underlying5 Try.underlying9 (fun j hj => ?_)
    exact Lib.cells_of_row (w := W) hg l.length j _ (by rw [Nat.mul_one] at ht; rw [ht]; simp [Lib.byteCells, hj])

theorem row_form9 {W : World} {n₀ n : Nat} {e : TypeId} {v : Value} {xs : List Value} (h : W.ownsRow n₀ e 1 v n xs) : ∃ q cap, v = .slice q n cap := by
  rcases h.2 with ⟨rfl, rfl⟩ | ⟨g, cap, cur, hv, _⟩
  · exact ⟨none, 0, rfl⟩
  · exact ⟨_, _, hv⟩

def parOf (R : Option (List (List UInt8))) : List UInt8 × Nat := match R with | none => ([], 7) | some ls => if ls = [] then ([], 7) else ofR ls

/-- how the loop of Parse stands. -/
def ParRel (s : ByteArray) (n₀ : Nat) (w : World) (R : Option (List (List UInt8))) (lv bv i ov : Value) (wr : World) : Prop :=
  ∃ (k : Nat) (ls : List (List UInt8)) (lab : List UInt8), k ≤ s.size ∧ i = .int .i64 k ∧ ov = .bool (decide (lab ≠ [])) ∧ wr.ownsRow n₀ 9 1 lv ls.length (strsV ls) ∧ wr.ownsRow n₀ 5 1 bv lab.length (Lib.byteCells lab) ∧
    Hid (rt (s.size + 1) ls lab (s.data.toList.drop k) = R) ∧ ls.length + lab.length ≤ k ∧ Hid (∀ l ∈ ls, l.length ≤ maxLen) ∧ Below n₀ w wr

set_option maxHeartbeats 4000000 in
theorem rParse_go (s : ByteArray) (hs : s.size ≤ 1048576) (h1 : s.data.toList ≠ [46]) (w : World) :
    Calls Try.prog 19 #[.string s] w fun e w' => e = .returned (resV (rparseR s.data.toList)) ∧ Below w.heap.size w w' := by
  obtain ⟨i0, hi, hz0, hz1, hz2⟩ := info_parts info5
  obtain ⟨j0, ji, jz0, jz1, jz2⟩ := info_parts info9
  obtain ⟨R, hR⟩ : ∃ R, rt (s.data.toList.length + 1) [] [] s.data.toList = R := ⟨_, rfl⟩
  have hP : rparseR s.data.toList = parOf R := by
    rw [← hR]; unfold rparseR parOf; rw [if_neg h1]; rfl
  rw [hP]
  rw [size_list] at hR
  have HR := Hid.mk hR
  have hsd : (s.toList == [46]) = false := by
    rw [beq_eq_false_iff_ne, ByteArray.toList_eq]; exact h1
  clear hR hP h1
  go_enter Try.func19, Try.ntmps19
  go_wp2
  go_loopw [4, 5, 6, 7] (fun lv bv i ov wr => ParRel s w.heap.size w R lv bv i ov wr) (fun _ _ i _ _ => s.size - (intOf i).toNat)
  case atStart => exact ⟨0, [], [], Nat.zero_le _, rfl, rfl, World.ownsRow_nil .., World.ownsRow_nil .., by rw [List.drop_zero]; exact HR, by simp, by simp [Hid], Below.refl _ _⟩
  case round =>
    obtain ⟨k, ls, lab, hk, rfl, rfl, hrL, hrB, hF, hcnt, hml, hbl⟩ := hrel
    have hsize := hbl.size
    obtain ⟨qb, cb, hqb⟩ := row_slice hrB
    subst hqb
    obtain ⟨ql, cl, hql⟩ := (strs_of_row hrL).form
    subst hql
    have hOf : ∀ (n : Nat) (xs : List (List UInt8)) (v : Value) (W : World), xs ≠ [] → R = some xs → W.ownsRow n 9 1 v xs.length (strsV xs) → xs.length ≤ 1048576 → (∀ l ∈ xs, l.length ≤ maxLen) →
        Calls Try.prog 12 #[v] W fun e w' => e = .returned (resV (parOf R)) ∧ Below W.heap.size W w' := by
      intro n xs v W hne hRx hrow hl hm
      have e : parOf R = ofR xs := by rw [hRx, parOf]; exact if_neg hne
      rw [e, ← ofR_rofR]
      exact rOf_any v xs W (strs_of_row hrow) (by unfold maxLen; omega) hm
    have HOf := Hid.mk hOf
    clear hOf
    by_cases hlt : k < s.size
    · have hc8 := s[k].toNat_lt
      have hdr := get_drop s k hlt
      by_cases hdot : s[k].toNat = 46
      · have hdb : ((s[k].toNat : Int) == 46) = true := by rw [hdot]; rfl
        by_cases hlab : lab = []
        · subst hlab
          have hP : Hid (resV (parOf R) = .tuple #[.string ⟨#[]⟩, .int .i64 7]) := by
            have := hF.out
            rw [hdr, rt, if_pos hdot, if_pos rfl] at this
            rw [Hid, ← this]; rfl
          clear hdot hdr hF HOf
          go_wp2
          go_ret2
          exact ⟨by rw [hP.out]; rfl, hbl⟩
        · have hdl : decide (lab ≠ []) = true := by simp [hlab]
          rw [hdl]
          have hN : Hid (rt (s.size + 1) (ls ++ [lab]) [] (s.data.toList.drop (k + 1)) = R) := by
            have := hF.out
            rw [hdr, rt, if_pos hdot, if_neg hlab] at this
            rw [Hid, ← this]
            exact rt_fuel _ _ _ _ _ (by rw [List.length_drop, size_list]; omega) (by rw [List.length_drop, size_list]; omega)
          have hcv := row_text hrB hlab
          have hlp := List.length_pos_iff.2 hlab
          have hLn : (ls ++ [lab]).length = ls.length + 1 := by simp
          have HLn := Hid.mk hLn
          clear hdot hdr hF HOf hdl hLn
          go_wp2_with (at_builtin; refine wpList_append_own _ rfl _ _ 22 rfl w.heap.size 9 j0 (.string ⟨#[]⟩) 1 16 Try.underlying22 ji jz0 jz1 jz2 rfl (by decide) _ _ _ rfl (hrL.alloc _) ⟨wr.heap.size, 0, none⟩ 1 1 [.string ⟨lab.toArray⟩] rfl rfl (cell_one_new _ _ _) (by simp [Value.oneCell']) (by unfold maxLen; omega) (by omega) (by simp; omega) ?_; intro v1 w1 hown1 hgrow1 _)
          go_roundw
          case rel =>
            refine ⟨k + 1, ls ++ [lab], [], by omega, by go_num, rfl, ?_, World.ownsRow_nil .., hN, by rw [HLn.out]; simp; omega, ?_, ?_⟩
            · rw [HLn.out, strsV_append]; exact hown1
            · intro l hl
              rcases List.mem_append.1 hl with h' | h'
              · exact hml.out l h'
              · simp only [List.mem_singleton] at h'; subst h'; unfold maxLen; omega
            · exact (hbl.alloc hsize _).grown hgrow1 (by simp; omega) (rowBase hrL)
          case measure => simp [intOf]; omega
      · have hdb : ((s[k].toNat : Int) == 46) = false := by rw [beq_eq_false_iff_ne]; omega
        have hrs := hF.out
        rw [hdr, rt, if_neg hdot, ← hdr] at hrs
        by_cases hesc : s[k].toNat = 92
        · have heb : ((s[k].toNat : Int) == 92) = true := by rw [hesc]; rfl
          have hlen : (s.extract k s.size).size ≤ maxLen := by rw [ByteArray.size_extract]; unfold maxLen; omega
          have hpos : 0 < (s.extract k s.size).size := by rw [ByteArray.size_extract]; omega
          have htb := tb_size (s.data.toList.drop k)
          have hx0 : (s.extract k s.size)[0].toNat = 92 := by
            have e1 : (s.extract k s.size).data.toList = s[k] :: s.data.toList.drop (k + 1) := by rw [extract_drop, hdr]
            rw [get_of_list e1 0 hpos (by simp)]; exact hesc
          have hE := esc_in (s.extract k s.size) hlen hpos hx0
          rw [extract_drop] at hE
          have HE := Hid.mk hE
          rw [List.length_drop, size_list] at htb
          clear hE hx0 hlen hpos hdr
          generalize hr : tb (s.data.toList.drop k) = r at hrs HE htb
          obtain ⟨rb, rs⟩ := r
          clear hr
          dsimp only at hrs HE htb
          rw [List.drop_drop] at hrs
          have HRS := Hid.mk hrs
          clear hrs hF hdot hesc
          by_cases hz : rs = 0
          · have hP : Hid (resV (parOf R) = .tuple #[.string ⟨#[]⟩, .int .i64 7]) := by
              have := HRS.out
              rw [if_pos hz] at this
              rw [Hid, ← this]; rfl
            subst hz
            clear HRS HOf
            go_wp2_with fail
            refine (HE.out _).mono ?_
            rintro e w1 ⟨rfl, m, rfl⟩
            go_wp2
            go_ret2
            exact ⟨by rw [hP.out]; rfl, below_drewN hbl m⟩
          · have hzb : (((rs : Nat) : Int) == 0) = false := by simp; omega
            have hks : k + rs ≤ s.size := by omega
            have hN : Hid (rt (s.size + 1) ls (lab ++ [rb]) (s.data.toList.drop (k + rs)) = R) := by
              have := HRS.out
              rw [if_neg hz] at this
              rw [Hid, ← this]
              exact rt_fuel _ _ _ _ _ (by rw [List.length_drop, size_list]; omega) (by rw [List.length_drop, size_list]; omega)
            have hrs0 : 0 < rs := by omega
            clear HRS HOf hz
            go_wp2_with fail
            refine (HE.out _).mono ?_
            rintro e w1 ⟨rfl, m, rfl⟩
            have hrB' : (wr.drewN m).ownsRow w.heap.size 5 1 (.slice qb lab.length cb) lab.length (Lib.byteCells lab) := hrB
            have hrL' : (wr.drewN m).ownsRow w.heap.size 9 1 (.slice ql ls.length cl) ls.length (strsV ls) := hrL
            have hbl' := below_drewN hbl m
            clear hrB hrL hbl
            go_wp2_with (at_builtin; refine wpList_append_own _ rfl _ _ 56 rfl w.heap.size 5 i0 (.int .u8 0) 1 1 Try.underlying56 hi hz0 hz1 hz2 rfl (by decide) _ _ _ rfl (row_alloc hrB' _) ⟨wr.heap.size, 0, none⟩ 1 1 [.int .u8 (rb.toNat : Int)] rfl rfl (cell_one_new _ _ _) (by simp [Value.oneCell']) (by unfold maxLen; omega) (by omega) (by simp; omega) ?_; intro v1 w1 hown1 hgrow1 _)
            go_roundw
            case rel =>
              refine ⟨k + rs, ls, lab ++ [rb], hks, by go_num, by simp, row_kept (hrL'.alloc _) (hrB'.alloc _) (by decide) hgrow1, ?_, hN, by simp; omega, hml, ?_⟩
              · rw [List.length_append, byteCells_snoc]; exact hown1
              · exact (hbl'.alloc hbl'.size _).grown hgrow1 (by simp; omega) (own_base hrB')
            case measure => simp [intOf]; omega
        · have heb : ((s[k].toNat : Int) == 92) = false := by rw [beq_eq_false_iff_ne]; omega
          have htb : tb (s.data.toList.drop k) = if plainB s[k] = true then (s[k], 1) else (0, 0) := by rw [hdr]; show (if s[k].toNat ≠ 92 then _ else _) = _; rw [if_pos hesc]
          rw [htb, List.drop_drop] at hrs
          by_cases hp : 33 ≤ s[k].toNat ∧ s[k].toNat ≤ 126
          · have hpb : plainB s[k] = true := by simp [plainB]; omega
            rw [if_pos hpb, if_neg (by simp)] at hrs
            have hN : Hid (rt (s.size + 1) ls (lab ++ [s[k]]) (s.data.toList.drop (k + 1)) = R) := by
              rw [Hid, ← hrs]
              exact rt_fuel _ _ _ _ _ (by rw [List.length_drop, size_list]; omega) (by rw [List.length_drop, size_list]; omega)
            obtain ⟨p1, p2⟩ := hp
            clear hrs htb hpb hF HOf hdr hdot hesc
            go_wp2_with (at_builtin; refine wpList_append_own _ rfl _ _ 56 rfl w.heap.size 5 i0 (.int .u8 0) 1 1 Try.underlying56 hi hz0 hz1 hz2 rfl (by decide) _ _ _ rfl (row_alloc hrB _) ⟨wr.heap.size, 0, none⟩ 1 1 [.int .u8 (s[k].toNat : Int)] rfl rfl (cell_one_new _ _ _) (by simp [Value.oneCell']) (by unfold maxLen; omega) (by omega) (by simp; omega) ?_; intro v1 w1 hown1 hgrow1 _)
            go_roundw
            case rel =>
              refine ⟨k + 1, ls, lab ++ [s[k]], by omega, by go_num, by simp, row_kept (hrL.alloc _) (hrB.alloc _) (by decide) hgrow1, ?_, hN, by simp; omega, hml, ?_⟩
              · rw [List.length_append, byteCells_snoc]; exact hown1
              · exact (hbl.alloc hbl.size _).grown hgrow1 (by simp; omega) (own_base hrB)
            case measure => simp [intOf]; omega
          · have hpb : ¬ plainB s[k] = true := by simp [plainB]; omega
            have hP : Hid (resV (parOf R) = .tuple #[.string ⟨#[]⟩, .int .i64 7]) := by
              rw [if_neg hpb, if_pos rfl] at hrs
              rw [Hid, ← hrs]; rfl
            clear hrs htb hpb hF HOf hdr hdot hesc
            by_cases p1 : s[k].toNat < 33
            · go_wp2
              go_ret2
              exact ⟨by rw [hP.out]; rfl, hbl⟩
            · have p2 : 126 < s[k].toNat := by omega
              go_wp2
              go_ret2
              exact ⟨by rw [hP.out]; rfl, hbl⟩
    · have hd0 : s.data.toList.drop k = [] := List.drop_of_length_le (by rw [size_list]; omega)
      have hRv := hF.out
      rw [hd0, rt] at hRv
      clear hd0 hF
      by_cases hlab : lab = []
      · subst hlab
        rw [if_pos rfl] at hRv
        by_cases hls : ls = []
        · subst hls
          have hP : Hid (resV (parOf R) = .tuple #[.string ⟨#[]⟩, .int .i64 7]) := by
            rw [Hid, ← hRv]; rfl
          clear hRv HOf
          go_wp2
          go_ret2
          exact ⟨by rw [hP.out]; rfl, hbl⟩
        · have hlp := List.length_pos_iff.2 hls
          have hlb : (((ls.length : Nat) : Int) == 0) = false := by simp; omega
          have HO := Hid.mk (HOf.out _ ls _ _ hls hRv.symm hrL (by omega) hml.out)
          clear hRv HOf hls
          go_wp2_with fail
          refine HO.out.mono ?_
          rintro e w1 ⟨rfl, hb1⟩
          dsimp only [resV]
          go_wp2
          go_ret2
          exact ⟨rfl, bthen hbl hb1⟩
      · rw [if_neg hlab] at hRv
        have hdl : decide (lab ≠ []) = true := by simp [hlab]
        rw [hdl]
        have hcv := row_text hrB hlab
        have hlp := List.length_pos_iff.2 hlab
        have HRv := Hid.mk hRv
        have hLn : (ls ++ [lab]).length = ls.length + 1 := by simp
        have HLn := Hid.mk hLn
        have hml2 : Hid (∀ l ∈ ls ++ [lab], l.length ≤ maxLen) := by
          intro l hl
          rcases List.mem_append.1 hl with h' | h'
          · exact hml.out l h'
          · simp only [List.mem_singleton] at h'; subst h'; unfold maxLen; omega
        clear hRv hdl hLn
        go_wp2_with (at_builtin; refine wpList_append_own _ rfl _ _ 22 rfl w.heap.size 9 j0 (.string ⟨#[]⟩) 1 16 Try.underlying22 ji jz0 jz1 jz2 rfl (by decide) _ _ _ rfl (hrL.alloc _) ⟨wr.heap.size, 0, none⟩ 1 1 [.string ⟨lab.toArray⟩] rfl rfl (cell_one_new _ _ _) (by simp [Value.oneCell']) (by unfold maxLen; omega) (by omega) (by simp; omega) ?_; intro v1 w1 hown1 hgrow1 _; obtain ⟨q1, c1, hq1⟩ := row_form9 hown1; subst hq1)
        refine (HOf.out _ (ls ++ [lab]) _ _ (by simp) HRv.out.symm (by rw [HLn.out, strsV_append]; exact hown1) (by rw [HLn.out]; omega) hml2.out).mono ?_
        rintro e w2 ⟨rfl, hb2⟩
        dsimp only [resV]
        go_wp2
        go_ret2
        exact ⟨rfl, bthen ((hbl.alloc hsize _).grown hgrow1 (by simp; omega) (rowBase hrL)) hb2⟩

end Go.Proofs.Ytpngjmeinlcggaa
