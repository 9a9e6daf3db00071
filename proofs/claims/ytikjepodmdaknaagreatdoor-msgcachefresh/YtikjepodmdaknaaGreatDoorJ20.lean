/- Texts of this proof, joined: RcH, RcE, RcV, RcJ, RcQ. -/
import Derived.Test.YtikjepodmdaknaaGreatDoorJ17
import Derived.Test.YtikjepodmdaknaaGreatDoorJ19
set_option linter.unusedVariables false
set_option linter.unusedSimpArgs false
/- Layer 16: the small calls of a cache. -/
namespace Go.Proofs.YtikjepodmdaknaaGreatDoor.Rc
open Go.RowKit
theorem isRank_in (n : Int) (W : World) : Calls Tryz.prog 39 #[.int .i64 n] W fun e w' => e = .returned (.bool (rnkB n)) ∧ w' = W := by
 by_cases h0 : 1 ≤ n
 ·have e : rnkB n = decide (n ≤ 4) := by unfold rnkB; rw [decide_eq_true h0, Bool.true_and]
  rw [e]
  go_enter Tryz.func39, Tryz.ntmps39
  go_wp2
  go_ret
  exact ⟨rfl, rfl⟩
 ·have e : rnkB n = false := by unfold rnkB; rw [decide_eq_false h0, Bool.false_and]
  rw [e]
  go_enter Tryz.func39, Tryz.ntmps39
  go_wp2
  go_ret
  exact ⟨rfl, rfl⟩
theorem isSec_in (n : Int) (W : World) : Calls Tryz.prog 40 #[.int .i64 n] W fun e w' => e = .returned (.bool (secB n)) ∧ w' = W := by
 by_cases h0 : 0 ≤ n
 ·have e : secB n = decide (n ≤ 3) := by unfold secB; rw [decide_eq_true h0, Bool.true_and]
  rw [e]
  go_enter Tryz.func40, Tryz.ntmps40
  go_wp2
  go_ret
  exact ⟨rfl, rfl⟩
 ·have e : secB n = false := by unfold secB; rw [decide_eq_false h0, Bool.false_and]
  rw [e]
  go_enter Tryz.func40, Tryz.ntmps40
  go_wp2
  go_ret
  exact ⟨rfl, rfl⟩
theorem isTime_in (n : Int) (W : World) : Calls Tryz.prog 41 #[.int .i64 n] W fun e w' => e = .returned (.bool (timB n)) ∧ w' = W := by
 by_cases h0 : 0 ≤ n
 ·have e : timB n = (n / 2 ^ 32 == 0) := by
   unfold timB
   rw [decide_eq_true h0, Bool.true_and]
   by_cases h : n ≤ 4294967295
   ·rw [decide_eq_true h]
    have : n / 2 ^ 32 = 0 := by omega
    rw [this]
    rfl
   ·rw [decide_eq_false h]
    have : ¬ n / 2 ^ 32 = 0 := by omega
    simpa using this
  rw [e]
  go_enter Tryz.func41, Tryz.ntmps41
  go_wp2
  go_ret
  exact ⟨rfl, rfl⟩
 ·have e : timB n = false := by unfold timB; rw [decide_eq_false h0, Bool.false_and]
  rw [e]
  go_enter Tryz.func41, Tryz.ntmps41
  go_wp2
  go_ret
  exact ⟨rfl, rfl⟩
set_option maxRecDepth 100000 in
theorem keyOf_in (n : ByteArray) (k : Int) (hn : n.size ≤ maxLen) (W : World) : Calls Tryz.prog 42 #[.string n, .int .i64 k] W fun e w' => e = .returned (kV (keyS n k)) ∧ Below W.heap.size W w' := by
 have HL := Hid.mk (nlower_in n hn)
 have X0 := Bx.new W [.string ⟨#[]⟩, .int .i64 0] 94
 unfold keyS
 generalize lowF n = l at HL ⊢
 go_enter Tryz.func42, Tryz.ntmps42
 go_wp2_with fail
 refine (HL.out _).mono ?_
 rintro e w1 ⟨rfl, hb1⟩
 have X1 := X0.blk hb1
 have x0 := X1.cell 0 _ rfl
 have x1 := X1.cell 1 _ rfl
 have f0 : w1.frozen? ⟨W.heap.size, 0, none⟩ = false := by unfold World.frozen?; rw [X1.hb]; simp
 have f1 : w1.frozen? ⟨W.heap.size, 1, none⟩ = false := by unfold World.frozen?; rw [X1.hb]; simp
 have hb := X1.bel
 have HX := Hid.mk X1.hb
 have HB := Hid.mk hb
 clear hb1 X0 X1 hb
 go_wp2
 refine bodyPost_ret (results_cell_row Tryz.results42 _ _ W.heap.size 94 _ (0, 0) _ (by rfl) (hset (hset HX.out _ _) _ _) Tryz.underlying94 rfl (by kernel_rfl)) rfl ?_
 exact ⟨rfl, (HB.out.setCell (p := ⟨_, _, _⟩) (Nat.le_refl _) _).setCell (p := ⟨_, _, _⟩) (Nat.le_refl _) _⟩
theorem over_in {w : World} {Q : Nat → Prop} {b : Nat} {x : Ev} (h : EvAt w Q b x) (now : Int) : Calls Tryz.prog 44 #[pt b, .int .i64 now] w fun e w' => e = .returned (.bool (over x now)) ∧ w' = w := by
 obtain ⟨qd, cd, qg, cg, hb, _⟩ := h
 have c9 : w.cell? ⟨b, 9, none⟩ = some (.int .i64 x.un) := by rw [So.cell_blk hb]; rfl
 clear hb
 unfold over
 generalize x.un = u at c9 ⊢
 go_enter Tryz.func44, Tryz.ntmps44
 go_wp2
 go_ret
 exact ⟨rfl, rfl⟩
theorem rlen_in {W w : World} {C T m n : Nat} {ver : Int} {l : ML} {Q : Nat → Prop} (h : RC W w C T m n ver l Q) : Calls Tryz.prog 22 #[pt C] w fun e w' => e = .returned (.int .i64 (l.length : Int)) ∧ w' = w := by
 have c0 : w.cell? ⟨C, 0, none⟩ = some (pt T) := by rw [So.cell_blk h.bx]; rfl
 have HL := Hid.mk (len_kv h.tab)
 rw [List.length_map] at HL
 clear h
 go_enter Tryz.func22, Tryz.ntmps22
 go_wp2_with fail
 refine HL.out.mono ?_
 rintro e w1 ⟨rfl, rfl⟩
 go_wp2
 go_ret
 exact ⟨rfl, rfl⟩
theorem rnew_no (w : World) (m : Int) (h : m < 1 ∨ 100000 < m) : Calls Tryz.prog 10 #[.int .i64 m] w fun e w' => e = .returned (.tuple #[nilP, .int .i64 1]) ∧ w' = w := by
 have HN := Hid.mk (new_no w m h)
 clear h
 go_enter Tryz.func10, Tryz.ntmps10
 go_wp2_with fail
 refine HN.out.mono ?_
 rintro e w1 ⟨rfl, rfl⟩
 go_wp2
 go_ret2
 exact ⟨rfl, rfl⟩
theorem rnew_in (w : World) (m : Nat) (h1 : 1 ≤ m) (h2 : m ≤ 100000) : Calls Tryz.prog 10 #[.int .i64 (m : Int)] w fun e w' => ∃ C T, e = .returned (.tuple #[pt C, .int .i64 0]) ∧ RC w w' C T m 0 0 [] (fun _ => False) := by
 have HN := Hid.mk (new_kv w (m : Int) (by omega) (by omega))
 have HM := Hid.mk (And.intro h1 h2)
 clear h1 h2
 go_enter Tryz.func10, Tryz.ntmps10
 go_wp2_with fail
 refine HN.out.mono ?_
 rintro e w1 ⟨rfl, ht, hb⟩
 have HT := Hid.mk ht
 have HB := Hid.mk hb
 clear ht hb
 go_wp2
 go_ret2
 refine ⟨_, w.heap.size + 3, rfl, ?_, HB.out.size, ?_, fun p hp => (by cases hp), fun p hp => (by cases hp), by simp, by simp, by simp, HM.out⟩
 ·exact heap_alloc_new _ _
 ·exact HT.out.blk ((Below.refl _ _).alloc (Nat.le_refl _) _)
theorem rset_in (s : Sv) (hin : SvIn s) (qd : Option Addr) (cd : Nat) (qg : Option Addr) (cg : Nat) (W : World) (hat : SvAt W s qd cd qg cg) : Calls Tryz.prog 38 #[.agg (svC s qd cd qg cg).toArray] W fun e w' => e = .returned (.bool (decide (s.cl = 1) && setOk s)) ∧ Below W.heap.size W w' := by
 have HR : Hid (∀ w, Below W.heap.size W w → Calls Tryz.prog 80 #[.agg (svC s qd cd qg cg).toArray] w fun e w' => e = .returned (.bool (setOk s)) ∧ Below w.heap.size w w') := fun w hb => setRight_in s hin qd cd qg cg w (hat.blk hb)
 have X0 := Bx.new W (svC s qd cd qg cg) 34
 simp only [svC] at X0 HR ⊢
 clear hin hat
 obtain ⟨b1, e1⟩ : ∃ b, setOk s = b := ⟨_, rfl⟩
 rw [e1] at HR ⊢
 clear e1
 have c0 := X0.cells6
 have HB := Hid.mk X0.bel
 clear X0
 generalize s.cl = cl at *
 by_cases h1 : cl = 1
 ·subst h1
  go_enter Tryz.func38, Tryz.ntmps38
  go_wp2_with fail
  refine (HR.out _ HB.out).mono ?_
  rintro e w1 ⟨rfl, hb1⟩
  go_wp2
  go_ret
  exact ⟨by simp, HB.out.trans (hb1.mono HB.out.size)⟩
 ·have e1 : (cl == 1) = false := by simpa using h1
  go_enter Tryz.func38, Tryz.ntmps38
  go_wp2
  go_ret
  exact ⟨by simp [h1], HB.out⟩
end Go.Proofs.YtikjepodmdaknaaGreatDoor.Rc
/- Layer 16: two lists of texts, wherever they lie: slices.Equal. -/
namespace Go.Proofs.YtikjepodmdaknaaGreatDoor.Rc
open Go.RowKit
set_option maxRecDepth 100000 in
set_option maxHeartbeats 2000000 in
theorem equal_tx (W : World) (a b : List ByteArray) (qa : Option Addr) (ca : Nat) (qb : Option Addr) (cb : Nat) (ha : TxAt W qa a) (hb : TxAt W qb b) (hla : a.length ≤ 1000) (hlb : b.length ≤ 1000) (hca : a.length ≤ ca ∧ ca ≤ maxLen) (hcb : b.length ≤ cb ∧ cb ≤ maxLen) :
  Calls Tryz.prog 82 #[.slice qa a.length ca, .slice qb b.length cb] W fun e w' => e = .returned (.bool (decide (a = b))) ∧ Below W.heap.size W w' := by
 have hmo : Tryz.prog.follows Departure.mixedOrders = true := by kernel_rfl
 obtain ⟨D, hDe⟩ : ∃ D, decide (a = b) = D := ⟨_, rfl⟩
 rw [hDe]
 have HDE := Hid.mk hDe
 clear hDe
 have hcax : ca ≤ 9223372036854775807 := by unfold maxLen at hca; omega
 have hcbx : cb ≤ 9223372036854775807 := by unfold maxLen at hcb; omega
 by_cases hn : a.length = b.length
 ·have HCA : Hid (∀ i, i < a.length → ∃ (g off : Nat) (d : ByteArray), qa = some ⟨g, off, none⟩ ∧ Hid (a[i]? = some d ∧ d ∈ a) ∧ Hid (∀ w, Below W.heap.size W w → w.cell? ⟨g, off + i, none⟩ = some (.string d))) := fun i hi => tx_cell ha i hi
  have HCB : Hid (∀ i, i < b.length → ∃ (g off : Nat) (d : ByteArray), qb = some ⟨g, off, none⟩ ∧ Hid (b[i]? = some d ∧ d ∈ b) ∧ Hid (∀ w, Below W.heap.size W w → w.cell? ⟨g, off + i, none⟩ = some (.string d))) := fun i hi => tx_cell hb i hi
  have HN := Hid.mk hn
  have hnb : ((a.length : Int) != (b.length : Int)) = false := by rw [hn]; simp
  clear ha hb hn
  go_enter Tryz.func82, Tryz.ntmps82
  go_wp2
  go_loopw [13] (fun iv wr => ∃ m : Nat, m ≤ a.length ∧ iv = .int .i64 m ∧ Hid (a.take m = b.take m) ∧ Below W.heap.size W wr) (fun iv _ => a.length - (intOf iv).toNat)
  case atStart => exact ⟨0, Nat.zero_le _, rfl, rfl, Below.refl _ _⟩
  case round =>
   obtain ⟨m, hm, rfl, HE, hbl⟩ := hrel
   by_cases hlt : m < a.length
   ·have hltb : m < b.length := by have := HN.out; omega
    obtain ⟨ga, oa, x, hqa, hax, hxa⟩ := HCA.out m hlt
    obtain ⟨gb, ob, y, hqb, hby, hxb⟩ := HCB.out m hltb
    subst hqa hqb
    have cA := hxa.out _ hbl
    have cB := hxb.out _ hbl
    have hi0 : (0 : Int) ≤ (m : Int) := by omega
    have hi1 : (m : Int) < (a.length : Int) := by omega
    have hi2 : (m : Int) < (b.length : Int) := by omega
    have hax1 : a[m] = x := by have := hax.out.1; rw [List.getElem?_eq_getElem hlt] at this; exact Option.some.inj this
    have hby1 : b[m] = y := by have := hby.out.1; rw [List.getElem?_eq_getElem hltb] at this; exact Option.some.inj this
    have HTA : Hid (a.take (m + 1) = a.take m ++ [x]) := by rw [Hid, ← hax1]; exact List.take_succ_eq_append_getElem hlt
    have HTB : Hid (b.take (m + 1) = b.take m ++ [y]) := by rw [Hid, ← hby1]; exact List.take_succ_eq_append_getElem hltb
    have HNE : Hid (x ≠ y → a ≠ b) := by
     intro h e
     subst e
     exact h (hax1.symm.trans hby1)
    clear hxa hxb hax1 hby1 hax hby
    by_cases hxy : x = y
    ·subst hxy
     have hs1 : (x.toList == x.toList) = true := by simp
     have hs2 : (x.toList != x.toList) = false := by simp
     have HNX : Hid (a.take (m + 1) = b.take (m + 1)) := by rw [Hid, HTA.out, HTB.out, HE.out]
     go_wp2
     go_region
     go_wp2
     exact ⟨⟨m + 1, by omega, by go_num, HNX, hbl.drew⟩, by simp [intOf]; omega⟩
    ·obtain ⟨hs1, hs2⟩ := ba_ne hxy
     have HD : Hid (D = false) := by rw [Hid, ← HDE.out, decide_eq_false_iff_not]; exact HNE.out hxy
     clear hxy
     go_wp2
     go_region
     go_wp2
     go_ret
     exact ⟨by rw [HD.out]; rfl, hbl.drew⟩
   ·obtain rfl : m = a.length := by omega
    have hab : a = b := by
     have := HE.out
     rw [List.take_length] at this
     rw [HN.out, List.take_length] at this
     exact this
    have HD : Hid (D = true) := by rw [Hid, ← HDE.out, decide_eq_true_iff]; exact hab
    clear hab
    go_wp2
    go_ret
    exact ⟨by rw [HD.out]; rfl, hbl⟩
 ·have HD : Hid (D = false) := by rw [Hid, ← HDE.out, decide_eq_false_iff_not]; exact fun e => hn (by rw [e])
  have hnb : ((a.length : Int) != (b.length : Int)) = true := by rw [bne_iff_ne]; omega
  clear hn ha hb
  go_enter Tryz.func82, Tryz.ntmps82
  go_wp2
  go_ret
  exact ⟨by rw [HD.out]; rfl, Below.refl _ _⟩
end Go.Proofs.YtikjepodmdaknaaGreatDoor.Rc
/- Layer 16: a set's version. -/
namespace Go.Proofs.YtikjepodmdaknaaGreatDoor.Rc
open Go.RowKit
structure VerP (w w' : World) (C T : Nat) (v : Int) : Prop where
 bx : w'.heap[C]? = some (.cells #[pt T, .int .i64 v] 97 (0, 0))
 same : ∀ b, b < w.heap.size → b ≠ C → w'.heap[b]? = w.heap[b]?
 bel : ∀ B, B ≤ C → B ≤ w.heap.size → Below B w w'
theorem VerP.of_below {w w' : World} {C T : Nat} {v : Int} (h : w.heap[C]? = some (.cells #[pt T, .int .i64 v] 97 (0, 0))) (hb : Below w.heap.size w w') : VerP w w' C T v :=
 ⟨(hb.block C (blk_lt h)).trans h, fun b hl _ => hb.block b hl, fun B _ hB => hb.mono hB⟩
theorem VerP.put {w w' : World} {C T : Nat} {v v' : Int} (h : VerP w w' C T v) : VerP w (w'.setCell ⟨C, 1, none⟩ (.int .i64 v')) C T v' :=
 ⟨hset h.bx 1 _, fun b hl hn => (Below.heap_setCell _ _ _ _ hn).trans (h.same b hl hn), fun B h1 h2 => (h.bel B h1 h2).setCell (p := ⟨_, _, _⟩) h1 _⟩
theorem VerP.frc {w w' : World} {C T : Nat} {v : Int} (h : VerP w w' C T v) (hc : ∃ u : Int, w.heap[C]? = some (.cells #[pt T, .int .i64 u] 97 (0, 0))) : FrC T w w' := by
 obtain ⟨u, hu⟩ := hc
 refine ⟨(h.bel 0 (Nat.zero_le _) (Nat.zero_le _)).size, fun b c t f hb _ _ h3 => (h.same b (blk_lt hb) (fun e => ?_)).trans hb, fun M hM => ?_⟩
 ·subst e
  rw [hu] at hb
  cases hb
  exact h3 rfl
 ·have hTC : T ≠ C := fun e => by
   subst e
   rw [So.cell_blk hu] at hM
   simp at hM
  have hT : T < w.heap.size := by
   unfold World.cell? at hM
   cases hb : w.heap[T]? with
   | none => rw [show (⟨T, 3, none⟩ : Addr).block = T from rfl, hb] at hM; simp at hM
   | some o => exact blk_lt hb
  refine ⟨(cell_same (h.same T hT hTC)).trans hM, fun b es cl _ hb => (h.same b (blk_lt hb) (fun e => ?_)).trans hb⟩
  subst e
  rw [hu] at hb
  cases hb
theorem keeps_some (x : Ev) (s : Sv) : keeps (some x) s = (decide (x.s.sg = s.sg) && sameS x.s s) := rfl
theorem ver_new {o : Option Ev} {s : Sv} {ver : Int} (h : keeps o s = false) : verN ver o s = ver + 1 ∧ verC ver o s = ver + 1 := by
 cases o with
 | none => exact ⟨rfl, rfl⟩
 | some x =>
  simp [verN, verC, h]
theorem ver_old {x : Ev} {s : Sv} {ver : Int} (h : keeps (some x) s = true) : verN ver (some x) s = x.ve ∧ verC ver (some x) s = ver := by
 unfold verN verC
 simp only [h, if_true, and_self]
set_option maxRecDepth 100000 in
set_option maxHeartbeats 4000000 in
theorem version_none {w : World} {C T : Nat} {ver : Int} (h : w.heap[C]? = some (.cells #[pt T, .int .i64 ver] 97 (0, 0))) (hv : 0 ≤ ver ∧ ver < 4611686018427387904) (s : Sv) (qd : Option Addr) (cd : Nat) (qg : Option Addr) (cg : Nat) :
  Calls Tryz.prog 47 #[pt C, .agg (svC s qd cd qg cg).toArray, nilP] w fun e w' => e = .returned (.int .i64 (ver + 1)) ∧ VerP w w' C T (ver + 1) := by
 obtain ⟨V, hV⟩ : ∃ V, w.alloc (.cells (svC s qd cd qg cg).toArray 34) = V := ⟨_, rfl⟩
 have bV : Below w.heap.size w V := by rw [← hV]; exact (Below.refl _ _).alloc (Nat.le_refl _) _
 have HP : Hid (VerP w V.drew C T ver) := VerP.of_below h bV.drew
 have gV := HP.out.bx
 have cv : V.cell? ⟨C, 1, none⟩ = some (.int .i64 ver) := by rw [So.cell_blk (w := V) gV]; rfl
 have cf : V.frozen? ⟨C, 1, none⟩ = false := by unfold World.frozen?; rw [show V.heap[C]? = _ from gV]; simp
 have hw : IntKind.i64.wrap (ver + 1) = ver + 1 := by rw [IntKind.wrap_i64]; omega
 simp only [svC] at hV ⊢
 have HV := Hid.mk hV
 clear h hV bV gV hv
 go_enter Tryz.func47, Tryz.ntmps47
 go_upto_region 1 with fail
 rw [HV.out]
 have hT : Hid (True) := trivial
 refine wp_region_held_drew (S := fun _ : World => True) (by kernel_rfl) trivial (fun hHeld => ?_)
 refine wU (i := 0) (v := ?vn_0) rfl ?yn_0 (by assumption) ?_
 case yn_0 => (intro w hSw; (try dsimp only at hSw); go_simp; try with_reducible rfl)
 try simp only [Act.put, List.getElem_toArray, List.getElem_cons_succ, List.getElem_cons_zero, List.setIfInBounds_toArray, List.set_cons_zero, List.set_cons_succ]
 refine wpAnyH_take (i := 1) (v := .bool false) rfl (by kernel_rfl) (by kernel_rfl) (by kernel_rfl) (fun _ _ _ h => h) (Or.inl ⟨by kernel_rfl, ?yn_1⟩) (by assumption) ?_
 case yn_1 => (intro w hSw; (try dsimp only at hSw); go_simp; try with_reducible rfl)
 refine wpAnyH_take (i := 2) (v := .bool false) rfl (by kernel_rfl) (by kernel_rfl) (by kernel_rfl) (fun _ _ _ h => h) (Or.inl ⟨by kernel_rfl, ?yn_2⟩) (by assumption) ?_
 case yn_2 => (intro w hSw; (try dsimp only at hSw); go_simp; try with_reducible rfl)
 try simp only [Act.put, List.getElem_toArray, List.getElem_cons_succ, List.getElem_cons_zero, List.setIfInBounds_toArray, List.set_cons_zero, List.set_cons_succ]
 refine wT (i := 3) (v := undef) rfl (Or.inr ⟨by kernel_rfl, rfl⟩) (by assumption) ?_
 refine wT (i := 4) (v := undef) rfl (Or.inr ⟨by kernel_rfl, rfl⟩) (by assumption) ?_
 refine wT (i := 5) (v := undef) rfl (Or.inr ⟨by kernel_rfl, rfl⟩) (by assumption) ?_
 refine wT (i := 6) (v := undef) rfl (Or.inr ⟨by kernel_rfl, rfl⟩) (by assumption) ?_
 refine wT (i := 7) (v := undef) rfl (Or.inr ⟨by kernel_rfl, rfl⟩) (by assumption) ?_
 refine wT (i := 8) (v := undef) rfl (Or.inr ⟨by kernel_rfl, rfl⟩) (by assumption) ?_
 refine wT (i := 9) (v := undef) rfl (Or.inr ⟨by kernel_rfl, rfl⟩) (by assumption) ?_
 refine wT (i := 10) (v := undef) rfl (Or.inr ⟨by kernel_rfl, rfl⟩) (by assumption) ?_
 try simp only [Act.put, List.getElem_toArray, List.getElem_cons_succ, List.getElem_cons_zero, List.setIfInBounds_toArray, List.set_cons_zero, List.set_cons_succ]
 refine wpAnyH_take (i := 11) (v := .bool false) rfl (by kernel_rfl) (by kernel_rfl) (by kernel_rfl) (fun _ _ _ h => h) (Or.inl ⟨by kernel_rfl, ?yn_11⟩) (by assumption) ?_
 case yn_11 => (intro w hSw; (try dsimp only at hSw); go_simp; try with_reducible rfl)
 refine wpAnyH_take (i := 12) (v := .bool false) rfl (by kernel_rfl) (by kernel_rfl) (by kernel_rfl) (fun _ _ _ h => h) (Or.inl ⟨by kernel_rfl, ?yn_12⟩) (by assumption) ?_
 case yn_12 => (intro w hSw; (try dsimp only at hSw); go_simp; try with_reducible rfl)
 try simp only [Act.put, List.getElem_toArray, List.getElem_cons_succ, List.getElem_cons_zero, List.setIfInBounds_toArray, List.set_cons_zero, List.set_cons_succ]
 refine wT (i := 13) (v := undef) rfl (Or.inr ⟨by kernel_rfl, rfl⟩) (by assumption) ?_
 refine wT (i := 14) (v := undef) rfl (Or.inr ⟨by kernel_rfl, rfl⟩) (by assumption) ?_
 refine wT (i := 15) (v := undef) rfl (Or.inr ⟨by kernel_rfl, rfl⟩) (by assumption) ?_
 refine wT (i := 16) (v := undef) rfl (Or.inr ⟨by kernel_rfl, rfl⟩) (by assumption) ?_
 refine wT (i := 17) (v := undef) rfl (Or.inr ⟨by kernel_rfl, rfl⟩) (by assumption) ?_
 refine wT (i := 18) (v := undef) rfl (Or.inr ⟨by kernel_rfl, rfl⟩) (by assumption) ?_
 try simp only [Act.put, List.getElem_toArray, List.getElem_cons_succ, List.getElem_cons_zero, List.setIfInBounds_toArray, List.set_cons_zero, List.set_cons_succ]
 refine wpAnyH_take (i := 19) (v := .bool false) rfl (by kernel_rfl) (by kernel_rfl) (by kernel_rfl) (fun _ _ _ h => h) (Or.inl ⟨by kernel_rfl, ?yn_19⟩) (by assumption) ?_
 case yn_19 => (intro w hSw; (try dsimp only at hSw); go_simp; try with_reducible rfl)
 try simp only [Act.put, List.getElem_toArray, List.getElem_cons_succ, List.getElem_cons_zero, List.setIfInBounds_toArray, List.set_cons_zero, List.set_cons_succ]
 refine wpAnyH_done (by kernel_rfl) ?_ _
 clear hHeld hT
 go_wp2
 go_ret
 exact ⟨rfl, HP.out.put⟩
set_option maxRecDepth 100000 in
set_option maxHeartbeats 8000000 in
theorem version_some {w : World} {Q : Nat → Prop} {C T n b : Nat} {ver : Int} (h : w.heap[C]? = some (.cells #[pt T, .int .i64 ver] 97 (0, 0))) (hv : 0 ≤ ver ∧ ver < 4611686018427387904) (x : Ev) (hx : EvAt w Q b x) (hi : EvI n x) (s : Sv) (hs : SvIn s) (hok : setOk s = true) (qd : Option Addr) (cd : Nat) (qg : Option Addr) (cg : Nat) (hat : SvAt w s qd cd qg cg) :
  Calls Tryz.prog 47 #[pt C, .agg (svC s qd cd qg cg).toArray, pt b] w fun e w' => e = .returned (.int .i64 (verN ver (some x) s)) ∧ VerP w w' C T (verC ver (some x) s) := by
 obtain ⟨q1, c1, q2, c2, hb, hd1, hg1, hc1, hc2⟩ := hx
 have hbl := blk_lt hb
 obtain ⟨N, hN⟩ : ∃ N, w.heap.size = N := ⟨_, rfl⟩
 have hsm := data_small hi.ok
 have hsm2 := data_small hok
 obtain ⟨V, hV⟩ : ∃ V, w.alloc (.cells (svC s qd cd qg cg).toArray 34) = V := ⟨_, rfl⟩
 have bV : Below N w V := by rw [← hV, ← hN]; exact (Below.refl _ _).alloc (Nat.le_refl _) _
 have sV : V.heap.size = N + 1 := by rw [← hV]; simp [hN]
 have gV : V.heap[N]? = some (.cells (svC s qd cd qg cg).toArray 34 (0, 0)) := by rw [← hV, ← hN]; exact heap_alloc_new w _
 have HX : Hid (∀ w', Below V.heap.size V w' → (fun w : World => (w.cell? ⟨b, 0, none⟩ = some (.string x.s.nm) ∧ w.cell? ⟨b, 1, none⟩ = some (.int .i64 x.s.ty) ∧ w.cell? ⟨b, 2, none⟩ = some (.int .i64 x.s.cl) ∧ w.cell? ⟨b, 3, none⟩ = some (.int .i64 x.s.tl) ∧ w.cell? ⟨b, 4, none⟩ = some (.slice q1 x.s.ds.length c1) ∧ w.cell? ⟨b, 5, none⟩ = some (.slice q2 x.s.sg.length c2)) ∧ (w.cell? ⟨N, 0, none⟩ = some (.string s.nm) ∧ w.cell? ⟨N, 1, none⟩ = some (.int .i64 s.ty) ∧ w.cell? ⟨N, 2, none⟩ = some (.int .i64 s.cl) ∧ w.cell? ⟨N, 3, none⟩ = some (.int .i64 s.tl) ∧ w.cell? ⟨N, 4, none⟩ = some (.slice qd s.ds.length cd) ∧ w.cell? ⟨N, 5, none⟩ = some (.slice qg s.sg.length cg))) w') := fun w' hw => by
  have g1 := (hw.block N (by omega)).trans gV
  have g2 := (hw.block b (by omega)).trans ((bV.block b (by omega)).trans hb)
  refine ⟨⟨?_, ?_, ?_, ?_, ?_, ?_⟩, ?_, ?_, ?_, ?_, ?_, ?_⟩ <;> first | (rw [So.cell_blk g2]; rfl) | (rw [So.cell_blk g1]; rfl)
 have HV8 : Hid (∀ w', Below V.heap.size V w' → w'.cell? ⟨b, 8, none⟩ = some (.int .i64 x.ve)) := fun w' hw => by
  rw [So.cell_blk ((hw.block b (by omega)).trans ((bV.block b (by omega)).trans hb))]; rfl
 have HB : Hid (∀ w', Below V.heap.size V w' → VerP w w' C T ver) := fun w' hw => VerP.of_below h (by rw [hN]; exact bV.trans (hw.mono (by omega)))
 have HE : Hid (∀ w', Below V.heap.size V w' → Calls Tryz.prog 82 #[.slice q2 x.s.sg.length c2, .slice qg s.sg.length cg] w' fun e w2 => e = .returned (.bool (decide (x.s.sg = s.sg))) ∧ Below w'.heap.size w' w2) := fun w' hw => by
  have bw : Below w.heap.size w w' := by rw [hN]; exact bV.trans (hw.mono (by omega))
  exact equal_tx w' _ _ _ _ _ _ (hg1.at.blk bw) (hat.sg.blk bw) (by omega) (by omega) hc2 hat.cg
 have HS : Hid (∀ w', Below V.heap.size V w' → Calls Tryz.prog 33 #[.agg (svC x.s q1 c1 q2 c2).toArray, .agg (svC s qd cd qg cg).toArray] w' fun e w2 => e = .returned (.bool (sameS x.s s)) ∧ Below w'.heap.size w' w2) := fun w' hw => by
  have bw : Below w.heap.size w w' := by rw [hN]; exact bV.trans (hw.mono (by omega))
  exact setSame_in x.s s hi.sv.sv hs q1 c1 q2 c2 qd cd qg cg w' ((⟨hd1.at, hg1.at, hc1, hc2⟩ : SvAt w x.s q1 c1 q2 c2).blk bw) (hat.blk bw)
 have HF : Hid (∀ w', Below V.heap.size V w' → w'.cell? ⟨C, 1, none⟩ = some (.int .i64 ver) ∧ w'.frozen? ⟨C, 1, none⟩ = false) := fun w' hw => by
  have g := (HB.out _ hw).bx
  refine ⟨by rw [So.cell_blk g]; rfl, ?_⟩
  unfold World.frozen?
  rw [g]
  simp
 have hw : IntKind.i64.wrap (ver + 1) = ver + 1 := by rw [IntKind.wrap_i64]; omega
 obtain ⟨R1, hR1⟩ : ∃ R, decide (x.s.sg = s.sg) = R := ⟨_, rfl⟩
 obtain ⟨R2, hR2⟩ : ∃ R, sameS x.s s = R := ⟨_, rfl⟩
 have hk : keeps (some x) s = (R1 && R2) := by rw [keeps_some, hR1, hR2]
 obtain ⟨rN, hrN⟩ : ∃ r, verN ver (some x) s = r := ⟨_, rfl⟩
 obtain ⟨rC, hrC⟩ : ∃ r, verC ver (some x) s = r := ⟨_, rfl⟩
 have HNo : Hid ((R1 && R2) = false → rN = ver + 1 ∧ rC = ver + 1) := fun e => by rw [← hrN, ← hrC]; exact ver_new (hk.trans e)
 have HYes : Hid ((R1 && R2) = true → rN = x.ve ∧ rC = ver) := fun e => by rw [← hrN, ← hrC]; exact ver_old (hk.trans e)
 rw [hrN, hrC]
 rw [hR1] at HE
 rw [hR2] at HS
 simp only [svC] at hV HS ⊢
 have HV := Hid.mk hV
 have HD0 : Hid (Below V.heap.size V V.drew) := (Below.refl _ _).drew
 clear hb hbl hd1 hg1 hc1 hc2 hsm hsm2 bV sV gV hat hs hok hi hv h hk hrN hrC hR1 hR2 hV
 go_enter Tryz.func47, Tryz.ntmps47
 go_upto_region 1 with fail
 rw [HV.out]
 (try rw [hN])
 clear hN
 refine wp_region_held_drew (S := (fun w : World => (w.cell? ⟨b, 0, none⟩ = some (.string x.s.nm) ∧ w.cell? ⟨b, 1, none⟩ = some (.int .i64 x.s.ty) ∧ w.cell? ⟨b, 2, none⟩ = some (.int .i64 x.s.cl) ∧ w.cell? ⟨b, 3, none⟩ = some (.int .i64 x.s.tl) ∧ w.cell? ⟨b, 4, none⟩ = some (.slice q1 x.s.ds.length c1) ∧ w.cell? ⟨b, 5, none⟩ = some (.slice q2 x.s.sg.length c2)) ∧ (w.cell? ⟨N, 0, none⟩ = some (.string s.nm) ∧ w.cell? ⟨N, 1, none⟩ = some (.int .i64 s.ty) ∧ w.cell? ⟨N, 2, none⟩ = some (.int .i64 s.cl) ∧ w.cell? ⟨N, 3, none⟩ = some (.int .i64 s.tl) ∧ w.cell? ⟨N, 4, none⟩ = some (.slice qd s.ds.length cd) ∧ w.cell? ⟨N, 5, none⟩ = some (.slice qg s.sg.length cg)))) (by kernel_rfl) (HX.out _ HD0.out) (fun hHeld => ?_)
 refine wU (i := 0) (v := ?va_0) rfl ?ya_0 (by assumption) ?_
 case ya_0 => (intro w hSw; (try dsimp only at hSw); go_simp; try with_reducible rfl)
 try simp only [Act.put, List.getElem_toArray, List.getElem_cons_succ, List.getElem_cons_zero, List.setIfInBounds_toArray, List.set_cons_zero, List.set_cons_succ]
 refine wpAnyH_take (i := 1) (v := .bool true) rfl (by kernel_rfl) (by kernel_rfl) (by kernel_rfl) (fun _ _ _ h => h) (Or.inl ⟨by kernel_rfl, ?ya_1⟩) (by assumption) ?_
 case ya_1 => (intro w hSw; (try dsimp only at hSw); go_simp; try with_reducible rfl)
 refine wpAnyH_take (i := 2) (v := .bool true) rfl (by kernel_rfl) (by kernel_rfl) (by kernel_rfl) (fun _ _ _ h => h) (Or.inl ⟨by kernel_rfl, ?ya_2⟩) (by assumption) ?_
 case ya_2 => (intro w hSw; (try dsimp only at hSw); go_simp; try with_reducible rfl)
 try simp only [Act.put, List.getElem_toArray, List.getElem_cons_succ, List.getElem_cons_zero, List.setIfInBounds_toArray, List.set_cons_zero, List.set_cons_succ]
 refine wU (i := 3) (v := ?vb_3) rfl ?yb_3 (by assumption) ?_
 case yb_3 => (intro w hSw; (try dsimp only at hSw); go_simp; try with_reducible rfl)
 refine wU (i := 4) (v := ?vb_4) rfl ?yb_4 (by assumption) ?_
 case yb_4 => (intro w hSw; (try dsimp only at hSw); go_simp; try with_reducible rfl)
 refine wU (i := 5) (v := ?vb_5) rfl ?yb_5 (by assumption) ?_
 case yb_5 => (intro w hSw; (try dsimp only at hSw); go_simp; try with_reducible rfl)
 refine wU (i := 6) (v := ?vb_6) rfl ?yb_6 (by assumption) ?_
 case yb_6 => (intro w hSw; (try dsimp only at hSw); go_simp; try with_reducible rfl)
 refine wU (i := 7) (v := ?vb_7) rfl ?yb_7 (by assumption) ?_
 case yb_7 => (intro w hSw; (try dsimp only at hSw); go_simp; try with_reducible rfl)
 refine wU (i := 8) (v := ?vb_8) rfl ?yb_8 (by assumption) ?_
 case yb_8 => (intro w hSw; (try dsimp only at hSw); go_simp; try with_reducible rfl)
 refine wU (i := 9) (v := ?vb_9) rfl ?yb_9 (by assumption) ?_
 case yb_9 => (intro w hSw; (try dsimp only at hSw); go_simp; try with_reducible rfl)
 try simp only [Act.put, List.getElem_toArray, List.getElem_cons_succ, List.getElem_cons_zero, List.setIfInBounds_toArray, List.set_cons_zero, List.set_cons_succ]
 refine wpAnyH_ready (rs := [10]) (by kernel_rfl) (by simp) ?_
 refine AllReadyH.cons rfl (fun K hK => ?_) AllReadyH.nil
 go_simp
 go_at_call 82
 refine (HE.out _ HD0.out).mono ?_
 rintro e w1 ⟨rfl, hb1⟩
 have HD1 : Hid (Below V.heap.size V w1) := HD0.out.trans (hb1.mono HD0.out.size)
 clear hb1
 refine hK.out _ _ (HX.out _ HD1.out) (fun hHeld => ?_)
 clear hK K
 try simp only [Act.put, List.getElem_toArray, List.getElem_cons_succ, List.getElem_cons_zero, List.setIfInBounds_toArray, List.set_cons_zero, List.set_cons_succ]
 cases R1 with
 | false =>
  refine wpAnyH_take (i := 11) (v := .bool false) rfl (by kernel_rfl) (by kernel_rfl) (by kernel_rfl) (fun _ _ _ h => h) (Or.inl ⟨by kernel_rfl, ?yc_11⟩) (by assumption) ?_
  case yc_11 => (intro w hSw; (try dsimp only at hSw); go_simp; try with_reducible rfl)
  refine wpAnyH_take (i := 12) (v := .bool false) rfl (by kernel_rfl) (by kernel_rfl) (by kernel_rfl) (fun _ _ _ h => h) (Or.inl ⟨by kernel_rfl, ?yc_12⟩) (by assumption) ?_
  case yc_12 => (intro w hSw; (try dsimp only at hSw); go_simp; try with_reducible rfl)
  try simp only [Act.put, List.getElem_toArray, List.getElem_cons_succ, List.getElem_cons_zero, List.setIfInBounds_toArray, List.set_cons_zero, List.set_cons_succ]
  refine wT (i := 13) (v := undef) rfl (Or.inr ⟨by kernel_rfl, rfl⟩) (by assumption) ?_
  refine wT (i := 14) (v := undef) rfl (Or.inr ⟨by kernel_rfl, rfl⟩) (by assumption) ?_
  refine wT (i := 15) (v := undef) rfl (Or.inr ⟨by kernel_rfl, rfl⟩) (by assumption) ?_
  refine wT (i := 16) (v := undef) rfl (Or.inr ⟨by kernel_rfl, rfl⟩) (by assumption) ?_
  refine wT (i := 17) (v := undef) rfl (Or.inr ⟨by kernel_rfl, rfl⟩) (by assumption) ?_
  refine wT (i := 18) (v := undef) rfl (Or.inr ⟨by kernel_rfl, rfl⟩) (by assumption) ?_
  try simp only [Act.put, List.getElem_toArray, List.getElem_cons_succ, List.getElem_cons_zero, List.setIfInBounds_toArray, List.set_cons_zero, List.set_cons_succ]
  refine wpAnyH_take (i := 19) (v := .bool false) rfl (by kernel_rfl) (by kernel_rfl) (by kernel_rfl) (fun _ _ _ h => h) (Or.inl ⟨by kernel_rfl, ?yd_19⟩) (by assumption) ?_
  case yd_19 => (intro w hSw; (try dsimp only at hSw); go_simp; try with_reducible rfl)
  try simp only [Act.put, List.getElem_toArray, List.getElem_cons_succ, List.getElem_cons_zero, List.setIfInBounds_toArray, List.set_cons_zero, List.set_cons_succ]
  refine wpAnyH_done (by kernel_rfl) ?_ _
  clear hHeld
  obtain ⟨rfl, rfl⟩ := HNo.out rfl
  have HZ := Hid.mk (HB.out _ HD1.out)
  obtain ⟨cv, cf⟩ := HF.out _ HD1.out
  go_wp2
  go_ret
  exact ⟨rfl, HZ.out.put⟩
 | true =>
  refine wpAnyH_take (i := 11) (v := .bool true) rfl (by kernel_rfl) (by kernel_rfl) (by kernel_rfl) (fun _ _ _ h => h) (Or.inl ⟨by kernel_rfl, ?ye_11⟩) (by assumption) ?_
  case ye_11 => (intro w hSw; (try dsimp only at hSw); go_simp; try with_reducible rfl)
  refine wpAnyH_take (i := 12) (v := .bool true) rfl (by kernel_rfl) (by kernel_rfl) (by kernel_rfl) (fun _ _ _ h => h) (Or.inl ⟨by kernel_rfl, ?ye_12⟩) (by assumption) ?_
  case ye_12 => (intro w hSw; (try dsimp only at hSw); go_simp; try with_reducible rfl)
  try simp only [Act.put, List.getElem_toArray, List.getElem_cons_succ, List.getElem_cons_zero, List.setIfInBounds_toArray, List.set_cons_zero, List.set_cons_succ]
  refine wU (i := 13) (v := ?vf_13) rfl ?yf_13 (by assumption) ?_
  case yf_13 => (intro w hSw; (try dsimp only at hSw); go_simp; try with_reducible rfl)
  refine wU (i := 14) (v := ?vf_14) rfl ?yf_14 (by assumption) ?_
  case yf_14 => (intro w hSw; (try dsimp only at hSw); go_simp; try with_reducible rfl)
  refine wU (i := 15) (v := ?vf_15) rfl ?yf_15 (by assumption) ?_
  case yf_15 => (intro w hSw; (try dsimp only at hSw); go_simp; try with_reducible rfl)
  refine wU (i := 16) (v := ?vf_16) rfl ?yf_16 (by assumption) ?_
  case yf_16 => (intro w hSw; (try dsimp only at hSw); go_simp; try with_reducible rfl)
  refine wU (i := 17) (v := ?vf_17) rfl ?yf_17 (by assumption) ?_
  case yf_17 => (intro w hSw; (try dsimp only at hSw); go_simp; try with_reducible rfl)
  try simp only [Act.put, List.getElem_toArray, List.getElem_cons_succ, List.getElem_cons_zero, List.setIfInBounds_toArray, List.set_cons_zero, List.set_cons_succ]
  refine wpAnyH_ready (rs := [18]) (by kernel_rfl) (by simp) ?_
  refine AllReadyH.cons rfl (fun K hK => ?_) AllReadyH.nil
  go_simp
  go_at_call 33
  refine (HS.out _ HD1.out).mono ?_
  rintro e w2 ⟨rfl, hb2⟩
  have HD2 : Hid (Below V.heap.size V w2) := HD1.out.trans (hb2.mono HD1.out.size)
  clear hb2
  refine hK.out _ _ (HX.out _ HD2.out) (fun hHeld => ?_)
  clear hK K
  try simp only [Act.put, List.getElem_toArray, List.getElem_cons_succ, List.getElem_cons_zero, List.setIfInBounds_toArray, List.set_cons_zero, List.set_cons_succ]
  cases R2 with
  | false =>
   refine wpAnyH_take (i := 19) (v := .bool false) rfl (by kernel_rfl) (by kernel_rfl) (by kernel_rfl) (fun _ _ _ h => h) (Or.inl ⟨by kernel_rfl, ?yg_19⟩) (by assumption) ?_
   case yg_19 => (intro w hSw; (try dsimp only at hSw); go_simp; try with_reducible rfl)
   try simp only [Act.put, List.getElem_toArray, List.getElem_cons_succ, List.getElem_cons_zero, List.setIfInBounds_toArray, List.set_cons_zero, List.set_cons_succ]
   refine wpAnyH_done (by kernel_rfl) ?_ _
   clear hHeld
   obtain ⟨rfl, rfl⟩ := HNo.out rfl
   have HZ := Hid.mk (HB.out _ HD2.out)
   obtain ⟨cv, cf⟩ := HF.out _ HD2.out
   go_wp2
   go_ret
   exact ⟨rfl, HZ.out.put⟩
  | true =>
   refine wpAnyH_take (i := 19) (v := .bool true) rfl (by kernel_rfl) (by kernel_rfl) (by kernel_rfl) (fun _ _ _ h => h) (Or.inl ⟨by kernel_rfl, ?yh_19⟩) (by assumption) ?_
   case yh_19 => (intro w hSw; (try dsimp only at hSw); go_simp; try with_reducible rfl)
   try simp only [Act.put, List.getElem_toArray, List.getElem_cons_succ, List.getElem_cons_zero, List.setIfInBounds_toArray, List.set_cons_zero, List.set_cons_succ]
   refine wpAnyH_done (by kernel_rfl) ?_ _
   clear hHeld
   obtain ⟨rfl, rfl⟩ := HYes.out rfl
   have HZ := Hid.mk (HB.out _ HD2.out)
   have cv := HV8.out _ HD2.out
   go_wp2
   go_ret
   exact ⟨rfl, HZ.out⟩
end Go.Proofs.YtikjepodmdaknaaGreatDoor.Rc
/- Layer 16: what a call makes of a cache. Facts alone. -/
namespace Go.Proofs.YtikjepodmdaknaaGreatDoor.Rc
open Go.RowKit
theorem EvI.mono {n n' : Nat} {x : Ev} (h : EvI n x) (hn : n ≤ n') : EvI n' x := ⟨h.ok, h.sv, h.un, h.rk, h.se, h.ve.1, by have := h.ve.2; omega⟩
section
variable {W w w' : World} {C T m n n' : Nat} {ver ver' : Int} {l l' : ML} {Q Q' : Nat → Prop}
theorem RC.next (h : RC W w C T m n ver l Q) (hf : FrC T w w') (hbx : w'.heap[C]? = some (.cells #[pt T, .int .i64 ver'] 97 (0, 0))) (ht : TabK W w' T (m : Int) n' (l'.map fun p => (p.1, p.2.1))) (hn : n ≤ n') (hv : 0 ≤ ver' ∧ ver' ≤ (n' : Int))
  (hmem : ∀ p ∈ l', p ∈ l) (hlen : l'.length ≤ m) (hnd : (l'.map fun p => p.2.1).Nodup) : RC W w' C T m n' ver' l' Q :=
 ⟨hbx, h.own, ht, fun p hp => ⟨(h.ev p (hmem p hp)).1.frc hf, (h.ev p (hmem p hp)).2⟩, fun p hp => ⟨(h.ok p (hmem p hp)).1, (h.ok p (hmem p hp)).2.mono hn⟩, hlen, hnd, hv, h.mb⟩
theorem RC.put {k : Ky} {b : Nat} {x : Ev} (h : RC W w C T m n ver l Q) (hf : FrC T w w') (hbx : w'.heap[C]? = some (.cells #[pt T, .int .i64 ver'] 97 (0, 0))) (ht : TabK W w' T (m : Int) (n + 1) ((putR m l k (b, x)).map fun p => (p.1, p.2.1))) (hv : 0 ≤ ver' ∧ ver' ≤ ((n + 1 : Nat) : Int))
  (hev : EvAt w' Q' b x) (hb : w.heap.size ≤ b) (hk : k = keyS x.s.nm x.s.ty) (hx : EvI (n + 1) x) (hQ : ∀ g, Q g → Q' g) : RC W w' C T m (n + 1) ver' (putR m l k (b, x)) Q' := by
 refine ⟨hbx, h.own, ht, fun p hp => ?_, fun p hp => ?_, putR_len, ?_, hv, h.mb⟩
 ·rcases mem_putR hp with rfl | ⟨hp, _⟩
  ·exact ⟨hev, Nat.le_trans h.bel.size hb⟩
  ·exact ⟨((h.ev p hp).1.frc hf).mono hQ, (h.ev p hp).2⟩
 ·rcases mem_putR hp with rfl | ⟨hp, _⟩
  ·exact ⟨hk, hx⟩
  ·exact ⟨(h.ok p hp).1, (h.ok p hp).2.mono (by omega)⟩
 ·have h1 : (((k, (b, x)) :: without l k).map fun p => p.2.1).Nodup := by
   rw [List.map_cons, List.nodup_cons]
   refine ⟨fun hh => ?_, ?_⟩
   ·obtain ⟨p, hp, e⟩ := List.mem_map.1 hh
    have := (h.ev p (mem_without.1 hp).1).1.lt
    simp only at e
    omega
   ·exact h.nd.sublist ((List.filter_sublist).map _)
  unfold putR
  rw [List.map_take]
  exact h1.sublist (List.take_sublist _ _)
end
theorem without_idem {α : Type} (l : List (Ky × α)) (k : Ky) : without (without l k) k = without l k := by
 unfold without
 rw [List.filter_filter]
 simp
theorem without_head {α : Type} (l : List (Ky × α)) (k : Ky) (v : α) : without ((k, v) :: without l k) k = without l k := by
 rw [show without ((k, v) :: without l k) k = without (without l k) k from ?_, without_idem]
 unfold without
 rw [List.filter_cons_of_neg (by simp)]
theorem getR_split {α : Type} {l : List (Ky × α)} {k : Ky} {v : α} (h : getR l k = some v) : (without l k).length + 1 ≤ l.length := by
 have hm := getR_mem h
 have : (without l k).length < l.length := by
  unfold without
  refine Nat.lt_of_le_of_ne (List.length_filter_le _ _) fun e => ?_
  have := List.length_filter_eq_length_iff.1 e _ hm
  simp at this
 omega
def getL (l : ML) (k : Ky) (now : Int) : ML := if timB now = true then (match getR l k with
 | none => l
 | some v => if over v.2 now then without l k else (k, v) :: without l k) else l
def getA (l : AL) (k : Ky) (now : Int) : AL := if timB now = true then (match getR l k with
 | none => l
 | some v => if over v now then without l k else (k, v) :: without l k) else l
def foundA (l : AL) (k : Ky) (now : Int) : Option Ev := if timB now = true then (match getR l k with
 | none => none
 | some v => if over v now then none else some v) else none
def toldE (x : Ev) (now : Int) : Ev := { x with s := { x.s with tl := min (x.un - now) 604800 } }
theorem abs_getL (l : ML) (k : Ky) (now : Int) : abs (getL l k now) = getA (abs l) k now := by
 unfold getL getA
 rw [abs_get]
 by_cases ht : timB now = true
 ·rw [if_pos ht, if_pos ht]
  cases getR l k with
  | none => rfl
  | some v =>
   show abs (if over v.2 now = true then without l k else (k, v) :: without l k) = if over v.2 now = true then without (abs l) k else (k, v.2) :: without (abs l) k
   by_cases ho : over v.2 now = true
   ·rw [if_pos ho, if_pos ho, abs_without]
   ·rw [if_neg ho, if_neg ho, ← abs_without]
    rfl
 ·rw [if_neg ht, if_neg ht]
end Go.Proofs.YtikjepodmdaknaaGreatDoor.Rc
/- Layer 16: a cache behind versionOf; keys. Facts alone. -/
namespace Go.Proofs.YtikjepodmdaknaaGreatDoor.Rc
open Go.RowKit
theorem VerP.trans {a b c : World} {C T : Nat} {v v' : Int} (h : VerP a b C T v) (k : VerP b c C T v') : VerP a c C T v' := by
 have hs := (h.bel 0 (Nat.zero_le _) (Nat.zero_le _)).size
 exact ⟨k.bx, fun x hx hn => (k.same x (by omega) hn).trans (h.same x hx hn), fun B h1 h2 => (h.bel B h1 h2).trans (k.bel B h1 (by omega))⟩
theorem VerP.drew {a b : World} {C T : Nat} {v : Int} (h : VerP a b C T v) : VerP a b.drew C T v := ⟨h.bx, h.same, fun B h1 h2 => (h.bel B h1 h2).drew⟩
theorem VerP.blk {a b c : World} {C T : Nat} {v : Int} (h : VerP a b C T v) (k : Below b.heap.size b c) : VerP a c C T v := h.trans (VerP.of_below h.bx k)
theorem VerP.size {a b : World} {C T : Nat} {v : Int} (h : VerP a b C T v) : a.heap.size ≤ b.heap.size := (h.bel 0 (Nat.zero_le _) (Nat.zero_le _)).size
section
variable {W w w' : World} {C T m n n' : Nat} {ver ver' : Int} {l : ML} {Q : Nat → Prop}
theorem RC.tabC (h : RC W w C T m n ver l Q) {E M : Nat} {L : List Ent} (ho : TabO W w T E M (m : Int) n L) (b : Nat) (hb : tS T E M L b) : b ≠ C := by
 rintro rfl
 rcases hb with e | e | e | e
 ·have := ho.tab.tb; rw [← e, h.bx] at this; cases this
 ·obtain ⟨es, cl, hm⟩ := ho.tab.mp.isMap; rw [← e, h.bx] at hm; cases hm
 ·obtain ⟨c, hc, _⟩ := ho.tab.row.plc E (by simp); rw [← e, h.bx] at hc; cases hc
 ·obtain ⟨c, hc, _⟩ := ho.tab.row.plc b (List.mem_cons_of_mem _ e); rw [h.bx] at hc; cases hc
theorem RC.verd (h : RC W w C T m n ver l Q) (hp : VerP w w' C T ver') (hv : 0 ≤ ver' ∧ ver' ≤ (n' : Int)) (hn : n ≤ n') : RC W w' C T m n' ver' l Q := by
 have hf : FrC T w w' := hp.frc ⟨_, h.bx⟩
 have hs := hp.size
 refine ⟨hp.bx, h.own, ?_, fun p hpm => ⟨(h.ev p hpm).1.frc hf, (h.ev p hpm).2⟩, fun p hpm => ⟨(h.ok p hpm).1, (h.ok p hpm).2.mono hn⟩, h.len, h.nd, hv, h.mb⟩
 obtain ⟨E, M, L, ho, e⟩ := h.tab
 have ht : Tab w' T E M (m : Int) n L := ho.tab.same fun b hb => hp.same b (ho.tab.lt hb) (h.tabC ho b hb)
 refine ⟨E, M, L, ⟨?_, ho.own, ho.bel.trans (hp.bel _ h.own ho.bel.size)⟩, e⟩
 obtain ⟨k, hk⟩ : ∃ k, n' = n + k := ⟨n' - n, by omega⟩
 rw [hk]
 clear hv hk hn
 induction k with
 | zero => exact ht
 | succ k ih => exact ih.more
end
theorem key_ok {s : Sv} (hs : SvI s) (hok : setOk s = true) : KOk (keyS s.nm s.ty) := by
 refine ⟨?_, hs.ty⟩
 have hn := setOk_nm hok
 show (lowF s.nm).size ≤ maxLen
 obtain ⟨x, hx, e⟩ := hn
 rw [e, lowF_nm hx]
 have := name_size ⟨_, hx.low, rfl⟩
 unfold maxLen
 omega
theorem lowF_size (n : ByteArray) (h : n.size ≤ maxLen) : (lowF n).size ≤ maxLen := by
 by_cases hn : IsName n
 ·obtain ⟨x, hx, rfl⟩ := hn
  rw [lowF_nm hx]
  have := name_size ⟨_, hx.low, rfl⟩
  unfold maxLen
  omega
 ·rw [lowF_no hn]
  exact h
theorem keyS_ok {n : ByteArray} {k : Int} (h : n.size ≤ maxLen) (hk : I64 k) : KOk (keyS n k) := ⟨lowF_size n h, hk⟩
theorem getR_fst (l : ML) (k : Ky) : getR (l.map fun p => (p.1, p.2.1)) k = (getR l k).map Prod.fst := getR_map Prod.fst l k
theorem ttl_bd {s : Sv} (h : setOk s = true) : 0 ≤ ttl s ∧ ttl s ≤ 604800 := by
 have := (setOk_head h).1
 unfold ttl
 omega
theorem TxQ.of_own' {w : World} {N : Nat} {q : Option Addr} {c : Nat} {ds : List ByteArray} (h : w.ownsRow N 9 1 (.slice q ds.length c) ds.length (strs ds)) : TxQ w (fun b => N ≤ b ∧ b < w.heap.size) q ds := fun h0 => by
 obtain ⟨g, cur, e, hq, hg, hc⟩ := TxQ.of_own h h0
 exact ⟨g, cur, e, ⟨hq, blk_lt hg⟩, hg, hc⟩
theorem verN_bd {o : Option Ev} {s : Sv} {ver : Int} {n : Nat} (hv : 0 ≤ ver ∧ ver ≤ (n : Int)) (ho : ∀ x, o = some x → EvI n x) : (1 ≤ verN ver o s ∧ verN ver o s ≤ ((n + 1 : Nat) : Int)) ∧ (0 ≤ verC ver o s ∧ verC ver o s ≤ ((n + 1 : Nat) : Int)) := by
 cases hk : keeps o s with
 | false =>
  obtain ⟨e1, e2⟩ := ver_new (ver := ver) hk
  rw [e1, e2]
  omega
 | true =>
  cases o with
  | none => cases hk
  | some x =>
   obtain ⟨e1, e2⟩ := ver_old (ver := ver) hk
   rw [e1, e2]
   have := (ho x rfl).ve
   omega
theorem own_cap {w : World} {N e size n c : Nat} {q : Option Addr} {xs : List Value} (h : w.ownsRow N e size (.slice q n c) n xs) : n ≤ c ∧ c ≤ maxLen := by
 obtain ⟨hl, ⟨hv, h0⟩ | ⟨g, cap, cur, hv, hg0, hg, hn, hm, _⟩⟩ := h
 ·simp only [Value.slice.injEq] at hv
  unfold maxLen
  omega
 ·simp only [Value.slice.injEq] at hv
  obtain ⟨_, _, rfl⟩ := hv
  exact ⟨hn, hm⟩
theorem own_ver {w w' : World} {C T N e size n : Nat} {v : Int} {a : Value} {xs : List Value} (h : w.ownsRow N e size a n xs) (hp : VerP w w' C T v) (hC : ∃ u, w.heap[C]? = some (.cells u 97 (0, 0))) (he : e ≠ 97) : w'.ownsRow N e size a n xs :=
 own_same h fun b c f _ hb => hp.same b (blk_lt hb) (fun e0 => by
  subst e0
  obtain ⟨u, hu⟩ := hC
  rw [hu] at hb
  cases hb
  exact he rfl)
end Go.Proofs.YtikjepodmdaknaaGreatDoor.Rc
