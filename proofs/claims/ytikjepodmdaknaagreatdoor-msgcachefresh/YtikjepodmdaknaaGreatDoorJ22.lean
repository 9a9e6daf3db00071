/- Texts of this proof, joined: RcP. -/
import Derived.Test.YtikjepodmdaknaaGreatDoorJ20
import Derived.Test.YtikjepodmdaknaaGreatDoorJ21
set_option linter.unusedVariables false
set_option linter.unusedSimpArgs false
/- Layer 16: Put. -/
namespace Go.Proofs.YtikjepodmdaknaaGreatDoor.Rc
open Go.RowKit
def PutP (W w w' : World) (C T m n : Nat) (ver : Int) (l : ML) (Q : Nat → Prop) (s : Sv) (rk se now : Int) (e : Ending) : Prop :=
 (putOk s rk se now = false ∧ e = .returned (.tuple #[.bool false, .int .i64 1]) ∧ RC W w' C T m n ver l Q) ∨
 (putOk s rk se now = true ∧ refused (abs l) s rk now = true ∧ e = .returned (.tuple #[.bool false, .int .i64 0]) ∧ RC W w' C T m n ver l Q) ∨
 (putOk s rk se now = true ∧ refused (abs l) s rk now = false ∧ e = .returned (.tuple #[.bool true, .int .i64 0]) ∧ ∃ b, w.heap.size ≤ b ∧ RC W w' C T m (n + 1) (verC ver (getR (abs l) (keyS s.nm s.ty)) s) (putR m l (keyS s.nm s.ty) (b, putX ver (abs l) s rk se now)) (fun g => Q g ∨ (w.heap.size ≤ g ∧ g < w'.heap.size)))
theorem putOk_eq (s : Sv) (rk se now : Int) : putOk s rk se now = (((decide (s.cl = 1) && setOk s) && rnkB rk) && secB se && timB now) := by
 unfold putOk
 rfl
theorem putOk_iff {s : Sv} {rk se now : Int} : putOk s rk se now = true ↔ s.cl = 1 ∧ setOk s = true ∧ (1 ≤ rk ∧ rk ≤ 4) ∧ (0 ≤ se ∧ se ≤ 3) ∧ (0 ≤ now ∧ now ≤ 4294967295) := by
 unfold putOk rnkB secB timB
 simp only [Bool.and_eq_true, decide_eq_true_eq]
 exact ⟨fun h => ⟨h.1.1.1.1, h.1.1.1.2, h.1.1.2, h.1.2, h.2⟩, fun h => ⟨⟨⟨⟨h.1, h.2.1⟩, h.2.2.1⟩, h.2.2.2.1⟩, h.2.2.2.2⟩⟩
set_option maxRecDepth 100000 in
set_option maxHeartbeats 4000000 in
theorem rput_no {W w : World} {C T m n : Nat} {ver : Int} {l : ML} {Q : Nat → Prop} (h : RC W w C T m n ver l Q) (s : Sv) (hs : SvIn s) (qd : Option Addr) (cd : Nat) (qg : Option Addr) (cg : Nat) (hat : SvAt w s qd cd qg cg) (rk se now : Int) (hno : putOk s rk se now = false) :
  Calls Tryz.prog 13 #[pt C, .agg (svC s qd cd qg cg).toArray, .int .i64 rk, .int .i64 se, .int .i64 now] w fun e w' => e = .returned (.tuple #[.bool false, .int .i64 1]) ∧ Below w.heap.size w w' := by
 obtain ⟨N, hN⟩ : ∃ N, w.heap.size = N := ⟨_, rfl⟩
 obtain ⟨V, hV⟩ : ∃ V, w.alloc (.cells (svC s qd cd qg cg).toArray 34) = V := ⟨_, rfl⟩
 have bV : Below N w V := by rw [← hV, ← hN]; exact (Below.refl _ _).alloc (Nat.le_refl _) _
 have sV : V.heap.size = N + 1 := by rw [← hV]; simp [hN]
 have gV : V.heap[N]? = some (.cells (svC s qd cd qg cg).toArray 34 (0, 0)) := by rw [← hV, ← hN]; exact heap_alloc_new w _
 have c0 : (V.cell? ⟨N, 0, none⟩ = some (.string s.nm) ∧ V.cell? ⟨N, 1, none⟩ = some (.int .i64 s.ty) ∧ V.cell? ⟨N, 2, none⟩ = some (.int .i64 s.cl) ∧ V.cell? ⟨N, 3, none⟩ = some (.int .i64 s.tl) ∧ V.cell? ⟨N, 4, none⟩ = some (.slice qd s.ds.length cd) ∧ V.cell? ⟨N, 5, none⟩ = some (.slice qg s.sg.length cg)) := by
  refine ⟨?_, ?_, ?_, ?_, ?_, ?_⟩ <;> (rw [So.cell_blk gV]; rfl)
 have HR := Hid.mk (rset_in s hs qd cd qg cg V (hat.blk (by rw [hN]; exact bV)))
 have HB := Hid.mk (And.intro bV sV)
 have H1 := Hid.mk (isRank_in rk)
 have H2 := Hid.mk (isSec_in se)
 have H3 := Hid.mk (isTime_in now)
 have HNO := hno
 rw [putOk_eq] at HNO
 generalize (decide (s.cl = 1) && setOk s) = b0 at HR HNO
 generalize rnkB rk = b1 at H1 HNO
 generalize secB se = b2 at H2 HNO
 generalize timB now = b3 at H3 HNO
 rw [hN]
 simp only [svC] at hV HR ⊢
 have HV := Hid.mk hV
 have HNO := Hid.mk HNO
 clear hV bV sV gV h hs hat hno
 go_enter Tryz.func13, Tryz.ntmps13
 go_upto_region 1 with fail
 (try rw [hN])
 rw [HV.out]
 clear hN
 go_wp2_with fail
 refine HR.out.mono ?_
 rintro e w1 ⟨rfl, hb1⟩
 have HBW : Hid (Below N w w1) := HB.out.1.trans (hb1.mono (by have := HB.out.2; omega))
 clear c0 hb1
 cases b0 with
 | false =>
  go_wp2
  go_ret2
  exact ⟨rfl, HBW.out⟩
 | true =>
  go_wp2_with fail
  refine (H1.out _).mono ?_
  rintro e w2 ⟨rfl, rfl⟩
  cases b1 with
  | false =>
   go_wp2
   go_ret2
   exact ⟨rfl, HBW.out⟩
  | true =>
   go_wp2_with fail
   refine (H2.out _).mono ?_
   rintro e w2 ⟨rfl, rfl⟩
   cases b2 with
   | false =>
    go_wp2
    go_ret2
    exact ⟨rfl, HBW.out⟩
   | true =>
    go_wp2_with fail
    refine (H3.out _).mono ?_
    rintro e w2 ⟨rfl, rfl⟩
    cases b3 with
    | false =>
     go_wp2
     go_ret2
     exact ⟨rfl, HBW.out⟩
    | true =>
     have := HNO.out
     cases this
structure GB (w : World) (N P C T : Nat) (v : Int) (s : Sv) (lw : ByteArray) (qd : Option Addr) (cd : Nat) (qg : Option Addr) (cg : Nat) : Prop where
 n : w.heap[N]? = some (.cells #[.string s.nm, .int .i64 s.ty, .int .i64 s.cl, .int .i64 s.tl, .slice qd s.ds.length cd, .slice qg s.sg.length cg] 34 (0, 0))
 p : w.heap[P]? = some (.cells #[.string lw, .int .i64 s.ty] 94 (0, 0))
 c : w.heap[C]? = some (.cells #[pt T, .int .i64 v] 97 (0, 0))
 nc : N ≠ C
 pc : P ≠ C
theorem GB.ver {w w' : World} {N P C T : Nat} {v v' : Int} {s : Sv} {lw : ByteArray} {qd : Option Addr} {cd : Nat} {qg : Option Addr} {cg : Nat} (h : GB w N P C T v s lw qd cd qg cg) (k : VerP w w' C T v') : GB w' N P C T v' s lw qd cd qg cg :=
 ⟨(k.same N (blk_lt h.n) h.nc).trans h.n, (k.same P (blk_lt h.p) h.pc).trans h.p, k.bx, h.nc, h.pc⟩
theorem GB.frn {w w' : World} {N P C T : Nat} {v : Int} {s : Sv} {lw : ByteArray} {qd : Option Addr} {cd : Nat} {qg : Option Addr} {cg : Nat} (h : GB w N P C T v s lw qd cd qg cg) (k : Frn T w w') : GB w' N P C T v s lw qd cd qg cg :=
 ⟨k.same _ _ _ _ h.n (by decide) (by decide), k.same _ _ _ _ h.p (by decide) (by decide), k.same _ _ _ _ h.c (by decide) (by decide), h.nc, h.pc⟩
theorem GB.cells {w : World} {N P C T : Nat} {v : Int} {s : Sv} {lw : ByteArray} {qd : Option Addr} {cd : Nat} {qg : Option Addr} {cg : Nat} (h : GB w N P C T v s lw qd cd qg cg) : (fun w : World => (w.cell? ⟨N, 0, none⟩ = some (.string s.nm) ∧ w.cell? ⟨N, 1, none⟩ = some (.int .i64 s.ty) ∧ w.cell? ⟨N, 2, none⟩ = some (.int .i64 s.cl) ∧ w.cell? ⟨N, 3, none⟩ = some (.int .i64 s.tl) ∧ w.cell? ⟨N, 4, none⟩ = some (.slice qd s.ds.length cd) ∧ w.cell? ⟨N, 5, none⟩ = some (.slice qg s.sg.length cg)) ∧ w.cell? ⟨C, 0, none⟩ = some (pt T) ∧ w.cell? ⟨P, 0, none⟩ = some (.string lw) ∧ w.cell? ⟨P, 1, none⟩ = some (.int .i64 s.ty)) w :=
 ⟨six_cells h.n, by rw [So.cell_blk h.c]; rfl, by rw [So.cell_blk h.p]; rfl, by rw [So.cell_blk h.p]; rfl⟩
set_option maxRecDepth 100000 in
set_option maxHeartbeats 16000000 in
theorem rput_none {W w : World} {C T m n : Nat} {ver : Int} {l : ML} {Q : Nat → Prop} (h : RC W w C T m n ver l Q) (hn : n < 2305843009213693952) (s : Sv) (hs : SvI s) (qd : Option Addr) (cd : Nat) (qg : Option Addr) (cg : Nat) (hat : SvAt w s qd cd qg cg) (rk se now : Int) (hok : putOk s rk se now = true) (hget : getR l (keyS s.nm s.ty) = none) :
  Calls Tryz.prog 13 #[pt C, .agg (svC s qd cd qg cg).toArray, .int .i64 rk, .int .i64 se, .int .i64 now] w fun e w' => PutP W w w' C T m n ver l Q s rk se now e ∧ FrC T w w' := by
 obtain ⟨hcl, hso, hrk, hse, hnw⟩ := putOk_iff.1 hok
 obtain ⟨N, hN⟩ : ∃ N, w.heap.size = N := ⟨_, rfl⟩
 have hC := blk_lt h.bx
 have hsm := data_small hso
 have htt := ttl_bd hso
 have hko := key_ok hs hso
 have hg1 : getR (l.map fun p => (p.1, p.2.1)) (keyS s.nm s.ty) = none := by rw [getR_fst, hget]; rfl
 have hg2 : getR (abs l) (keyS s.nm s.ty) = (none : Option Ev) := by rw [abs_get, hget]; rfl
 obtain ⟨V, hV⟩ : ∃ V, w.alloc (.cells (svC s qd cd qg cg).toArray 34) = V := ⟨_, rfl⟩
 have bV : Below N w V := by rw [← hV, ← hN]; exact (Below.refl _ _).alloc (Nat.le_refl _) _
 have sV : V.heap.size = N + 1 := by rw [← hV]; simp [hN]
 have gV : V.heap[N]? = some (.cells (svC s qd cd qg cg).toArray 34 (0, 0)) := by rw [← hV, ← hN]; exact heap_alloc_new w _
 -- what stays so while nothing but new boxes are written
 have HX : Hid (∀ w', Below V.heap.size V w' → (w'.cell? ⟨N, 0, none⟩ = some (.string s.nm) ∧ w'.cell? ⟨N, 1, none⟩ = some (.int .i64 s.ty) ∧ w'.cell? ⟨N, 2, none⟩ = some (.int .i64 s.cl) ∧ w'.cell? ⟨N, 3, none⟩ = some (.int .i64 s.tl) ∧ w'.cell? ⟨N, 4, none⟩ = some (.slice qd s.ds.length cd) ∧ w'.cell? ⟨N, 5, none⟩ = some (.slice qg s.sg.length cg)) ∧ Below N w w' ∧ w'.cell? ⟨C, 0, none⟩ = some (pt T)) := fun w' hw => by
  have g1 := (hw.block N (by omega)).trans gV
  have g2 := (hw.block C (by omega)).trans ((bV.block C (by omega)).trans h.bx)
  refine ⟨⟨?_, ?_, ?_, ?_, ?_, ?_⟩, bV.trans (hw.mono (by omega)), ?_⟩ <;> first | (rw [So.cell_blk g1]; rfl) | (rw [So.cell_blk g2]; rfl)
 have HRS : Hid (Calls Tryz.prog 38 #[.agg (svC s qd cd qg cg).toArray] V fun e w' => e = .returned (.bool true) ∧ Below V.heap.size V w') := by
  have := rset_in s hs.sv qd cd qg cg V (hat.blk (by rw [hN]; exact bV))
  rw [show (decide (s.cl = 1) && setOk s) = true by rw [decide_eq_true hcl, hso]; rfl] at this
  exact this
 have H1 : Hid (∀ w, Calls Tryz.prog 39 #[.int .i64 rk] w fun e w' => e = .returned (.bool true) ∧ w' = w) := fun w => by have := isRank_in rk w; rw [show rnkB rk = true by unfold rnkB; simp [hrk]] at this; exact this
 have H2 : Hid (∀ w, Calls Tryz.prog 40 #[.int .i64 se] w fun e w' => e = .returned (.bool true) ∧ w' = w) := fun w => by have := isSec_in se w; rw [show secB se = true by unfold secB; simp [hse]] at this; exact this
 have H3 : Hid (∀ w, Calls Tryz.prog 41 #[.int .i64 now] w fun e w' => e = .returned (.bool true) ∧ w' = w) := fun w => by have := isTime_in now w; rw [show timB now = true by unfold timB; simp [hnw]] at this; exact this
 have HKy : Hid (∀ w, Calls Tryz.prog 42 #[.string s.nm, .int .i64 s.ty] w fun e w' => e = .returned (kV (keyS s.nm s.ty)) ∧ Below w.heap.size w w') := fun w => keyOf_in s.nm s.ty (by have := hsm.1; unfold maxLen; omega) w
 have HL : Hid (∀ w', Below N w w' → Calls Tryz.prog 43 #[pt T, kV (keyS s.nm s.ty)] w' fun r w2 => r = .returned (.tuple #[nilP, .bool false]) ∧ Below w'.heap.size w' w2) := fun w' hw => by
  have := look_kv (h.blk (by rw [hN]; exact hw)).tab (keyS s.nm s.ty) hko
  rw [hg1] at this
  exact this
 have HCp : Hid (∀ w', Below N w w' → Calls Tryz.prog 46 #[.agg (svC s qd cd qg cg).toArray] w' fun e w2 => ∃ q1 c1 q2 c2, e = .returned (.agg (svC s q1 c1 q2 c2).toArray) ∧ w2.ownsRow w'.heap.size 9 1 (.slice q1 s.ds.length c1) s.ds.length (strs s.ds) ∧ w2.ownsRow w'.heap.size 9 1 (.slice q2 s.sg.length c2) s.sg.length (strs s.sg) ∧ Below w'.heap.size w' w2) := fun w' hw => copied_in s (by omega) (fun d hd => by have := hsm.2.1 d hd; omega) (fun d hd => by have := hsm.2.2.1 d hd; omega) (by omega) (by omega) qd cd qg cg w' (hat.blk (by rw [hN]; exact hw))
 have HVe : Hid (∀ w', Below N w w' → Calls Tryz.prog 47 #[pt C, .agg (svC s qd cd qg cg).toArray, nilP] w' fun e w2 => e = .returned (.int .i64 (verN ver ((none : Option Ev)) s)) ∧ VerP w' w2 C T (verC ver ((none : Option Ev)) s)) := fun w' hw => by
  have hr := h.blk (by rw [hN]; exact hw : Below w.heap.size w w')
  have hv := h.vb
  exact version_none hr.bx ⟨hv.1, by omega⟩ s qd cd qg cg
 have hvv : ver < 4611686018427387904 := by have := h.vb; omega
 have hbd := verN_bd (o := (none : Option Ev)) (s := s) h.vb (fun y hy => by cases hy)
 have hwr : IntKind.i64.wrap (now + ttl s) = now + ttl s := by rw [IntKind.wrap_i64]; omega
 have hml := h.len
 have hmb := h.mb
 -- the end: from the world ahead of the last call on
 have HEnd : Hid (∀ w3 q1 c1 q2 c2 E, ttl s ≠ 0 → VerP w w3 C T (verC ver ((none : Option Ev)) s) → N ≤ E → w3.heap[E]? = some (.cells (evC (⟨s, rk, se, verN ver ((none : Option Ev)) s, now + ttl s⟩ : Ev) q1 c1 q2 c2).toArray 44 (0, 0)) → w3.ownsRow N 9 1 (.slice q1 s.ds.length c1) s.ds.length (strs s.ds) → w3.ownsRow N 9 1 (.slice q2 s.sg.length c2) s.sg.length (strs s.sg) →
   Calls Tryz.prog 45 #[pt T, kV (keyS s.nm s.ty), pt E] w3 fun r w4 => (∃ v, r = .returned v) ∧ (∃ b, w.heap.size ≤ b ∧ RC W w4 C T m (n + 1) (verC ver (getR (abs l) (keyS s.nm s.ty)) s) (putR m l (keyS s.nm s.ty) (b, putX ver (abs l) s rk se now)) (fun g => Q g ∨ (w.heap.size ≤ g ∧ g < w4.heap.size))) ∧ FrC T w w4 ∧ Frn T w3 w4) := by
  intro w3 q1 c1 q2 c2 E htp hv3 hE hbE ho1 ho2
  have hr3 := h.verd (n' := n + 1) hv3 hbd.2 (by omega)
  obtain ⟨E0, M0, L0, hto, hkv⟩ := h.tab
  have ht3 : TabK W w3 T (m : Int) n (l.map fun p => (p.1, p.2.1)) := by
   refine ⟨E0, M0, L0, ⟨hto.tab.same fun b hb => hv3.same b (hto.tab.lt hb) (h.tabC hto b hb), hto.own, hto.bel.trans (hv3.bel _ h.own hto.bel.size)⟩, hkv⟩
  refine (put_kv ht3 (keyS s.nm s.ty) E (by rw [List.length_map]; exact hml) hmb.1 hmb.2 hko (by unfold maxLen; omega)).mono ?_
  rintro r w4 ⟨hr, ht4, hf4⟩
  refine ⟨hr, ⟨E, by rw [hN]; exact hE, ?_⟩, (hv3.frc ⟨_, h.bx⟩).trans (FrC.frn hf4), hf4⟩
  have hX : putX ver (abs l) s rk se now = (⟨s, rk, se, verN ver ((none : Option Ev)) s, now + ttl s⟩ : Ev) := by unfold putX; rw [hg2]
  rw [hX, hg2]
  rw [show (putR m (l.map fun p => (p.1, p.2.1)) (keyS s.nm s.ty) E) = (putR m l (keyS s.nm s.ty) (E, (⟨s, rk, se, verN ver ((none : Option Ev)) s, now + ttl s⟩ : Ev))).map fun p => (p.1, p.2.1) from putR_map Prod.fst m l (keyS s.nm s.ty) (E, _)] at ht4
  refine h.put ((hv3.frc ⟨_, h.bx⟩).trans (FrC.frn hf4)) (hf4.same C _ _ _ hv3.bx (by decide) (by decide)) ht4 hbd.2 ?_ (by rw [hN]; exact hE) rfl ?_ (fun g hg => .inl hg)
  ·have hsz := hf4.size
   have o1 := TxQ.of_own' ho1
   have o2 := TxQ.of_own' ho2
   have k1 := own_cap ho1
   have k2 := own_cap ho2
   refine ⟨q1, c1, q2, c2, hf4.same E _ _ _ hbE (by decide) (by decide), ?_, ?_, k1, k2⟩
   ·exact (o1.same (fun g cur _ hg => (hf4.same g _ _ _ hg (by decide) (by decide)).trans hg.symm)).mono (fun g hg => .inr ⟨by rw [hN]; exact hg.1, by omega⟩)
   ·exact (o2.same (fun g cur _ hg => (hf4.same g _ _ _ hg (by decide) (by decide)).trans hg.symm)).mono (fun g hg => .inr ⟨by rw [hN]; exact hg.1, by omega⟩)
  ·exact ⟨hso, hs, by show 1 ≤ now + ttl s ∧ now + ttl s ≤ 4294967295 + 604800; omega, hrk, hse, hbd.1⟩
 -- the ends
 have HRef : Hid ((ttl s = 0 ∨ stops ((none : Option Ev)) rk now = true) → ∀ w', Below N w w' → PutP W w w' C T m n ver l Q s rk se now (.returned (.tuple #[.bool false, .int .i64 0])) ∧ FrC T w w') := fun hh w' hw => by
  refine ⟨.inr (.inl ⟨hok, ?_, rfl, h.blk (by rw [hN]; exact hw)⟩), FrC.below (by rw [hN]; exact hw)⟩
  unfold refused
  rw [hg2]
  rcases hh with hh | hh
  ·rw [decide_eq_true hh]; rfl
  ·rw [hh, Bool.or_true]
 have HYes : Hid (ttl s ≠ 0 → stops ((none : Option Ev)) rk now = false → ∀ w4, (∃ b, w.heap.size ≤ b ∧ RC W w4 C T m (n + 1) (verC ver (getR (abs l) (keyS s.nm s.ty)) s) (putR m l (keyS s.nm s.ty) (b, putX ver (abs l) s rk se now)) (fun g => Q g ∨ (w.heap.size ≤ g ∧ g < w4.heap.size))) → FrC T w w4 → PutP W w w4 C T m n ver l Q s rk se now (.returned (.tuple #[.bool true, .int .i64 0])) ∧ FrC T w w4) := fun h1 h2 w4 h3 h4 => by
  refine ⟨.inr (.inr ⟨hok, ?_, rfl, h3⟩), h4⟩
  unfold refused
  rw [hg2, h2, decide_eq_false h1]
  rfl
 have hCN : ¬ C = N := by omega
 have HCC : Hid (∃ u, w.heap[C]? = some (.cells u 97 (0, 0))) := ⟨_, h.bx⟩
 have HVw : Hid (∀ w', Below N w w' → VerP w w' C T ver) := fun w' hw => VerP.of_below h.bx (by rw [hN]; exact hw)
 obtain ⟨vN, hvN⟩ : ∃ r, verN ver ((none : Option Ev)) s = r := ⟨_, rfl⟩
 obtain ⟨vC, hvC⟩ : ∃ r, verC ver ((none : Option Ev)) s = r := ⟨_, rfl⟩
 rw [hvN, hvC] at HVe HEnd
 have ht3 : ttl s = min s.tl 604800 := rfl
 obtain ⟨t, ht⟩ : ∃ t, ttl s = t := ⟨_, rfl⟩
 rw [ht] at HEnd HRef HYes hwr ht3
 obtain ⟨lw, hlw⟩ : ∃ k, (keyS s.nm s.ty).1 = k := ⟨_, rfl⟩
 have hkv : kV (keyS s.nm s.ty) = .agg #[.string lw, .int .i64 s.ty] := by rw [← hlw]; rfl
 rw [hkv] at HKy HL HEnd
 have hVN : N ≤ V.heap.size := by omega
 have hCV : C < V.heap.size := by omega
 have hNV : N < V.heap.size := by omega
 have HGV : Hid (∀ w', Below V.heap.size V w' → w'.heap[N]? = some (.cells #[.string s.nm, .int .i64 s.ty, .int .i64 s.cl, .int .i64 s.tl, .slice qd s.ds.length cd, .slice qg s.sg.length cg] 34 (0, 0))) := fun w' hw => (hw.block N hNV).trans gV
 have HS0 := Hid.mk (And.intro hVN (And.intro hCV (And.intro hNV hCN)))
 simp only [svC] at hV HRS HCp HVe ⊢
 simp only [evC] at HEnd
 have HV := Hid.mk hV
 clear hVN hCV hNV hCN hlw hkv ht hvN hvC hV bV sV gV hat hs hok hcl hso hrk hse hnw hsm htt hko hg1 hg2 hget hml hmb hvv hbd hn hC
 clear h
 have hw0 := (HX.out _ (Below.refl _ _)).1
 go_enter Tryz.func13, Tryz.ntmps13
 go_upto_region 1 with fail
 (try rw [hN])
 rw [HV.out]
 clear hN
 go_wp2_with fail
 refine HRS.out.mono ?_
 rintro e w1 ⟨rfl, hb1⟩
 clear hw0
 have HB1 := Hid.mk hb1
 have hw1 := (HX.out _ hb1).1
 clear hb1
 go_wp2_with fail
 refine (H1.out _).mono ?_
 rintro e w2 ⟨rfl, rfl⟩
 go_wp2_with fail
 refine (H2.out _).mono ?_
 rintro e w2 ⟨rfl, rfl⟩
 go_wp2_with fail
 refine (H3.out _).mono ?_
 rintro e w2 ⟨rfl, rfl⟩
 have hmin : min s.tl 604800 = t := ht3.symm
 clear ht3
 go_wp2_with fail
 refine (HKy.out _).mono ?_
 rintro e w3 ⟨rfl, hb3⟩
 have hB3 : Below V.heap.size V w3 := HB1.out.trans (hb3.mono HB1.out.size)
 clear hw1 hb3
 obtain ⟨P, hP⟩ : ∃ P, w3.heap.size = P := ⟨_, rfl⟩
 obtain ⟨U, hU⟩ : ∃ U, w3.alloc (.cells #[.string lw, .int .i64 s.ty] 94) = U := ⟨_, rfl⟩
 have gU : U.heap[P]? = some (.cells #[.string lw, .int .i64 s.ty] 94 (0, 0)) := by rw [← hU, ← hP]; exact heap_alloc_new w3 _
 have hVP : V.heap.size ≤ P := by rw [← hP]; exact hB3.size
 have bU : Below V.heap.size V U := by rw [← hU]; exact hB3.alloc (by omega) _
 have HGB0 : Hid (GB U N P C T ver s lw qd cd qg cg) := by
  obtain ⟨h1, h2, h3, h4⟩ := HS0.out
  exact ⟨HGV.out _ bU, gU, (HVw.out _ (HX.out _ bU).2.1).bx, by omega, by omega⟩
 have HGB : Hid (∀ w' v, VerP U w' C T v → GB w' N P C T v s lw qd cd qg cg) := fun w' v hv => HGB0.out.ver hv
 have HUw : Hid (Below N w U) := (HX.out _ bU).2.1
 have HBU := Hid.mk bU
 have HU := Hid.mk hU
 clear hU gU bU hB3 hVP
 go_upto_region 5 with fail
 (try rw [hP])
 rw [HU.out]
 clear hP
 have HV5 : Hid (VerP U U.drew C T ver) := VerP.of_below HGB0.out.c (Below.refl _ _).drew
 refine wp_region_held_drew (S := (fun w : World => (w.cell? ⟨N, 0, none⟩ = some (.string s.nm) ∧ w.cell? ⟨N, 1, none⟩ = some (.int .i64 s.ty) ∧ w.cell? ⟨N, 2, none⟩ = some (.int .i64 s.cl) ∧ w.cell? ⟨N, 3, none⟩ = some (.int .i64 s.tl) ∧ w.cell? ⟨N, 4, none⟩ = some (.slice qd s.ds.length cd) ∧ w.cell? ⟨N, 5, none⟩ = some (.slice qg s.sg.length cg)) ∧ w.cell? ⟨C, 0, none⟩ = some (pt T) ∧ w.cell? ⟨P, 0, none⟩ = some (.string lw) ∧ w.cell? ⟨P, 1, none⟩ = some (.int .i64 s.ty))) (by kernel_rfl) (HGB.out _ _ HV5.out).cells (fun hHeld => ?_)
 refine wU (i := 0) (v := ?va_0) rfl ?ya_0 (by assumption) ?_
 case ya_0 => (intro w hSw; (try dsimp only at hSw); go_simp; try with_reducible rfl)
 refine wU (i := 1) (v := ?va_1) rfl ?ya_1 (by assumption) ?_
 case ya_1 => (intro w hSw; (try dsimp only at hSw); go_simp; try with_reducible rfl)
 refine wU (i := 2) (v := ?va_2) rfl ?ya_2 (by assumption) ?_
 case ya_2 => (intro w hSw; (try dsimp only at hSw); go_simp; try with_reducible rfl)
 refine wU (i := 3) (v := ?va_3) rfl ?ya_3 (by assumption) ?_
 case ya_3 => (intro w hSw; (try dsimp only at hSw); go_simp; try with_reducible rfl)
 refine wU (i := 4) (v := ?va_4) rfl ?ya_4 (by assumption) ?_
 case ya_4 => (intro w hSw; (try dsimp only at hSw); go_simp; try with_reducible rfl)
 try simp only [Act.put, List.getElem_toArray, List.getElem_cons_succ, List.getElem_cons_zero, List.setIfInBounds_toArray, List.set_cons_zero, List.set_cons_succ]
 refine wpAnyH_ready (rs := [5]) (by kernel_rfl) (by simp) ?_
 refine AllReadyH.cons rfl (fun K hK => ?_) AllReadyH.nil
 go_simp
 go_at_call 43
 refine (HL.out _ (HUw.out.drew)).mono ?_
 rintro e w4 ⟨rfl, hb4⟩
 have HV4 : Hid (VerP U w4 C T ver) := HV5.out.blk hb4
 have HB4 : Hid (Below N w w4) := HUw.out.drew.trans (hb4.mono (Nat.le_of_lt (blk_lt HGB0.out.n)))
 clear hb4
 refine hK.out _ _ (HGB.out _ _ HV4.out).cells (fun hHeld => ?_)
 clear hK K
 try simp only [Act.put, List.getElem_toArray, List.getElem_cons_succ, List.getElem_cons_zero, List.setIfInBounds_toArray, List.set_cons_zero, List.set_cons_succ]
 refine wU (i := 6) (v := ?vb_6) rfl ?yb_6 (by assumption) ?_
 case yb_6 => (intro w hSw; (try dsimp only at hSw); go_simp; try with_reducible rfl)
 refine wU (i := 7) (v := ?vb_7) rfl ?yb_7 (by assumption) ?_
 case yb_7 => (intro w hSw; (try dsimp only at hSw); go_simp; try with_reducible rfl)
 refine wU (i := 8) (v := ?vb_8) rfl ?yb_8 (by assumption) ?_
 case yb_8 => (intro w hSw; (try dsimp only at hSw); go_simp; try with_reducible rfl)
 try simp only [Act.put, List.getElem_toArray, List.getElem_cons_succ, List.getElem_cons_zero, List.setIfInBounds_toArray, List.set_cons_zero, List.set_cons_succ]
 refine wU (i := 9) (v := ?vc_9) rfl ?yc_9 (by assumption) ?_
 case yc_9 => (intro w hSw; (try dsimp only at hSw); go_simp; try with_reducible rfl)
 try simp only [Act.put, List.getElem_toArray, List.getElem_cons_succ, List.getElem_cons_zero, List.setIfInBounds_toArray, List.set_cons_zero, List.set_cons_succ]
 refine wU (i := 10) (v := ?vd_10) rfl ?yd_10 (by assumption) ?_
 case yd_10 => (intro w hSw; (try dsimp only at hSw); go_simp; try with_reducible rfl)
 try simp only [Act.put, List.getElem_toArray, List.getElem_cons_succ, List.getElem_cons_zero, List.setIfInBounds_toArray, List.set_cons_zero, List.set_cons_succ]
 refine wpAnyH_done (by kernel_rfl) ?_ _
 clear hHeld
 by_cases ht0 : t = 0
 ·have e0 : (t == 0) = true := by simpa using ht0
  have HR := Hid.mk (HRef.out (.inl ht0) _ HB4.out)
  clear ht0
  go_wp2
  go_ret2
  exact HR.out
 ·have e0 : (t == 0) = false := by simpa using ht0
  go_upto_region 8 with fail
  have HV8 : Hid (VerP U (World.drew w4) C T ver) := HV4.out.drew
  refine wp_region_held_drew (S := (fun w : World => (w.cell? ⟨N, 0, none⟩ = some (.string s.nm) ∧ w.cell? ⟨N, 1, none⟩ = some (.int .i64 s.ty) ∧ w.cell? ⟨N, 2, none⟩ = some (.int .i64 s.cl) ∧ w.cell? ⟨N, 3, none⟩ = some (.int .i64 s.tl) ∧ w.cell? ⟨N, 4, none⟩ = some (.slice qd s.ds.length cd) ∧ w.cell? ⟨N, 5, none⟩ = some (.slice qg s.sg.length cg)) ∧ w.cell? ⟨C, 0, none⟩ = some (pt T) ∧ w.cell? ⟨P, 0, none⟩ = some (.string lw) ∧ w.cell? ⟨P, 1, none⟩ = some (.int .i64 s.ty))) (by kernel_rfl) (HGB.out _ _ HV8.out).cells (fun hHeld => ?_)
  refine wU (i := 0) (v := ?ve4_0) rfl ?ye4_0 (by assumption) ?_
  case ye4_0 => (intro w hSw; (try dsimp only at hSw); go_simp; try with_reducible rfl)
  refine wU (i := 1) (v := ?ve4_1) rfl ?ye4_1 (by assumption) ?_
  case ye4_1 => (intro w hSw; (try dsimp only at hSw); go_simp; try with_reducible rfl)
  refine wU (i := 2) (v := ?ve4_2) rfl ?ye4_2 (by assumption) ?_
  case ye4_2 => (intro w hSw; (try dsimp only at hSw); go_simp; try with_reducible rfl)
  refine wU (i := 3) (v := ?ve4_3) rfl ?ye4_3 (by assumption) ?_
  case ye4_3 => (intro w hSw; (try dsimp only at hSw); go_simp; try with_reducible rfl)
  refine wU (i := 4) (v := ?ve4_4) rfl ?ye4_4 (by assumption) ?_
  case ye4_4 => (intro w hSw; (try dsimp only at hSw); go_simp; try with_reducible rfl)
  refine wU (i := 5) (v := ?ve4_5) rfl ?ye4_5 (by assumption) ?_
  case ye4_5 => (intro w hSw; (try dsimp only at hSw); go_simp; try with_reducible rfl)
  try simp only [Act.put, List.getElem_toArray, List.getElem_cons_succ, List.getElem_cons_zero, List.setIfInBounds_toArray, List.set_cons_zero, List.set_cons_succ]
  refine wU (i := 7) (v := ?vf4_7) rfl ?yf4_7 (by assumption) ?_
  case yf4_7 => (intro w hSw; (try dsimp only at hSw); go_simp; try with_reducible rfl)
  refine wU (i := 8) (v := ?vf4_8) rfl ?yf4_8 (by assumption) ?_
  case yf4_8 => (intro w hSw; (try dsimp only at hSw); go_simp; try with_reducible rfl)
  refine wU (i := 9) (v := ?vf4_9) rfl ?yf4_9 (by assumption) ?_
  case yf4_9 => (intro w hSw; (try dsimp only at hSw); go_simp; try with_reducible rfl)
  refine wU (i := 10) (v := ?vf4_10) rfl ?yf4_10 (by assumption) ?_
  case yf4_10 => (intro w hSw; (try dsimp only at hSw); go_simp; try with_reducible rfl)
  refine wU (i := 11) (v := ?vf4_11) rfl ?yf4_11 (by assumption) ?_
  case yf4_11 => (intro w hSw; (try dsimp only at hSw); go_simp; try with_reducible rfl)
  refine wU (i := 13) (v := ?vf4_13) rfl ?yf4_13 (by assumption) ?_
  case yf4_13 => (intro w hSw; (try dsimp only at hSw); go_simp; try with_reducible rfl)
  refine wU (i := 14) (v := ?vf4_14) rfl ?yf4_14 (by assumption) ?_
  case yf4_14 => (intro w hSw; (try dsimp only at hSw); go_simp; try with_reducible rfl)
  try simp only [Act.put, List.getElem_toArray, List.getElem_cons_succ, List.getElem_cons_zero, List.setIfInBounds_toArray, List.set_cons_zero, List.set_cons_succ]
  refine wU (i := 15) (v := ?vg4_15) rfl ?yg4_15 (by assumption) ?_
  case yg4_15 => (intro w hSw; (try dsimp only at hSw); go_simp; try with_reducible rfl)
  try simp only [Act.put, List.getElem_toArray, List.getElem_cons_succ, List.getElem_cons_zero, List.setIfInBounds_toArray, List.set_cons_zero, List.set_cons_succ]
  refine wpAnyH_ready (rs := [6]) (by kernel_rfl) (by simp) ?_
  refine AllReadyH.cons rfl (fun K hK => ?_) AllReadyH.nil
  go_simp
  go_at_call 46
  refine (HCp.out _ HB4.out.drew).mono ?_
  rintro e w5 ⟨q1, c1, q2, c2, rfl, o1, o2, hb5⟩
  have HB5 : Hid (Below N w w5) := HB4.out.drew.trans (hb5.mono (Nat.le_trans (Nat.le_of_lt (blk_lt HGB0.out.n)) HV4.out.size))
  have HV5' : Hid (VerP U w5 C T ver) := HV8.out.blk hb5
  have HO5 : Hid (w5.ownsRow N 9 1 (.slice q1 s.ds.length c1) s.ds.length (strs s.ds) ∧ w5.ownsRow N 9 1 (.slice q2 s.sg.length c2) s.sg.length (strs s.sg)) := ⟨own_lowS o1 (Nat.le_trans (Nat.le_of_lt (blk_lt HGB0.out.n)) HV4.out.size), own_lowS o2 (Nat.le_trans (Nat.le_of_lt (blk_lt HGB0.out.n)) HV4.out.size)⟩
  clear hb5 o1 o2
  refine hK.out _ _ (HGB.out _ _ HV5'.out).cells (fun hHeld => ?_)
  clear hK K
  try simp only [Act.put, List.getElem_toArray, List.getElem_cons_succ, List.getElem_cons_zero, List.setIfInBounds_toArray, List.set_cons_zero, List.set_cons_succ]
  refine wpAnyH_ready (rs := [12]) (by kernel_rfl) (by simp) ?_
  refine AllReadyH.cons rfl (fun K hK => ?_) AllReadyH.nil
  go_simp
  go_at_call 47
  refine (HVe.out _ HB5.out).mono ?_
  rintro e w6 ⟨rfl, hv6⟩
  have HV6 : Hid (VerP U w6 C T vC) := HV5'.out.trans hv6
  have HO6 : Hid (w6.ownsRow N 9 1 (.slice q1 s.ds.length c1) s.ds.length (strs s.ds) ∧ w6.ownsRow N 9 1 (.slice q2 s.sg.length c2) s.sg.length (strs s.sg)) := ⟨own_ver HO5.out.1 hv6 ⟨_, HV5'.out.bx⟩ (by decide), own_ver HO5.out.2 hv6 ⟨_, HV5'.out.bx⟩ (by decide)⟩
  have HW6 : Hid (VerP w w6 C T vC) := (HVw.out _ HB5.out).trans hv6
  clear hv6
  refine hK.out _ _ (HGB.out _ _ HV6.out).cells (fun hHeld => ?_)
  clear hK K
  try simp only [Act.put, List.getElem_toArray, List.getElem_cons_succ, List.getElem_cons_zero, List.setIfInBounds_toArray, List.set_cons_zero, List.set_cons_succ]
  refine wU (i := 16) (v := ?vh4_16) rfl ?yh4_16 (by assumption) ?_
  case yh4_16 => (intro w hSw; (try dsimp only at hSw); go_simp; try with_reducible rfl)
  try simp only [Act.put, List.getElem_toArray, List.getElem_cons_succ, List.getElem_cons_zero, List.setIfInBounds_toArray, List.set_cons_zero, List.set_cons_succ]
  refine wpAnyH_ready (rs := [17]) (by kernel_rfl) (by simp) ?_
  refine AllReadyH.cons rfl (fun K hK => ?_) AllReadyH.nil
  go_simp
  have bA : Below w6.heap.size w6 (w6.alloc (.cells #[.string s.nm, .int .i64 s.ty, .int .i64 s.cl, .int .i64 s.tl, .slice q1 s.ds.length c1, .slice q2 s.sg.length c2, .int .i64 rk, .int .i64 se, .int .i64 vN, .int .i64 (now + t)] 44)) := (Below.refl _ _).alloc (Nat.le_refl _) _
  have HV7 : Hid (VerP U (w6.alloc (.cells #[.string s.nm, .int .i64 s.ty, .int .i64 s.cl, .int .i64 s.tl, .slice q1 s.ds.length c1, .slice q2 s.sg.length c2, .int .i64 rk, .int .i64 se, .int .i64 vN, .int .i64 (now + t)] 44)) C T vC) := HV6.out.blk bA
  have HE7 := Hid.mk (HEnd.out _ q1 c1 q2 c2 w6.heap.size ht0 (HW6.out.blk bA) (by have := blk_lt HGB0.out.n; have := HV6.out.size; omega) (heap_alloc_new w6 _) (own_blk HO6.out.1 bA) (own_blk HO6.out.2 bA))
  clear bA
  refine hK.out _ _ (HGB.out _ _ HV7.out).cells (fun hHeld => ?_)
  clear hK K
  try simp only [Act.put, List.getElem_toArray, List.getElem_cons_succ, List.getElem_cons_zero, List.setIfInBounds_toArray, List.set_cons_zero, List.set_cons_succ]
  refine wpAnyH_ready (rs := [18]) (by kernel_rfl) (by simp) ?_
  refine AllReadyH.cons rfl (fun K hK => ?_) AllReadyH.nil
  go_simp
  go_at_call 45
  refine HE7.out.mono ?_
  rintro r w7 ⟨⟨v, rfl⟩, hrc, hfr, hfn⟩
  have HF7 := Hid.mk (And.intro hrc hfr)
  refine hK.out _ _ ((HGB.out _ _ HV7.out).frn hfn).cells (fun hHeld => ?_)
  clear hK K hrc hfr hfn
  try simp only [Act.put, List.getElem_toArray, List.getElem_cons_succ, List.getElem_cons_zero, List.setIfInBounds_toArray, List.set_cons_zero, List.set_cons_succ]
  refine wpAnyH_done (by kernel_rfl) ?_ _
  clear hHeld
  go_wp2
  go_ret2
  exact HYes.out ht0 rfl _ HF7.out.1 HF7.out.2
set_option maxRecDepth 100000 in
set_option maxHeartbeats 16000000 in
theorem rput_some {W w : World} {C T m n : Nat} {ver : Int} {l : ML} {Q : Nat → Prop} (h : RC W w C T m n ver l Q) (hn : n < 2305843009213693952) (s : Sv) (hs : SvI s) (qd : Option Addr) (cd : Nat) (qg : Option Addr) (cg : Nat) (hat : SvAt w s qd cd qg cg) (rk se now : Int) (hok : putOk s rk se now = true) (b : Nat) (x : Ev) (hget : getR l (keyS s.nm s.ty) = some (b, x)) :
  Calls Tryz.prog 13 #[pt C, .agg (svC s qd cd qg cg).toArray, .int .i64 rk, .int .i64 se, .int .i64 now] w fun e w' => PutP W w w' C T m n ver l Q s rk se now e ∧ FrC T w w' := by
 obtain ⟨hcl, hso, hrk, hse, hnw⟩ := putOk_iff.1 hok
 obtain ⟨N, hN⟩ : ∃ N, w.heap.size = N := ⟨_, rfl⟩
 have hC := blk_lt h.bx
 have hsm := data_small hso
 have htt := ttl_bd hso
 have hko := key_ok hs hso
 have hg1 : getR (l.map fun p => (p.1, p.2.1)) (keyS s.nm s.ty) = some b := by rw [getR_fst, hget]; rfl
 have hg2 : getR (abs l) (keyS s.nm s.ty) = (some x : Option Ev) := by rw [abs_get, hget]; rfl
 obtain ⟨hxe, hxW⟩ := h.ev _ (getR_mem hget)
 obtain ⟨hxk, hxi⟩ := h.ok _ (getR_mem hget)
 obtain ⟨V, hV⟩ : ∃ V, w.alloc (.cells (svC s qd cd qg cg).toArray 34) = V := ⟨_, rfl⟩
 have bV : Below N w V := by rw [← hV, ← hN]; exact (Below.refl _ _).alloc (Nat.le_refl _) _
 have sV : V.heap.size = N + 1 := by rw [← hV]; simp [hN]
 have gV : V.heap[N]? = some (.cells (svC s qd cd qg cg).toArray 34 (0, 0)) := by rw [← hV, ← hN]; exact heap_alloc_new w _
 -- what stays so while nothing but new boxes are written
 have HX : Hid (∀ w', Below V.heap.size V w' → (w'.cell? ⟨N, 0, none⟩ = some (.string s.nm) ∧ w'.cell? ⟨N, 1, none⟩ = some (.int .i64 s.ty) ∧ w'.cell? ⟨N, 2, none⟩ = some (.int .i64 s.cl) ∧ w'.cell? ⟨N, 3, none⟩ = some (.int .i64 s.tl) ∧ w'.cell? ⟨N, 4, none⟩ = some (.slice qd s.ds.length cd) ∧ w'.cell? ⟨N, 5, none⟩ = some (.slice qg s.sg.length cg)) ∧ Below N w w' ∧ w'.cell? ⟨C, 0, none⟩ = some (pt T)) := fun w' hw => by
  have g1 := (hw.block N (by omega)).trans gV
  have g2 := (hw.block C (by omega)).trans ((bV.block C (by omega)).trans h.bx)
  refine ⟨⟨?_, ?_, ?_, ?_, ?_, ?_⟩, bV.trans (hw.mono (by omega)), ?_⟩ <;> first | (rw [So.cell_blk g1]; rfl) | (rw [So.cell_blk g2]; rfl)
 have HRS : Hid (Calls Tryz.prog 38 #[.agg (svC s qd cd qg cg).toArray] V fun e w' => e = .returned (.bool true) ∧ Below V.heap.size V w') := by
  have := rset_in s hs.sv qd cd qg cg V (hat.blk (by rw [hN]; exact bV))
  rw [show (decide (s.cl = 1) && setOk s) = true by rw [decide_eq_true hcl, hso]; rfl] at this
  exact this
 have H1 : Hid (∀ w, Calls Tryz.prog 39 #[.int .i64 rk] w fun e w' => e = .returned (.bool true) ∧ w' = w) := fun w => by have := isRank_in rk w; rw [show rnkB rk = true by unfold rnkB; simp [hrk]] at this; exact this
 have H2 : Hid (∀ w, Calls Tryz.prog 40 #[.int .i64 se] w fun e w' => e = .returned (.bool true) ∧ w' = w) := fun w => by have := isSec_in se w; rw [show secB se = true by unfold secB; simp [hse]] at this; exact this
 have H3 : Hid (∀ w, Calls Tryz.prog 41 #[.int .i64 now] w fun e w' => e = .returned (.bool true) ∧ w' = w) := fun w => by have := isTime_in now w; rw [show timB now = true by unfold timB; simp [hnw]] at this; exact this
 have HKy : Hid (∀ w, Calls Tryz.prog 42 #[.string s.nm, .int .i64 s.ty] w fun e w' => e = .returned (kV (keyS s.nm s.ty)) ∧ Below w.heap.size w w') := fun w => keyOf_in s.nm s.ty (by have := hsm.1; unfold maxLen; omega) w
 have HL : Hid (∀ w', Below N w w' → Calls Tryz.prog 43 #[pt T, kV (keyS s.nm s.ty)] w' fun r w2 => r = .returned (.tuple #[pt b, .bool true]) ∧ Below w'.heap.size w' w2) := fun w' hw => by
  have := look_kv (h.blk (by rw [hN]; exact hw)).tab (keyS s.nm s.ty) hko
  rw [hg1] at this
  exact this
 have HOv : Hid (∀ w', Below N w w' → Calls Tryz.prog 44 #[pt b, .int .i64 now] w' fun e w2 => e = .returned (.bool (over x now)) ∧ w2 = w') := fun w' hw => over_in ((hxe).frc (FrC.below (T := 0) (by rw [hN]; exact hw))) now
 have HCp : Hid (∀ w', Below N w w' → Calls Tryz.prog 46 #[.agg (svC s qd cd qg cg).toArray] w' fun e w2 => ∃ q1 c1 q2 c2, e = .returned (.agg (svC s q1 c1 q2 c2).toArray) ∧ w2.ownsRow w'.heap.size 9 1 (.slice q1 s.ds.length c1) s.ds.length (strs s.ds) ∧ w2.ownsRow w'.heap.size 9 1 (.slice q2 s.sg.length c2) s.sg.length (strs s.sg) ∧ Below w'.heap.size w' w2) := fun w' hw => copied_in s (by omega) (fun d hd => by have := hsm.2.1 d hd; omega) (fun d hd => by have := hsm.2.2.1 d hd; omega) (by omega) (by omega) qd cd qg cg w' (hat.blk (by rw [hN]; exact hw))
 have HVe : Hid (∀ w', Below N w w' → Calls Tryz.prog 47 #[pt C, .agg (svC s qd cd qg cg).toArray, pt b] w' fun e w2 => e = .returned (.int .i64 (verN ver ((some x : Option Ev)) s)) ∧ VerP w' w2 C T (verC ver ((some x : Option Ev)) s)) := fun w' hw => by
  have hr := h.blk (by rw [hN]; exact hw : Below w.heap.size w w')
  have hv := h.vb
  exact version_some hr.bx ⟨hv.1, by omega⟩ x (hr.ev _ (getR_mem hget)).1 hxi s hs.sv hso qd cd qg cg (hat.blk (by rw [hN]; exact hw))
 have hvv : ver < 4611686018427387904 := by have := h.vb; omega
 have hbd := verN_bd (o := (some x : Option Ev)) (s := s) h.vb (fun y hy => by obtain rfl : x = y := Option.some.inj hy; exact hxi)
 have hwr : IntKind.i64.wrap (now + ttl s) = now + ttl s := by rw [IntKind.wrap_i64]; omega
 have hml := h.len
 have hmb := h.mb
 -- the end: from the world ahead of the last call on
 have HEnd : Hid (∀ w3 q1 c1 q2 c2 E, ttl s ≠ 0 → VerP w w3 C T (verC ver ((some x : Option Ev)) s) → N ≤ E → w3.heap[E]? = some (.cells (evC (⟨s, rk, se, verN ver ((some x : Option Ev)) s, now + ttl s⟩ : Ev) q1 c1 q2 c2).toArray 44 (0, 0)) → w3.ownsRow N 9 1 (.slice q1 s.ds.length c1) s.ds.length (strs s.ds) → w3.ownsRow N 9 1 (.slice q2 s.sg.length c2) s.sg.length (strs s.sg) →
   Calls Tryz.prog 45 #[pt T, kV (keyS s.nm s.ty), pt E] w3 fun r w4 => (∃ v, r = .returned v) ∧ (∃ b, w.heap.size ≤ b ∧ RC W w4 C T m (n + 1) (verC ver (getR (abs l) (keyS s.nm s.ty)) s) (putR m l (keyS s.nm s.ty) (b, putX ver (abs l) s rk se now)) (fun g => Q g ∨ (w.heap.size ≤ g ∧ g < w4.heap.size))) ∧ FrC T w w4 ∧ Frn T w3 w4) := by
  intro w3 q1 c1 q2 c2 E htp hv3 hE hbE ho1 ho2
  have hr3 := h.verd (n' := n + 1) hv3 hbd.2 (by omega)
  obtain ⟨E0, M0, L0, hto, hkv⟩ := h.tab
  have ht3 : TabK W w3 T (m : Int) n (l.map fun p => (p.1, p.2.1)) := by
   refine ⟨E0, M0, L0, ⟨hto.tab.same fun b hb => hv3.same b (hto.tab.lt hb) (h.tabC hto b hb), hto.own, hto.bel.trans (hv3.bel _ h.own hto.bel.size)⟩, hkv⟩
  refine (put_kv ht3 (keyS s.nm s.ty) E (by rw [List.length_map]; exact hml) hmb.1 hmb.2 hko (by unfold maxLen; omega)).mono ?_
  rintro r w4 ⟨hr, ht4, hf4⟩
  refine ⟨hr, ⟨E, by rw [hN]; exact hE, ?_⟩, (hv3.frc ⟨_, h.bx⟩).trans (FrC.frn hf4), hf4⟩
  have hX : putX ver (abs l) s rk se now = (⟨s, rk, se, verN ver ((some x : Option Ev)) s, now + ttl s⟩ : Ev) := by unfold putX; rw [hg2]
  rw [hX, hg2]
  rw [show (putR m (l.map fun p => (p.1, p.2.1)) (keyS s.nm s.ty) E) = (putR m l (keyS s.nm s.ty) (E, (⟨s, rk, se, verN ver ((some x : Option Ev)) s, now + ttl s⟩ : Ev))).map fun p => (p.1, p.2.1) from putR_map Prod.fst m l (keyS s.nm s.ty) (E, _)] at ht4
  refine h.put ((hv3.frc ⟨_, h.bx⟩).trans (FrC.frn hf4)) (hf4.same C _ _ _ hv3.bx (by decide) (by decide)) ht4 hbd.2 ?_ (by rw [hN]; exact hE) rfl ?_ (fun g hg => .inl hg)
  ·have hsz := hf4.size
   have o1 := TxQ.of_own' ho1
   have o2 := TxQ.of_own' ho2
   have k1 := own_cap ho1
   have k2 := own_cap ho2
   refine ⟨q1, c1, q2, c2, hf4.same E _ _ _ hbE (by decide) (by decide), ?_, ?_, k1, k2⟩
   ·exact (o1.same (fun g cur _ hg => (hf4.same g _ _ _ hg (by decide) (by decide)).trans hg.symm)).mono (fun g hg => .inr ⟨by rw [hN]; exact hg.1, by omega⟩)
   ·exact (o2.same (fun g cur _ hg => (hf4.same g _ _ _ hg (by decide) (by decide)).trans hg.symm)).mono (fun g hg => .inr ⟨by rw [hN]; exact hg.1, by omega⟩)
  ·exact ⟨hso, hs, by show 1 ≤ now + ttl s ∧ now + ttl s ≤ 4294967295 + 604800; omega, hrk, hse, hbd.1⟩
 -- the ends
 have HRef : Hid ((ttl s = 0 ∨ stops ((some x : Option Ev)) rk now = true) → ∀ w', Below N w w' → PutP W w w' C T m n ver l Q s rk se now (.returned (.tuple #[.bool false, .int .i64 0])) ∧ FrC T w w') := fun hh w' hw => by
  refine ⟨.inr (.inl ⟨hok, ?_, rfl, h.blk (by rw [hN]; exact hw)⟩), FrC.below (by rw [hN]; exact hw)⟩
  unfold refused
  rw [hg2]
  rcases hh with hh | hh
  ·rw [decide_eq_true hh]; rfl
  ·rw [hh, Bool.or_true]
 have HYes : Hid (ttl s ≠ 0 → stops ((some x : Option Ev)) rk now = false → ∀ w4, (∃ b, w.heap.size ≤ b ∧ RC W w4 C T m (n + 1) (verC ver (getR (abs l) (keyS s.nm s.ty)) s) (putR m l (keyS s.nm s.ty) (b, putX ver (abs l) s rk se now)) (fun g => Q g ∨ (w.heap.size ≤ g ∧ g < w4.heap.size))) → FrC T w w4 → PutP W w w4 C T m n ver l Q s rk se now (.returned (.tuple #[.bool true, .int .i64 0])) ∧ FrC T w w4) := fun h1 h2 w4 h3 h4 => by
  refine ⟨.inr (.inr ⟨hok, ?_, rfl, h3⟩), h4⟩
  unfold refused
  rw [hg2, h2, decide_eq_false h1]
  rfl
 have HSt : Hid (stops (some x) rk now = (!over x now && decide (rk < x.rk))) := rfl
 have HR6 : Hid (∀ w', Below N w w' → w'.cell? ⟨b, 6, none⟩ = some (.int .i64 x.rk)) := fun w' hw => by
  obtain ⟨qd, cd, qg, cg, hb, _⟩ := (hxe).frc (FrC.below (T := 0) (by rw [hN]; exact hw : Below w.heap.size w w'))
  rw [So.cell_blk hb]; rfl
 have hCN : ¬ C = N := by omega
 have HCC : Hid (∃ u, w.heap[C]? = some (.cells u 97 (0, 0))) := ⟨_, h.bx⟩
 have HVw : Hid (∀ w', Below N w w' → VerP w w' C T ver) := fun w' hw => VerP.of_below h.bx (by rw [hN]; exact hw)
 obtain ⟨vN, hvN⟩ : ∃ r, verN ver ((some x : Option Ev)) s = r := ⟨_, rfl⟩
 obtain ⟨vC, hvC⟩ : ∃ r, verC ver ((some x : Option Ev)) s = r := ⟨_, rfl⟩
 rw [hvN, hvC] at HVe HEnd
 have ht3 : ttl s = min s.tl 604800 := rfl
 obtain ⟨t, ht⟩ : ∃ t, ttl s = t := ⟨_, rfl⟩
 rw [ht] at HEnd HRef HYes hwr ht3
 obtain ⟨lw, hlw⟩ : ∃ k, (keyS s.nm s.ty).1 = k := ⟨_, rfl⟩
 have hkv : kV (keyS s.nm s.ty) = .agg #[.string lw, .int .i64 s.ty] := by rw [← hlw]; rfl
 rw [hkv] at HKy HL HEnd
 have hVN : N ≤ V.heap.size := by omega
 have hCV : C < V.heap.size := by omega
 have hNV : N < V.heap.size := by omega
 have HGV : Hid (∀ w', Below V.heap.size V w' → w'.heap[N]? = some (.cells #[.string s.nm, .int .i64 s.ty, .int .i64 s.cl, .int .i64 s.tl, .slice qd s.ds.length cd, .slice qg s.sg.length cg] 34 (0, 0))) := fun w' hw => (hw.block N hNV).trans gV
 have HS0 := Hid.mk (And.intro hVN (And.intro hCV (And.intro hNV hCN)))
 simp only [svC] at hV HRS HCp HVe ⊢
 simp only [evC] at HEnd
 have HV := Hid.mk hV
 clear hVN hCV hNV hCN hlw hkv ht hvN hvC hV bV sV gV hat hs hok hcl hso hrk hse hnw hsm htt hko hg1 hg2 hget hml hmb hvv hbd hn hC hxe hxW hxk hxi
 clear h
 have hw0 := (HX.out _ (Below.refl _ _)).1
 go_enter Tryz.func13, Tryz.ntmps13
 go_upto_region 1 with fail
 (try rw [hN])
 rw [HV.out]
 clear hN
 go_wp2_with fail
 refine HRS.out.mono ?_
 rintro e w1 ⟨rfl, hb1⟩
 clear hw0
 have HB1 := Hid.mk hb1
 have hw1 := (HX.out _ hb1).1
 clear hb1
 go_wp2_with fail
 refine (H1.out _).mono ?_
 rintro e w2 ⟨rfl, rfl⟩
 go_wp2_with fail
 refine (H2.out _).mono ?_
 rintro e w2 ⟨rfl, rfl⟩
 go_wp2_with fail
 refine (H3.out _).mono ?_
 rintro e w2 ⟨rfl, rfl⟩
 have hmin : min s.tl 604800 = t := ht3.symm
 clear ht3
 go_wp2_with fail
 refine (HKy.out _).mono ?_
 rintro e w3 ⟨rfl, hb3⟩
 have hB3 : Below V.heap.size V w3 := HB1.out.trans (hb3.mono HB1.out.size)
 clear hw1 hb3
 obtain ⟨P, hP⟩ : ∃ P, w3.heap.size = P := ⟨_, rfl⟩
 obtain ⟨U, hU⟩ : ∃ U, w3.alloc (.cells #[.string lw, .int .i64 s.ty] 94) = U := ⟨_, rfl⟩
 have gU : U.heap[P]? = some (.cells #[.string lw, .int .i64 s.ty] 94 (0, 0)) := by rw [← hU, ← hP]; exact heap_alloc_new w3 _
 have hVP : V.heap.size ≤ P := by rw [← hP]; exact hB3.size
 have bU : Below V.heap.size V U := by rw [← hU]; exact hB3.alloc (by omega) _
 have HGB0 : Hid (GB U N P C T ver s lw qd cd qg cg) := by
  obtain ⟨h1, h2, h3, h4⟩ := HS0.out
  exact ⟨HGV.out _ bU, gU, (HVw.out _ (HX.out _ bU).2.1).bx, by omega, by omega⟩
 have HGB : Hid (∀ w' v, VerP U w' C T v → GB w' N P C T v s lw qd cd qg cg) := fun w' v hv => HGB0.out.ver hv
 have HUw : Hid (Below N w U) := (HX.out _ bU).2.1
 have HBU := Hid.mk bU
 have HU := Hid.mk hU
 clear hU gU bU hB3 hVP
 go_upto_region 5 with fail
 (try rw [hP])
 rw [HU.out]
 clear hP
 have HV5 : Hid (VerP U U.drew C T ver) := VerP.of_below HGB0.out.c (Below.refl _ _).drew
 refine wp_region_held_drew (S := (fun w : World => (w.cell? ⟨N, 0, none⟩ = some (.string s.nm) ∧ w.cell? ⟨N, 1, none⟩ = some (.int .i64 s.ty) ∧ w.cell? ⟨N, 2, none⟩ = some (.int .i64 s.cl) ∧ w.cell? ⟨N, 3, none⟩ = some (.int .i64 s.tl) ∧ w.cell? ⟨N, 4, none⟩ = some (.slice qd s.ds.length cd) ∧ w.cell? ⟨N, 5, none⟩ = some (.slice qg s.sg.length cg)) ∧ w.cell? ⟨C, 0, none⟩ = some (pt T) ∧ w.cell? ⟨P, 0, none⟩ = some (.string lw) ∧ w.cell? ⟨P, 1, none⟩ = some (.int .i64 s.ty))) (by kernel_rfl) (HGB.out _ _ HV5.out).cells (fun hHeld => ?_)
 refine wU (i := 0) (v := ?va_0) rfl ?ya_0 (by assumption) ?_
 case ya_0 => (intro w hSw; (try dsimp only at hSw); go_simp; try with_reducible rfl)
 refine wU (i := 1) (v := ?va_1) rfl ?ya_1 (by assumption) ?_
 case ya_1 => (intro w hSw; (try dsimp only at hSw); go_simp; try with_reducible rfl)
 refine wU (i := 2) (v := ?va_2) rfl ?ya_2 (by assumption) ?_
 case ya_2 => (intro w hSw; (try dsimp only at hSw); go_simp; try with_reducible rfl)
 refine wU (i := 3) (v := ?va_3) rfl ?ya_3 (by assumption) ?_
 case ya_3 => (intro w hSw; (try dsimp only at hSw); go_simp; try with_reducible rfl)
 refine wU (i := 4) (v := ?va_4) rfl ?ya_4 (by assumption) ?_
 case ya_4 => (intro w hSw; (try dsimp only at hSw); go_simp; try with_reducible rfl)
 try simp only [Act.put, List.getElem_toArray, List.getElem_cons_succ, List.getElem_cons_zero, List.setIfInBounds_toArray, List.set_cons_zero, List.set_cons_succ]
 refine wpAnyH_ready (rs := [5]) (by kernel_rfl) (by simp) ?_
 refine AllReadyH.cons rfl (fun K hK => ?_) AllReadyH.nil
 go_simp
 go_at_call 43
 refine (HL.out _ (HUw.out.drew)).mono ?_
 rintro e w4 ⟨rfl, hb4⟩
 have HV4 : Hid (VerP U w4 C T ver) := HV5.out.blk hb4
 have HB4 : Hid (Below N w w4) := HUw.out.drew.trans (hb4.mono (Nat.le_of_lt (blk_lt HGB0.out.n)))
 clear hb4
 refine hK.out _ _ (HGB.out _ _ HV4.out).cells (fun hHeld => ?_)
 clear hK K
 try simp only [Act.put, List.getElem_toArray, List.getElem_cons_succ, List.getElem_cons_zero, List.setIfInBounds_toArray, List.set_cons_zero, List.set_cons_succ]
 refine wU (i := 6) (v := ?vb_6) rfl ?yb_6 (by assumption) ?_
 case yb_6 => (intro w hSw; (try dsimp only at hSw); go_simp; try with_reducible rfl)
 refine wU (i := 7) (v := ?vb_7) rfl ?yb_7 (by assumption) ?_
 case yb_7 => (intro w hSw; (try dsimp only at hSw); go_simp; try with_reducible rfl)
 refine wU (i := 8) (v := ?vb_8) rfl ?yb_8 (by assumption) ?_
 case yb_8 => (intro w hSw; (try dsimp only at hSw); go_simp; try with_reducible rfl)
 try simp only [Act.put, List.getElem_toArray, List.getElem_cons_succ, List.getElem_cons_zero, List.setIfInBounds_toArray, List.set_cons_zero, List.set_cons_succ]
 refine wU (i := 9) (v := ?vc_9) rfl ?yc_9 (by assumption) ?_
 case yc_9 => (intro w hSw; (try dsimp only at hSw); go_simp; try with_reducible rfl)
 try simp only [Act.put, List.getElem_toArray, List.getElem_cons_succ, List.getElem_cons_zero, List.setIfInBounds_toArray, List.set_cons_zero, List.set_cons_succ]
 refine wU (i := 10) (v := ?vd_10) rfl ?yd_10 (by assumption) ?_
 case yd_10 => (intro w hSw; (try dsimp only at hSw); go_simp; try with_reducible rfl)
 try simp only [Act.put, List.getElem_toArray, List.getElem_cons_succ, List.getElem_cons_zero, List.setIfInBounds_toArray, List.set_cons_zero, List.set_cons_succ]
 refine wpAnyH_done (by kernel_rfl) ?_ _
 clear hHeld
 by_cases ht0 : t = 0
 ·have e0 : (t == 0) = true := by simpa using ht0
  have HR := Hid.mk (HRef.out (.inl ht0) _ HB4.out)
  clear ht0
  go_wp2
  go_ret2
  exact HR.out
 ·have e0 : (t == 0) = false := by simpa using ht0
  have HOv4 := Hid.mk (HOv.out _ HB4.out)
  have c6 := HR6.out _ HB4.out
  go_wp2_with fail
  refine HOv4.out.mono ?_
  rintro e w9 ⟨rfl, rfl⟩
  cases ho : over x now with
  | true =>
   have HSn : Hid (stops (some x) rk now = false) := by rw [Hid, HSt.out, ho]; rfl
   clear ho
   go_upto_region 8 with fail
   have HV8 : Hid (VerP U (World.drew w9) C T ver) := HV4.out.drew
   refine wp_region_held_drew (S := (fun w : World => (w.cell? ⟨N, 0, none⟩ = some (.string s.nm) ∧ w.cell? ⟨N, 1, none⟩ = some (.int .i64 s.ty) ∧ w.cell? ⟨N, 2, none⟩ = some (.int .i64 s.cl) ∧ w.cell? ⟨N, 3, none⟩ = some (.int .i64 s.tl) ∧ w.cell? ⟨N, 4, none⟩ = some (.slice qd s.ds.length cd) ∧ w.cell? ⟨N, 5, none⟩ = some (.slice qg s.sg.length cg)) ∧ w.cell? ⟨C, 0, none⟩ = some (pt T) ∧ w.cell? ⟨P, 0, none⟩ = some (.string lw) ∧ w.cell? ⟨P, 1, none⟩ = some (.int .i64 s.ty))) (by kernel_rfl) (HGB.out _ _ HV8.out).cells (fun hHeld => ?_)
   refine wU (i := 0) (v := ?ve6_0) rfl ?ye6_0 (by assumption) ?_
   case ye6_0 => (intro w hSw; (try dsimp only at hSw); go_simp; try with_reducible rfl)
   refine wU (i := 1) (v := ?ve6_1) rfl ?ye6_1 (by assumption) ?_
   case ye6_1 => (intro w hSw; (try dsimp only at hSw); go_simp; try with_reducible rfl)
   refine wU (i := 2) (v := ?ve6_2) rfl ?ye6_2 (by assumption) ?_
   case ye6_2 => (intro w hSw; (try dsimp only at hSw); go_simp; try with_reducible rfl)
   refine wU (i := 3) (v := ?ve6_3) rfl ?ye6_3 (by assumption) ?_
   case ye6_3 => (intro w hSw; (try dsimp only at hSw); go_simp; try with_reducible rfl)
   refine wU (i := 4) (v := ?ve6_4) rfl ?ye6_4 (by assumption) ?_
   case ye6_4 => (intro w hSw; (try dsimp only at hSw); go_simp; try with_reducible rfl)
   refine wU (i := 5) (v := ?ve6_5) rfl ?ye6_5 (by assumption) ?_
   case ye6_5 => (intro w hSw; (try dsimp only at hSw); go_simp; try with_reducible rfl)
   try simp only [Act.put, List.getElem_toArray, List.getElem_cons_succ, List.getElem_cons_zero, List.setIfInBounds_toArray, List.set_cons_zero, List.set_cons_succ]
   refine wU (i := 7) (v := ?vf6_7) rfl ?yf6_7 (by assumption) ?_
   case yf6_7 => (intro w hSw; (try dsimp only at hSw); go_simp; try with_reducible rfl)
   refine wU (i := 8) (v := ?vf6_8) rfl ?yf6_8 (by assumption) ?_
   case yf6_8 => (intro w hSw; (try dsimp only at hSw); go_simp; try with_reducible rfl)
   refine wU (i := 9) (v := ?vf6_9) rfl ?yf6_9 (by assumption) ?_
   case yf6_9 => (intro w hSw; (try dsimp only at hSw); go_simp; try with_reducible rfl)
   refine wU (i := 10) (v := ?vf6_10) rfl ?yf6_10 (by assumption) ?_
   case yf6_10 => (intro w hSw; (try dsimp only at hSw); go_simp; try with_reducible rfl)
   refine wU (i := 11) (v := ?vf6_11) rfl ?yf6_11 (by assumption) ?_
   case yf6_11 => (intro w hSw; (try dsimp only at hSw); go_simp; try with_reducible rfl)
   refine wU (i := 13) (v := ?vf6_13) rfl ?yf6_13 (by assumption) ?_
   case yf6_13 => (intro w hSw; (try dsimp only at hSw); go_simp; try with_reducible rfl)
   refine wU (i := 14) (v := ?vf6_14) rfl ?yf6_14 (by assumption) ?_
   case yf6_14 => (intro w hSw; (try dsimp only at hSw); go_simp; try with_reducible rfl)
   try simp only [Act.put, List.getElem_toArray, List.getElem_cons_succ, List.getElem_cons_zero, List.setIfInBounds_toArray, List.set_cons_zero, List.set_cons_succ]
   refine wU (i := 15) (v := ?vg6_15) rfl ?yg6_15 (by assumption) ?_
   case yg6_15 => (intro w hSw; (try dsimp only at hSw); go_simp; try with_reducible rfl)
   try simp only [Act.put, List.getElem_toArray, List.getElem_cons_succ, List.getElem_cons_zero, List.setIfInBounds_toArray, List.set_cons_zero, List.set_cons_succ]
   refine wpAnyH_ready (rs := [6]) (by kernel_rfl) (by simp) ?_
   refine AllReadyH.cons rfl (fun K hK => ?_) AllReadyH.nil
   go_simp
   go_at_call 46
   refine (HCp.out _ HB4.out.drew).mono ?_
   rintro e w5 ⟨q1, c1, q2, c2, rfl, o1, o2, hb5⟩
   have HB5 : Hid (Below N w w5) := HB4.out.drew.trans (hb5.mono (Nat.le_trans (Nat.le_of_lt (blk_lt HGB0.out.n)) HV4.out.size))
   have HV5' : Hid (VerP U w5 C T ver) := HV8.out.blk hb5
   have HO5 : Hid (w5.ownsRow N 9 1 (.slice q1 s.ds.length c1) s.ds.length (strs s.ds) ∧ w5.ownsRow N 9 1 (.slice q2 s.sg.length c2) s.sg.length (strs s.sg)) := ⟨own_lowS o1 (Nat.le_trans (Nat.le_of_lt (blk_lt HGB0.out.n)) HV4.out.size), own_lowS o2 (Nat.le_trans (Nat.le_of_lt (blk_lt HGB0.out.n)) HV4.out.size)⟩
   clear hb5 o1 o2
   refine hK.out _ _ (HGB.out _ _ HV5'.out).cells (fun hHeld => ?_)
   clear hK K
   try simp only [Act.put, List.getElem_toArray, List.getElem_cons_succ, List.getElem_cons_zero, List.setIfInBounds_toArray, List.set_cons_zero, List.set_cons_succ]
   refine wpAnyH_ready (rs := [12]) (by kernel_rfl) (by simp) ?_
   refine AllReadyH.cons rfl (fun K hK => ?_) AllReadyH.nil
   go_simp
   go_at_call 47
   refine (HVe.out _ HB5.out).mono ?_
   rintro e w6 ⟨rfl, hv6⟩
   have HV6 : Hid (VerP U w6 C T vC) := HV5'.out.trans hv6
   have HO6 : Hid (w6.ownsRow N 9 1 (.slice q1 s.ds.length c1) s.ds.length (strs s.ds) ∧ w6.ownsRow N 9 1 (.slice q2 s.sg.length c2) s.sg.length (strs s.sg)) := ⟨own_ver HO5.out.1 hv6 ⟨_, HV5'.out.bx⟩ (by decide), own_ver HO5.out.2 hv6 ⟨_, HV5'.out.bx⟩ (by decide)⟩
   have HW6 : Hid (VerP w w6 C T vC) := (HVw.out _ HB5.out).trans hv6
   clear hv6
   refine hK.out _ _ (HGB.out _ _ HV6.out).cells (fun hHeld => ?_)
   clear hK K
   try simp only [Act.put, List.getElem_toArray, List.getElem_cons_succ, List.getElem_cons_zero, List.setIfInBounds_toArray, List.set_cons_zero, List.set_cons_succ]
   refine wU (i := 16) (v := ?vh6_16) rfl ?yh6_16 (by assumption) ?_
   case yh6_16 => (intro w hSw; (try dsimp only at hSw); go_simp; try with_reducible rfl)
   try simp only [Act.put, List.getElem_toArray, List.getElem_cons_succ, List.getElem_cons_zero, List.setIfInBounds_toArray, List.set_cons_zero, List.set_cons_succ]
   refine wpAnyH_ready (rs := [17]) (by kernel_rfl) (by simp) ?_
   refine AllReadyH.cons rfl (fun K hK => ?_) AllReadyH.nil
   go_simp
   have bA : Below w6.heap.size w6 (w6.alloc (.cells #[.string s.nm, .int .i64 s.ty, .int .i64 s.cl, .int .i64 s.tl, .slice q1 s.ds.length c1, .slice q2 s.sg.length c2, .int .i64 rk, .int .i64 se, .int .i64 vN, .int .i64 (now + t)] 44)) := (Below.refl _ _).alloc (Nat.le_refl _) _
   have HV7 : Hid (VerP U (w6.alloc (.cells #[.string s.nm, .int .i64 s.ty, .int .i64 s.cl, .int .i64 s.tl, .slice q1 s.ds.length c1, .slice q2 s.sg.length c2, .int .i64 rk, .int .i64 se, .int .i64 vN, .int .i64 (now + t)] 44)) C T vC) := HV6.out.blk bA
   have HE7 := Hid.mk (HEnd.out _ q1 c1 q2 c2 w6.heap.size ht0 (HW6.out.blk bA) (by have := blk_lt HGB0.out.n; have := HV6.out.size; omega) (heap_alloc_new w6 _) (own_blk HO6.out.1 bA) (own_blk HO6.out.2 bA))
   clear bA
   refine hK.out _ _ (HGB.out _ _ HV7.out).cells (fun hHeld => ?_)
   clear hK K
   try simp only [Act.put, List.getElem_toArray, List.getElem_cons_succ, List.getElem_cons_zero, List.setIfInBounds_toArray, List.set_cons_zero, List.set_cons_succ]
   refine wpAnyH_ready (rs := [18]) (by kernel_rfl) (by simp) ?_
   refine AllReadyH.cons rfl (fun K hK => ?_) AllReadyH.nil
   go_simp
   go_at_call 45
   refine HE7.out.mono ?_
   rintro r w7 ⟨⟨v, rfl⟩, hrc, hfr, hfn⟩
   have HF7 := Hid.mk (And.intro hrc hfr)
   refine hK.out _ _ ((HGB.out _ _ HV7.out).frn hfn).cells (fun hHeld => ?_)
   clear hK K hrc hfr hfn
   try simp only [Act.put, List.getElem_toArray, List.getElem_cons_succ, List.getElem_cons_zero, List.setIfInBounds_toArray, List.set_cons_zero, List.set_cons_succ]
   refine wpAnyH_done (by kernel_rfl) ?_ _
   clear hHeld
   go_wp2
   go_ret2
   exact HYes.out ht0 HSn.out _ HF7.out.1 HF7.out.2
  | false =>
   by_cases hr : rk < x.rk
   ·have HSn : Hid (stops (some x) rk now = true) := by rw [Hid, HSt.out, ho, decide_eq_true hr]; rfl
    have HR := Hid.mk (HRef.out (.inr HSn.out) _ HB4.out)
    clear ho
    go_wp2
    go_ret2
    exact HR.out
   ·have HSn : Hid (stops (some x) rk now = false) := by rw [Hid, HSt.out, ho, decide_eq_false hr]; rfl
    clear ho
    go_upto_region 8 with fail
    have HV8 : Hid (VerP U (World.drew w9) C T ver) := HV4.out.drew
    refine wp_region_held_drew (S := (fun w : World => (w.cell? ⟨N, 0, none⟩ = some (.string s.nm) ∧ w.cell? ⟨N, 1, none⟩ = some (.int .i64 s.ty) ∧ w.cell? ⟨N, 2, none⟩ = some (.int .i64 s.cl) ∧ w.cell? ⟨N, 3, none⟩ = some (.int .i64 s.tl) ∧ w.cell? ⟨N, 4, none⟩ = some (.slice qd s.ds.length cd) ∧ w.cell? ⟨N, 5, none⟩ = some (.slice qg s.sg.length cg)) ∧ w.cell? ⟨C, 0, none⟩ = some (pt T) ∧ w.cell? ⟨P, 0, none⟩ = some (.string lw) ∧ w.cell? ⟨P, 1, none⟩ = some (.int .i64 s.ty))) (by kernel_rfl) (HGB.out _ _ HV8.out).cells (fun hHeld => ?_)
    refine wU (i := 0) (v := ?ve8_0) rfl ?ye8_0 (by assumption) ?_
    case ye8_0 => (intro w hSw; (try dsimp only at hSw); go_simp; try with_reducible rfl)
    refine wU (i := 1) (v := ?ve8_1) rfl ?ye8_1 (by assumption) ?_
    case ye8_1 => (intro w hSw; (try dsimp only at hSw); go_simp; try with_reducible rfl)
    refine wU (i := 2) (v := ?ve8_2) rfl ?ye8_2 (by assumption) ?_
    case ye8_2 => (intro w hSw; (try dsimp only at hSw); go_simp; try with_reducible rfl)
    refine wU (i := 3) (v := ?ve8_3) rfl ?ye8_3 (by assumption) ?_
    case ye8_3 => (intro w hSw; (try dsimp only at hSw); go_simp; try with_reducible rfl)
    refine wU (i := 4) (v := ?ve8_4) rfl ?ye8_4 (by assumption) ?_
    case ye8_4 => (intro w hSw; (try dsimp only at hSw); go_simp; try with_reducible rfl)
    refine wU (i := 5) (v := ?ve8_5) rfl ?ye8_5 (by assumption) ?_
    case ye8_5 => (intro w hSw; (try dsimp only at hSw); go_simp; try with_reducible rfl)
    try simp only [Act.put, List.getElem_toArray, List.getElem_cons_succ, List.getElem_cons_zero, List.setIfInBounds_toArray, List.set_cons_zero, List.set_cons_succ]
    refine wU (i := 7) (v := ?vf8_7) rfl ?yf8_7 (by assumption) ?_
    case yf8_7 => (intro w hSw; (try dsimp only at hSw); go_simp; try with_reducible rfl)
    refine wU (i := 8) (v := ?vf8_8) rfl ?yf8_8 (by assumption) ?_
    case yf8_8 => (intro w hSw; (try dsimp only at hSw); go_simp; try with_reducible rfl)
    refine wU (i := 9) (v := ?vf8_9) rfl ?yf8_9 (by assumption) ?_
    case yf8_9 => (intro w hSw; (try dsimp only at hSw); go_simp; try with_reducible rfl)
    refine wU (i := 10) (v := ?vf8_10) rfl ?yf8_10 (by assumption) ?_
    case yf8_10 => (intro w hSw; (try dsimp only at hSw); go_simp; try with_reducible rfl)
    refine wU (i := 11) (v := ?vf8_11) rfl ?yf8_11 (by assumption) ?_
    case yf8_11 => (intro w hSw; (try dsimp only at hSw); go_simp; try with_reducible rfl)
    refine wU (i := 13) (v := ?vf8_13) rfl ?yf8_13 (by assumption) ?_
    case yf8_13 => (intro w hSw; (try dsimp only at hSw); go_simp; try with_reducible rfl)
    refine wU (i := 14) (v := ?vf8_14) rfl ?yf8_14 (by assumption) ?_
    case yf8_14 => (intro w hSw; (try dsimp only at hSw); go_simp; try with_reducible rfl)
    try simp only [Act.put, List.getElem_toArray, List.getElem_cons_succ, List.getElem_cons_zero, List.setIfInBounds_toArray, List.set_cons_zero, List.set_cons_succ]
    refine wU (i := 15) (v := ?vg8_15) rfl ?yg8_15 (by assumption) ?_
    case yg8_15 => (intro w hSw; (try dsimp only at hSw); go_simp; try with_reducible rfl)
    try simp only [Act.put, List.getElem_toArray, List.getElem_cons_succ, List.getElem_cons_zero, List.setIfInBounds_toArray, List.set_cons_zero, List.set_cons_succ]
    refine wpAnyH_ready (rs := [6]) (by kernel_rfl) (by simp) ?_
    refine AllReadyH.cons rfl (fun K hK => ?_) AllReadyH.nil
    go_simp
    go_at_call 46
    refine (HCp.out _ HB4.out.drew).mono ?_
    rintro e w5 ⟨q1, c1, q2, c2, rfl, o1, o2, hb5⟩
    have HB5 : Hid (Below N w w5) := HB4.out.drew.trans (hb5.mono (Nat.le_trans (Nat.le_of_lt (blk_lt HGB0.out.n)) HV4.out.size))
    have HV5' : Hid (VerP U w5 C T ver) := HV8.out.blk hb5
    have HO5 : Hid (w5.ownsRow N 9 1 (.slice q1 s.ds.length c1) s.ds.length (strs s.ds) ∧ w5.ownsRow N 9 1 (.slice q2 s.sg.length c2) s.sg.length (strs s.sg)) := ⟨own_lowS o1 (Nat.le_trans (Nat.le_of_lt (blk_lt HGB0.out.n)) HV4.out.size), own_lowS o2 (Nat.le_trans (Nat.le_of_lt (blk_lt HGB0.out.n)) HV4.out.size)⟩
    clear hb5 o1 o2
    refine hK.out _ _ (HGB.out _ _ HV5'.out).cells (fun hHeld => ?_)
    clear hK K
    try simp only [Act.put, List.getElem_toArray, List.getElem_cons_succ, List.getElem_cons_zero, List.setIfInBounds_toArray, List.set_cons_zero, List.set_cons_succ]
    refine wpAnyH_ready (rs := [12]) (by kernel_rfl) (by simp) ?_
    refine AllReadyH.cons rfl (fun K hK => ?_) AllReadyH.nil
    go_simp
    go_at_call 47
    refine (HVe.out _ HB5.out).mono ?_
    rintro e w6 ⟨rfl, hv6⟩
    have HV6 : Hid (VerP U w6 C T vC) := HV5'.out.trans hv6
    have HO6 : Hid (w6.ownsRow N 9 1 (.slice q1 s.ds.length c1) s.ds.length (strs s.ds) ∧ w6.ownsRow N 9 1 (.slice q2 s.sg.length c2) s.sg.length (strs s.sg)) := ⟨own_ver HO5.out.1 hv6 ⟨_, HV5'.out.bx⟩ (by decide), own_ver HO5.out.2 hv6 ⟨_, HV5'.out.bx⟩ (by decide)⟩
    have HW6 : Hid (VerP w w6 C T vC) := (HVw.out _ HB5.out).trans hv6
    clear hv6
    refine hK.out _ _ (HGB.out _ _ HV6.out).cells (fun hHeld => ?_)
    clear hK K
    try simp only [Act.put, List.getElem_toArray, List.getElem_cons_succ, List.getElem_cons_zero, List.setIfInBounds_toArray, List.set_cons_zero, List.set_cons_succ]
    refine wU (i := 16) (v := ?vh8_16) rfl ?yh8_16 (by assumption) ?_
    case yh8_16 => (intro w hSw; (try dsimp only at hSw); go_simp; try with_reducible rfl)
    try simp only [Act.put, List.getElem_toArray, List.getElem_cons_succ, List.getElem_cons_zero, List.setIfInBounds_toArray, List.set_cons_zero, List.set_cons_succ]
    refine wpAnyH_ready (rs := [17]) (by kernel_rfl) (by simp) ?_
    refine AllReadyH.cons rfl (fun K hK => ?_) AllReadyH.nil
    go_simp
    have bA : Below w6.heap.size w6 (w6.alloc (.cells #[.string s.nm, .int .i64 s.ty, .int .i64 s.cl, .int .i64 s.tl, .slice q1 s.ds.length c1, .slice q2 s.sg.length c2, .int .i64 rk, .int .i64 se, .int .i64 vN, .int .i64 (now + t)] 44)) := (Below.refl _ _).alloc (Nat.le_refl _) _
    have HV7 : Hid (VerP U (w6.alloc (.cells #[.string s.nm, .int .i64 s.ty, .int .i64 s.cl, .int .i64 s.tl, .slice q1 s.ds.length c1, .slice q2 s.sg.length c2, .int .i64 rk, .int .i64 se, .int .i64 vN, .int .i64 (now + t)] 44)) C T vC) := HV6.out.blk bA
    have HE7 := Hid.mk (HEnd.out _ q1 c1 q2 c2 w6.heap.size ht0 (HW6.out.blk bA) (by have := blk_lt HGB0.out.n; have := HV6.out.size; omega) (heap_alloc_new w6 _) (own_blk HO6.out.1 bA) (own_blk HO6.out.2 bA))
    clear bA
    refine hK.out _ _ (HGB.out _ _ HV7.out).cells (fun hHeld => ?_)
    clear hK K
    try simp only [Act.put, List.getElem_toArray, List.getElem_cons_succ, List.getElem_cons_zero, List.setIfInBounds_toArray, List.set_cons_zero, List.set_cons_succ]
    refine wpAnyH_ready (rs := [18]) (by kernel_rfl) (by simp) ?_
    refine AllReadyH.cons rfl (fun K hK => ?_) AllReadyH.nil
    go_simp
    go_at_call 45
    refine HE7.out.mono ?_
    rintro r w7 ⟨⟨v, rfl⟩, hrc, hfr, hfn⟩
    have HF7 := Hid.mk (And.intro hrc hfr)
    refine hK.out _ _ ((HGB.out _ _ HV7.out).frn hfn).cells (fun hHeld => ?_)
    clear hK K hrc hfr hfn
    try simp only [Act.put, List.getElem_toArray, List.getElem_cons_succ, List.getElem_cons_zero, List.setIfInBounds_toArray, List.set_cons_zero, List.set_cons_succ]
    refine wpAnyH_done (by kernel_rfl) ?_ _
    clear hHeld
    go_wp2
    go_ret2
    exact HYes.out ht0 HSn.out _ HF7.out.1 HF7.out.2
end Go.Proofs.YtikjepodmdaknaaGreatDoor.Rc
