/- Texts of this proof, joined: LdI, LdJ. -/
import Derived.Test.YtimnnogaiglceaaGreatDoorJ17
/- Layer 14: chosen. -/
namespace Go.Proofs.YtimnnogaiglceaaGreatDoor
set_option linter.unusedVariables false
set_option linter.unusedSimpArgs false
open Go.RowKit
open So (El elC SRow)
attribute [local go_sem ↓] app_s
theorem own_low {w : World} {N M e size k : Nat} {v : Value} {l : List Value} (hr : w.ownsRow M e size v k l) (hN : N ≤ M) : w.ownsRow N e size v k l := by
  obtain ⟨hl, h0 | ⟨g, cap, cur, hv, hg0, r⟩⟩ := hr
  · exact ⟨hl, .inl h0⟩
  · exact ⟨hl, .inr ⟨g, cap, cur, hv, Nat.le_trans hN hg0, r⟩⟩
theorem Src.cell {w : World} {q : Option Addr} {els : List El} (h : Src w q els) (i : Nat) (hi : i < els.length) : ∃ g o, q = some ⟨g, o, none⟩ ∧ ∀ j, j < 6 → w.cell? ⟨g, o + i * 6 + j, none⟩ = els[i].c[j]? := by
  obtain ⟨g, f, E, e, hr, hE⟩ := h (by omega)
  have hlen : f + i < E.length := by
    have := congrArg List.length hE
    rw [List.length_take, List.length_drop] at this
    omega
  refine ⟨g, f * 6, e, fun j hj => ?_⟩
  have := hr.cell (f + i) hlen j hj
  have e1 : E[f + i] = els[i] := by
    have h1 : els[i]? = E[f + i]? := by rw [← hE, List.getElem?_take, if_pos hi, List.getElem?_drop]
    rw [List.getElem?_eq_getElem hi, List.getElem?_eq_getElem hlen] at h1
    simpa using h1.symm
  rw [Nat.add_mul, e1] at this
  exact this
theorem app_one {M : Nat} {w : World} {v : Value} {ss : List St} (h : SetsAt M w v ss) (hM : M ≤ w.heap.size) (hl : ss.length ≤ 1000) (e : El) (s : St) (he : ElSt M w e s) {qd : Option Addr} {nd cd : Nat} (hd : e.dv = .slice qd nd cd) :
    ∃ v' w3, (bAppS #[v, .slice (some ⟨w.heap.size, 0, none⟩) 1 1]).run Tryz.prog (w.alloc (.cells #[.string (nm e.ls), .int .i64 e.ty, .int .i64 e.cl, .int .i64 e.tl, .slice qd nd cd, .slice none 0 0] 44)) = .ok v' w3 ∧ SetsAt M w3 v' (ss ++ [s]) ∧ Below M w w3 := by
  obtain ⟨i0, hi, hz0, hz1, hz2⟩ := info_parts' infoSt
  obtain ⟨els, hr, hf⟩ := h
  have hlen := hf.len
  obtain ⟨U, hU⟩ : ∃ U, w.alloc (.cells #[.string (nm e.ls), .int .i64 e.ty, .int .i64 e.cl, .int .i64 e.tl, .slice qd nd cd, .slice none 0 0] 44) = U := ⟨_, rfl⟩
  have hec : e.c = [.string (nm e.ls), .int .i64 e.ty, .int .i64 e.cl, .int .i64 e.tl, .slice qd nd cd, .slice none 0 0] := by rw [El.c, hd, he.sv]
  have bU : Below w.heap.size w U := hU ▸ (Below.refl _ _).alloc (Nat.le_refl _) _
  have hrU := own_blk hr bU
  have hnew : U.heap[w.heap.size]? = some (.cells #[.string (nm e.ls), .int .i64 e.ty, .int .i64 e.cl, .int .i64 e.tl, .slice qd nd cd, .slice none 0 0] 44 (0, 0)) := hU ▸ heap_alloc_new w _
  have hnews : ∀ (j : Nat) u, e.c[j]? = some u → U.cell? ((⟨w.heap.size, 0, none⟩ : Addr).add j) = some u := fun j u hu => by
    rw [So.add_of, Nat.zero_add, So.cell_blk hnew, ← hu, hec, List.getElem?_toArray]
  have hone : ∀ u ∈ e.c, u.oneCell' = true := by
    intro u hu
    rw [hec] at hu
    simp only [List.mem_cons, List.not_mem_nil, or_false] at hu
    rcases hu with rfl | rfl | rfl | rfl | rfl | rfl <;> rfl
  obtain ⟨v', w3, hrun, hown, hg, _, hat⟩ := run_append_own_at (P := Tryz.prog) U M 37 37 44 i0 _ 6 88 Tryz.underlying37 hi hz0 hz1 hz2 rfl (by decide) v els.length (elC els) hrU ⟨w.heap.size, 0, none⟩ 1 1 e.c (by rw [El.len]) hnews hone (by unfold maxLen; omega) (by omega) (Nat.le_trans hM bU.size)
  have b3 : Below M U w3 := (Below.refl _ _).grown hg (Nat.le_trans hM bU.size) (fun b hb' => (own_lt hrU hb').2.1)
  have keep : ∀ (e : El) (s : St), ElSt M w e s → ElSt M w3 e s := fun e s hs => (hs.keep fun b c f _ hc => bU.block b (Array.getElem?_eq_some_iff.1 hc).1).keep fun b c f _ hc => by
    refine grown_blk hg (Array.getElem?_eq_some_iff.1 hc).1 (fun e0 => ?_)
    obtain ⟨_, _, c', hc'⟩ := own_lt hrU e0
    rw [hc] at hc'
    simp at hc'
  refine ⟨v', w3, by rw [hU]; exact hrun, ⟨els ++ [e], ?_, (hf.mono keep).app ⟨keep _ _ he, trivial⟩⟩, (bU.mono hM).trans b3⟩
  rw [So.elC_app, List.length_append]
  have e2 : elC [e] = e.c := by rw [So.elC_cons]; simp [elC]
  rw [e2]
  exact hown
structure Cs (N : Nat) (W : World) (v : Value) (ss : List St) (w : World) : Prop where
  at' : SetsAt N w v ss
  bel : Below N W w
set_option maxRecDepth 100000 in
set_option maxHeartbeats 4000000 in
theorem chosen_in (N : Nat) (W : World) (q : Option Addr) (cap : Nat) (els : List El) (ss : List St) (hq : Src W q els) (hrel : F2 (ElSt N W) els ss) (hds : ∀ s ∈ ss, s.ds.length ≤ 1000) (hl : els.length ≤ 1000) (n : N3) (hn : OkN n) (kind : Int) :
    Calls Tryz.prog 68 #[.slice q els.length cap, .string (nm n), .int .i64 kind] W fun e w' => ∃ v, e = .returned (.tuple #[.int .i64 (chosR ss n kind).1, v]) ∧ SetsAt W.heap.size w' v (chosR ss n kind).2 ∧ Below W.heap.size W w' := by
  obtain ⟨M, hM⟩ : ∃ M, W.heap.size = M := ⟨_, rfl⟩
  have HM := Hid.mk hM
  have hlen := hrel.len
  have hc : chosR ss n kind = if ((ss.filter (picks kind)).map fun s => ({ s with ls := n } : St)).length = 0 then (4, []) else (3, (ss.filter (picks kind)).map fun s => ({ s with ls := n } : St)) := by unfold chosR; rw [List.length_map]
  obtain ⟨R, hR⟩ : ∃ R : List St → List St, (fun l => (l.filter (picks kind)).map fun s => ({ s with ls := n } : St)) = R := ⟨_, rfl⟩
  have hRs : ∀ l, ((l.filter (picks kind)).map fun s => ({ s with ls := n } : St)) = R l := fun l => by rw [← hR]
  rw [hRs] at hc
  have HRyes : Hid (∀ l s, picks kind s = true → R (l ++ [s]) = R l ++ [({ s with ls := n } : St)]) := fun l s h => by rw [← hR]; simp [List.filter_append, h]
  have HRno : Hid (∀ l s, picks kind s = false → R (l ++ [s]) = R l) := fun l s h => by rw [← hR]; simp [List.filter_append, h]
  have HRl : Hid (∀ l, (R l).length ≤ l.length) := fun l => by rw [← hR]; simp only [List.length_map]; exact List.length_filter_le _ _
  have HC := Hid.mk (clone_in (nm n) · (by rw [nm_size]; have := hn.len; omega))
  have HBL : Hid (∀ w i, i < els.length → Below M W w → ∃ g o, q = some ⟨g, o, none⟩ ∧ ∃ (e : El) (s : St) (qd : Option Addr) (cd : Nat), w.cell? ⟨g, o + i * 6, none⟩ = some (.string (nm e.ls)) ∧ w.cell? ⟨g, o + i * 6 + 1, none⟩ = some (.int .i64 s.ty) ∧ w.cell? ⟨g, o + i * 6 + 2, none⟩ = some (.int .i64 s.cl) ∧ w.cell? ⟨g, o + i * 6 + 3, none⟩ = some (.int .i64 s.tl) ∧ w.cell? ⟨g, o + i * 6 + 4, none⟩ = some (.slice qd s.ds.length cd) ∧ w.cell? ⟨g, o + i * 6 + 5, none⟩ = some (.slice none 0 0) ∧ Hid (ss.take (i + 1) = ss.take i ++ [s] ∧ w.ownsRow N 9 1 (.slice qd s.ds.length cd) s.ds.length (strs s.ds) ∧ s.ds.length ≤ 1000)) := by
    intro w i hi hb
    rw [← hM] at hb
    obtain ⟨g, o, e, hcl⟩ := (hq.blk hb).cell i hi
    have hi' : i < ss.length := by omega
    have hes := (hrel.at i hi hi').keep (w' := w) fun b c f _ hc => hb.block b (Array.getElem?_eq_some_iff.1 hc).1
    obtain ⟨qd, cd, hdv⟩ := srow_any hes.dv
    have hcc : els[i].c = [.string (nm els[i].ls), .int .i64 ss[i].ty, .int .i64 ss[i].cl, .int .i64 ss[i].tl, .slice qd ss[i].ds.length cd, .slice none 0 0] := by rw [El.c, hes.sv, hes.ty, hes.cl, hes.tl, hdv]
    rw [hcc] at hcl
    have hd := hes.dv
    rw [hdv] at hd
    exact ⟨g, o, e, els[i], ss[i], qd, cd, hcl 0 (by decide), hcl 1 (by decide), hcl 2 (by decide), hcl 3 (by decide), hcl 4 (by decide), hcl 5 (by decide), List.take_succ_eq_append_getElem hi', hd, hds _ (List.getElem_mem hi')⟩
  have H0 : Hid (Cs M W (.slice none 0 0) (R (ss.take 0)) W) := ⟨⟨[], World.ownsRow_nil .., by rw [← hR]; exact trivial⟩, Below.refl _ _⟩
  have HCh := Hid.mk hc
  have HLs := Hid.mk hlen
  obtain ⟨c0, hc0⟩ : ∃ c0, chosR ss n kind = c0 := ⟨_, rfl⟩
  rw [hc0] at HCh ⊢
  obtain ⟨m, hm⟩ : ∃ m, els.length = m := ⟨_, rfl⟩
  rw [hm] at HBL hl HLs ⊢
  rw [hM]
  clear hm hrel hq hds hlen hRs hR hc hM hc0
  go_enter Tryz.func68, Tryz.ntmps68
  go_wp2
  go_loopw [13, 8] (fun iv lv wr => ∃ (i k : Nat) (qv : Option Addr) (cv : Nat), i ≤ m ∧ iv = .int .i64 (i : Int) ∧ lv = .slice qv k cv ∧ Hid (k = (R (ss.take i)).length ∧ Cs M W lv (R (ss.take i)) wr)) (fun iv _ _ => m - (intOf iv).toNat)
  case atStart => exact ⟨0, 0, none, 0, Nat.zero_le _, rfl, rfl, by have := HRl.out []; simp at this; simp [this], H0.out⟩
  case round =>
    obtain ⟨i, k, qv, cv, hi, rfl, rfl, HS⟩ := hrel
    by_cases hlt : i < m
    · have hlz : (i : Int) < (m : Int) := by omega
      have wi : IntKind.i64.wrap ((i : Int) + 1) = ((i + 1 : Nat) : Int) := by rw [IntKind.wrap_i64]; omega
      obtain ⟨b, off, rfl, e, s, qd, cd, c0, c1, c2, c3, c4, c5, hes⟩ := HBL.out wr i hlt HS.out.2.bel
      have hMr : M ≤ wr.heap.size := by rw [← HM.out]; exact HS.out.2.bel.size
      obtain ⟨V, hV⟩ : ∃ V, wr.alloc (.cells #[.string (nm e.ls), .int .i64 s.ty, .int .i64 s.cl, .int .i64 s.tl, .slice qd s.ds.length cd, .slice none 0 0] 44) = V := ⟨_, rfl⟩
      have X0 : Bx wr wr.heap.size [.string (nm e.ls), .int .i64 s.ty, .int .i64 s.cl, .int .i64 s.tl, .slice qd s.ds.length cd, .slice none 0 0] 44 V := hV ▸ Bx.new wr _ _
      have HX := Hid.mk X0
      obtain ⟨B, hB⟩ : ∃ B, wr.heap.size = B := ⟨_, rfl⟩
      rw [hB] at HX
      have HB := Hid.mk hB
      have x1 := X0.cell 1 _ rfl
      rw [hB] at x1
      have HV := Hid.mk hV
      have HSV : Hid (SetsAt M V (.slice qv k cv) (R (ss.take i))) := HS.out.2.at'.blk X0.bel
      have HBV : Hid (Below M W V) := HS.out.2.bel.trans (X0.bel.mono hMr)
      have hMV : M ≤ V.heap.size := Nat.le_trans hMr X0.bel.size
      have HDs : Hid (∀ w, Below V.heap.size V w → Calls Tryz.prog 93 #[.slice qd s.ds.length cd] w fun e w' => ∃ v', e = .returned v' ∧ w'.ownsRow w.heap.size 9 1 v' s.ds.length (strs s.ds) ∧ Below w.heap.size w w') := fun w hb => sclone_in (own_blk (own_blk hes.out.2.1 X0.bel) hb) hes.out.2.2
      have HTk := Hid.mk hes.out.1
      have hlk : Hid ((R (ss.take i)).length ≤ 1000) := Nat.le_trans (HRl.out _) (by rw [List.length_take]; omega)
      have hkk := Hid.mk HS.out.1
      have hwr := Hid.mk HS.out.2.at'
      have hwb := Hid.mk HS.out.2.bel
      clear hB X0 hV HS hes HBL H0 HRl
      cases hp : picks kind s with
      | false =>
        have hp1 : ¬ s.ty = kind := fun h => by simp [picks, h] at hp
        have hp2 : ¬ kind = 255 := fun h => by simp [picks, h] at hp
        have HE : Hid (k = (R (ss.take (i + 1))).length ∧ Cs M W (.slice qv k cv) (R (ss.take (i + 1))) V) := by
          show _ ∧ _
          rw [HTk.out, HRno.out _ _ hp]
          exact ⟨hkk.out, HSV.out, HBV.out⟩
        have hd1 : (s.ty == kind) = false := by simpa using hp1
        have hd2 : (kind == 255) = false := by simpa using hp2
        clear hp hkk HSV HBV HDs HX HRyes HRno
        go_upto_region 5 with fail
        rw [HV.out, HB.out]
        go_wp2
        go_roundw
        case rel => exact ⟨i + 1, k, qv, cv, by omega, by first | rfl | go_num, rfl, HE⟩
        case measure => simp [intOf]; omega
      | true =>
        have hd : s.ty = kind ∨ ¬ s.ty = kind ∧ kind = 255 := by
          simp only [picks, Bool.or_eq_true, beq_iff_eq] at hp
          rcases hp with h | h
          · exact .inl h
          · by_cases e : s.ty = kind
            · exact .inl e
            · exact .inr ⟨e, h⟩
        have HRe : Hid (R (ss.take (i + 1)) = R (ss.take i) ++ [({ s with ls := n } : St)]) := by show _ = _; rw [HTk.out, HRyes.out _ _ hp]
        clear hp HRyes HRno HTk
        have hVd : ∀ w2, Below V.heap.size V w2 → w2.cell? ⟨B, 4, none⟩ = some (.slice qd s.ds.length cd) := fun w2 hb => (HX.out.blk hb).cell 4 _ rfl
        have HVd := Hid.mk hVd
        have HFin : Hid (∀ w3 v' qn cn, v' = .slice qn s.ds.length cn → Below V.heap.size V w3 → w3.ownsRow M 9 1 v' s.ds.length (strs s.ds) → w3.frozen? ⟨B, 0, none⟩ = false ∧ w3.cell? ⟨B, 0, none⟩ = some (.string (nm e.ls)) ∧ ∃ w5, (w3.setCell ⟨B, 0, none⟩ (.string (nm n))).setCell ⟨B, 4, none⟩ v' = w5 ∧ (w3.setCell ⟨B, 0, none⟩ (.string (nm n))).frozen? ⟨B, 4, none⟩ = false ∧ (w3.setCell ⟨B, 0, none⟩ (.string (nm n))).cell? ⟨B, 4, none⟩ = some (.slice qd s.ds.length cd) ∧ w5.cell? ⟨B, 0, none⟩ = some (.string (nm n)) ∧ w5.cell? ⟨B, 1, none⟩ = some (.int .i64 s.ty) ∧ w5.cell? ⟨B, 2, none⟩ = some (.int .i64 s.cl) ∧ w5.cell? ⟨B, 3, none⟩ = some (.int .i64 s.tl) ∧ w5.cell? ⟨B, 4, none⟩ = some v' ∧ w5.cell? ⟨B, 5, none⟩ = some (.slice none 0 0) ∧ ∃ v6 w6 q6 c6, (bAppS #[.slice qv k cv, .slice (some ⟨w5.heap.size, 0, none⟩) 1 1]).run Tryz.prog (w5.alloc (.cells #[.string (nm n), .int .i64 s.ty, .int .i64 s.cl, .int .i64 s.tl, v', .slice none 0 0] 44)) = .ok v6 w6 ∧ v6 = .slice q6 (k + 1) c6 ∧ Hid (k + 1 = (R (ss.take (i + 1))).length ∧ Cs M W (.slice q6 (k + 1) c6) (R (ss.take (i + 1))) w6)) := by
          intro w3 v' qn cn hv hb hd
          have xx := HX.out.blk hb
          have hB3 := xx.hb
          have hB4 := hset hB3 0 (.string (nm n))
          have hB5 := hset hB4 4 v'
          have b5 : Below wr.heap.size wr ((w3.setCell ⟨B, 0, none⟩ (.string (nm n))).setCell ⟨B, 4, none⟩ v') := (xx.bel.setCell (p := ⟨B, 0, none⟩) xx.le _).setCell (p := ⟨B, 4, none⟩) xx.le _
          have s5 : SetsAt M ((w3.setCell ⟨B, 0, none⟩ (.string (nm n))).setCell ⟨B, 4, none⟩ v') (.slice qv k cv) (R (ss.take i)) := by
            have := hwr.out.blk b5
            exact this
          have d5 : ((w3.setCell ⟨B, 0, none⟩ (.string (nm n))).setCell ⟨B, 4, none⟩ v').ownsRow M 9 1 v' s.ds.length (strs s.ds) := by
            refine own_same (own_same hd fun b c f _ hc => Below.heap_setCell _ _ _ _ (fun e0 => by obtain rfl : b = B := e0; rw [hB3] at hc; simp at hc)) fun b c f _ hc => Below.heap_setCell _ _ _ _ (fun e0 => by obtain rfl : b = B := e0; rw [hB4] at hc; simp at hc)
          obtain ⟨v6, w6, r6, s6, b6⟩ := app_one s5 (Nat.le_trans hMr b5.size) hlk.out ⟨n, s.ty, s.cl, s.tl, v', .slice none 0 0⟩ { s with ls := n } ⟨rfl, rfl, rfl, rfl, rfl, d5⟩ hv
          obtain ⟨els6, o6, f6⟩ := s6
          obtain ⟨q6, c6, hv6⟩ := srow_any o6
          have hk6 : els6.length = k + 1 := by rw [f6.len, List.length_append, ← hkk.out]; rfl
          rw [hk6] at hv6
          refine ⟨by unfold World.frozen?; simp [hB3], xx.cell 0 _ rfl, _, rfl, by unfold World.frozen?; simp [hB4], by rw [So.cell_blk hB4]; rfl, by rw [So.cell_blk hB5]; rfl, by rw [So.cell_blk hB5]; rfl, by rw [So.cell_blk hB5]; rfl, by rw [So.cell_blk hB5]; rfl, by rw [So.cell_blk hB5]; rfl, by rw [So.cell_blk hB5]; rfl, v6, w6, q6, c6, by rw [← hv] at r6; exact r6, hv6, ?_⟩
          show _ ∧ _
          rw [HRe.out]
          refine ⟨by rw [List.length_append, ← hkk.out]; rfl, by rw [← hv6]; exact ⟨els6, o6, f6⟩, hwb.out.trans ((b5.mono hMr).trans b6)⟩
        clear hVd HRe HSV
        rcases hd with h1 | ⟨h1, h2⟩
        · have hd1 : (s.ty == kind) = true := by simpa using h1
          clear h1
          go_upto_region 5 with fail
          rw [HV.out, HB.out]
          go_upto_region 6 with fail
          refine wp_region_held_drew (S := fun _ => True) (by kernel_rfl) trivial (fun hHeld => ?_)
          refine wpAnyH_take (i := 0) (v := ?vpa_0) rfl (by kernel_rfl) (by kernel_rfl) (by kernel_rfl) (fun _ _ _ h => h) (Or.inl ⟨by kernel_rfl, ?ypa_0⟩) (by assumption) ?_
          case ypa_0 => (intro w hSw; (try dsimp only at hSw); go_simp; try with_reducible rfl)
          refine wpAnyH_take (i := 2) (v := ?vpa_2) rfl (by kernel_rfl) (by kernel_rfl) (by kernel_rfl) (fun _ _ _ h => h) (Or.inl ⟨by kernel_rfl, ?ypa_2⟩) (by assumption) ?_
          case ypa_2 => (intro w hSw; (try dsimp only at hSw); go_simp; try with_reducible rfl)
          try simp only [Act.put, List.getElem_toArray, List.getElem_cons_succ, List.getElem_cons_zero, List.setIfInBounds_toArray, List.set_cons_zero, List.set_cons_succ]
          refine wpAnyH_ready (rs := [1, 3]) (by kernel_rfl) (by simp) ?_
          refine AllReadyH.cons rfl (fun K hK => ?_) (AllReadyH.cons rfl (fun K hK => ?_) AllReadyH.nil)
          · go_simp
            go_at_call 34
            refine (HC.out _).mono ?_
            rintro e1 w2 ⟨rfl, hb2⟩
            have b2 : Below V.heap.size V w2 := (Below.refl V.heap.size V).drew.trans hb2
            clear hb2
            refine hK.out _ _ trivial (fun hHeld => ?_)
            clear hK K
            try simp only [Act.put, List.getElem_toArray, List.getElem_cons_succ, List.getElem_cons_zero, List.setIfInBounds_toArray, List.set_cons_zero, List.set_cons_succ]
            refine wpAnyH_ready (rs := [3]) (by kernel_rfl) (by simp) ?_
            refine AllReadyH.cons rfl (fun K hK => ?_) AllReadyH.nil
            have x4 := HVd.out _ b2
            go_simp
            clear x4
            refine hK.out _ _ trivial (fun hHeld => ?_)
            clear hK K
            refine wpAnyH_take (i := 5) (v := ?vpb_5) rfl (by kernel_rfl) (by kernel_rfl) (by kernel_rfl) (fun _ _ _ h => h) (Or.inl ⟨by kernel_rfl, ?ypb_5⟩) (by assumption) ?_
            case ypb_5 => (intro w hSw; (try dsimp only at hSw); go_simp; try with_reducible rfl)
            try simp only [Act.put, List.getElem_toArray, List.getElem_cons_succ, List.getElem_cons_zero, List.setIfInBounds_toArray, List.set_cons_zero, List.set_cons_succ]
            refine wpAnyH_ready (rs := [4]) (by kernel_rfl) (by simp) ?_
            refine AllReadyH.cons rfl (fun K hK => ?_) AllReadyH.nil
            go_simp
            go_at_call 93
            refine (HDs.out _ b2).mono ?_
            rintro e2 w3 ⟨v', rfl, hd3, hb3⟩
            have b3 : Below V.heap.size V w3 := b2.trans (hb3.mono b2.size)
            obtain ⟨qn, cn, hvn⟩ := srow_any hd3
            obtain ⟨f0, g0, w5, e5, f4, g4, y0, y1, y2, y3, y4, y5, v6, w6, q6, c6, ra, h6, HE⟩ := HFin.out w3 v' qn cn hvn b3 (own_low hd3 (Nat.le_trans hMV b2.size))
            subst hvn
            subst h6
            refine hK.out _ _ trivial (fun hHeld => ?_)
            clear hK K
            try simp only [Act.put, List.getElem_toArray, List.getElem_cons_succ, List.getElem_cons_zero, List.setIfInBounds_toArray, List.set_cons_zero, List.set_cons_succ]
            refine wpAnyH_ready (rs := [6]) (by kernel_rfl) (by simp) ?_
            refine AllReadyH.cons rfl (fun K hK => ?_) AllReadyH.nil
            go_simp
            refine hK.out _ _ trivial (fun hHeld => ?_)
            clear hK K
            refine wpAnyH_take (i := 7) (v := ?vpby_7) rfl (by kernel_rfl) (by kernel_rfl) (by kernel_rfl) (fun _ _ _ h => h) (Or.inl ⟨by kernel_rfl, ?ypby_7⟩) (by assumption) ?_
            case ypby_7 => (intro w hSw; (try dsimp only at hSw); go_simp; try with_reducible rfl)
            try simp only [Act.put, List.getElem_toArray, List.getElem_cons_succ, List.getElem_cons_zero, List.setIfInBounds_toArray, List.set_cons_zero, List.set_cons_succ]
            refine wpAnyH_ready (rs := [8]) (by kernel_rfl) (by simp) ?_
            refine AllReadyH.cons rfl (fun K hK => ?_) AllReadyH.nil
            go_simp
            refine hK.out _ _ trivial (fun hHeld => ?_)
            clear hK K
            try simp only [Act.put, List.getElem_toArray, List.getElem_cons_succ, List.getElem_cons_zero, List.setIfInBounds_toArray, List.set_cons_zero, List.set_cons_succ]
            refine wpAnyH_done (by kernel_rfl) ?_ _
            try rw [e5]
            clear hHeld f0 g0 e5 f4 g4 hb3 b3 b2 hd3 HFin HDs HVd HX
            go_wp2
            go_roundw
            case rel => exact ⟨i + 1, k + 1, q6, c6, by omega, by first | rfl | go_num, rfl, HE⟩
            case measure => simp [intOf]; omega
          · have x4 := HVd.out _ (Below.refl V.heap.size V).drew
            go_simp
            clear x4
            refine hK.out _ _ trivial (fun hHeld => ?_)
            clear hK K
            try simp only [Act.put, List.getElem_toArray, List.getElem_cons_succ, List.getElem_cons_zero, List.setIfInBounds_toArray, List.set_cons_zero, List.set_cons_succ]
            refine wpAnyH_ready (rs := [1]) (by kernel_rfl) (by simp) ?_
            refine AllReadyH.cons rfl (fun K hK => ?_) AllReadyH.nil
            go_simp
            go_at_call 34
            refine (HC.out _).mono ?_
            rintro e1 w2 ⟨rfl, hb2⟩
            have b2 : Below V.heap.size V w2 := (Below.refl V.heap.size V).drew.trans hb2
            clear hb2
            refine hK.out _ _ trivial (fun hHeld => ?_)
            clear hK K
            refine wpAnyH_take (i := 5) (v := ?vpc_5) rfl (by kernel_rfl) (by kernel_rfl) (by kernel_rfl) (fun _ _ _ h => h) (Or.inl ⟨by kernel_rfl, ?ypc_5⟩) (by assumption) ?_
            case ypc_5 => (intro w hSw; (try dsimp only at hSw); go_simp; try with_reducible rfl)
            try simp only [Act.put, List.getElem_toArray, List.getElem_cons_succ, List.getElem_cons_zero, List.setIfInBounds_toArray, List.set_cons_zero, List.set_cons_succ]
            refine wpAnyH_ready (rs := [4]) (by kernel_rfl) (by simp) ?_
            refine AllReadyH.cons rfl (fun K hK => ?_) AllReadyH.nil
            go_simp
            go_at_call 93
            refine (HDs.out _ b2).mono ?_
            rintro e2 w3 ⟨v', rfl, hd3, hb3⟩
            have b3 : Below V.heap.size V w3 := b2.trans (hb3.mono b2.size)
            obtain ⟨qn, cn, hvn⟩ := srow_any hd3
            obtain ⟨f0, g0, w5, e5, f4, g4, y0, y1, y2, y3, y4, y5, v6, w6, q6, c6, ra, h6, HE⟩ := HFin.out w3 v' qn cn hvn b3 (own_low hd3 (Nat.le_trans hMV b2.size))
            subst hvn
            subst h6
            refine hK.out _ _ trivial (fun hHeld => ?_)
            clear hK K
            try simp only [Act.put, List.getElem_toArray, List.getElem_cons_succ, List.getElem_cons_zero, List.setIfInBounds_toArray, List.set_cons_zero, List.set_cons_succ]
            refine wpAnyH_ready (rs := [6]) (by kernel_rfl) (by simp) ?_
            refine AllReadyH.cons rfl (fun K hK => ?_) AllReadyH.nil
            go_simp
            refine hK.out _ _ trivial (fun hHeld => ?_)
            clear hK K
            refine wpAnyH_take (i := 7) (v := ?vpcy_7) rfl (by kernel_rfl) (by kernel_rfl) (by kernel_rfl) (fun _ _ _ h => h) (Or.inl ⟨by kernel_rfl, ?ypcy_7⟩) (by assumption) ?_
            case ypcy_7 => (intro w hSw; (try dsimp only at hSw); go_simp; try with_reducible rfl)
            try simp only [Act.put, List.getElem_toArray, List.getElem_cons_succ, List.getElem_cons_zero, List.setIfInBounds_toArray, List.set_cons_zero, List.set_cons_succ]
            refine wpAnyH_ready (rs := [8]) (by kernel_rfl) (by simp) ?_
            refine AllReadyH.cons rfl (fun K hK => ?_) AllReadyH.nil
            go_simp
            refine hK.out _ _ trivial (fun hHeld => ?_)
            clear hK K
            try simp only [Act.put, List.getElem_toArray, List.getElem_cons_succ, List.getElem_cons_zero, List.setIfInBounds_toArray, List.set_cons_zero, List.set_cons_succ]
            refine wpAnyH_done (by kernel_rfl) ?_ _
            try rw [e5]
            clear hHeld f0 g0 e5 f4 g4 hb3 b3 b2 hd3 HFin HDs HVd HX
            go_wp2
            go_roundw
            case rel => exact ⟨i + 1, k + 1, q6, c6, by omega, by first | rfl | go_num, rfl, HE⟩
            case measure => simp [intOf]; omega
        · have hd1 : (s.ty == kind) = false := by simpa using h1
          have hd2 : (kind == 255) = true := by simpa using h2
          clear h1 h2
          go_upto_region 5 with fail
          rw [HV.out, HB.out]
          go_upto_region 6 with fail
          refine wp_region_held_drew (S := fun _ => True) (by kernel_rfl) trivial (fun hHeld => ?_)
          refine wpAnyH_take (i := 0) (v := ?vqa_0) rfl (by kernel_rfl) (by kernel_rfl) (by kernel_rfl) (fun _ _ _ h => h) (Or.inl ⟨by kernel_rfl, ?yqa_0⟩) (by assumption) ?_
          case yqa_0 => (intro w hSw; (try dsimp only at hSw); go_simp; try with_reducible rfl)
          refine wpAnyH_take (i := 2) (v := ?vqa_2) rfl (by kernel_rfl) (by kernel_rfl) (by kernel_rfl) (fun _ _ _ h => h) (Or.inl ⟨by kernel_rfl, ?yqa_2⟩) (by assumption) ?_
          case yqa_2 => (intro w hSw; (try dsimp only at hSw); go_simp; try with_reducible rfl)
          try simp only [Act.put, List.getElem_toArray, List.getElem_cons_succ, List.getElem_cons_zero, List.setIfInBounds_toArray, List.set_cons_zero, List.set_cons_succ]
          refine wpAnyH_ready (rs := [1, 3]) (by kernel_rfl) (by simp) ?_
          refine AllReadyH.cons rfl (fun K hK => ?_) (AllReadyH.cons rfl (fun K hK => ?_) AllReadyH.nil)
          · go_simp
            go_at_call 34
            refine (HC.out _).mono ?_
            rintro e1 w2 ⟨rfl, hb2⟩
            have b2 : Below V.heap.size V w2 := (Below.refl V.heap.size V).drew.trans hb2
            clear hb2
            refine hK.out _ _ trivial (fun hHeld => ?_)
            clear hK K
            try simp only [Act.put, List.getElem_toArray, List.getElem_cons_succ, List.getElem_cons_zero, List.setIfInBounds_toArray, List.set_cons_zero, List.set_cons_succ]
            refine wpAnyH_ready (rs := [3]) (by kernel_rfl) (by simp) ?_
            refine AllReadyH.cons rfl (fun K hK => ?_) AllReadyH.nil
            have x4 := HVd.out _ b2
            go_simp
            clear x4
            refine hK.out _ _ trivial (fun hHeld => ?_)
            clear hK K
            refine wpAnyH_take (i := 5) (v := ?vqb_5) rfl (by kernel_rfl) (by kernel_rfl) (by kernel_rfl) (fun _ _ _ h => h) (Or.inl ⟨by kernel_rfl, ?yqb_5⟩) (by assumption) ?_
            case yqb_5 => (intro w hSw; (try dsimp only at hSw); go_simp; try with_reducible rfl)
            try simp only [Act.put, List.getElem_toArray, List.getElem_cons_succ, List.getElem_cons_zero, List.setIfInBounds_toArray, List.set_cons_zero, List.set_cons_succ]
            refine wpAnyH_ready (rs := [4]) (by kernel_rfl) (by simp) ?_
            refine AllReadyH.cons rfl (fun K hK => ?_) AllReadyH.nil
            go_simp
            go_at_call 93
            refine (HDs.out _ b2).mono ?_
            rintro e2 w3 ⟨v', rfl, hd3, hb3⟩
            have b3 : Below V.heap.size V w3 := b2.trans (hb3.mono b2.size)
            obtain ⟨qn, cn, hvn⟩ := srow_any hd3
            obtain ⟨f0, g0, w5, e5, f4, g4, y0, y1, y2, y3, y4, y5, v6, w6, q6, c6, ra, h6, HE⟩ := HFin.out w3 v' qn cn hvn b3 (own_low hd3 (Nat.le_trans hMV b2.size))
            subst hvn
            subst h6
            refine hK.out _ _ trivial (fun hHeld => ?_)
            clear hK K
            try simp only [Act.put, List.getElem_toArray, List.getElem_cons_succ, List.getElem_cons_zero, List.setIfInBounds_toArray, List.set_cons_zero, List.set_cons_succ]
            refine wpAnyH_ready (rs := [6]) (by kernel_rfl) (by simp) ?_
            refine AllReadyH.cons rfl (fun K hK => ?_) AllReadyH.nil
            go_simp
            refine hK.out _ _ trivial (fun hHeld => ?_)
            clear hK K
            refine wpAnyH_take (i := 7) (v := ?vqby_7) rfl (by kernel_rfl) (by kernel_rfl) (by kernel_rfl) (fun _ _ _ h => h) (Or.inl ⟨by kernel_rfl, ?yqby_7⟩) (by assumption) ?_
            case yqby_7 => (intro w hSw; (try dsimp only at hSw); go_simp; try with_reducible rfl)
            try simp only [Act.put, List.getElem_toArray, List.getElem_cons_succ, List.getElem_cons_zero, List.setIfInBounds_toArray, List.set_cons_zero, List.set_cons_succ]
            refine wpAnyH_ready (rs := [8]) (by kernel_rfl) (by simp) ?_
            refine AllReadyH.cons rfl (fun K hK => ?_) AllReadyH.nil
            go_simp
            refine hK.out _ _ trivial (fun hHeld => ?_)
            clear hK K
            try simp only [Act.put, List.getElem_toArray, List.getElem_cons_succ, List.getElem_cons_zero, List.setIfInBounds_toArray, List.set_cons_zero, List.set_cons_succ]
            refine wpAnyH_done (by kernel_rfl) ?_ _
            try rw [e5]
            clear hHeld f0 g0 e5 f4 g4 hb3 b3 b2 hd3 HFin HDs HVd HX
            go_wp2
            go_roundw
            case rel => exact ⟨i + 1, k + 1, q6, c6, by omega, by first | rfl | go_num, rfl, HE⟩
            case measure => simp [intOf]; omega
          · have x4 := HVd.out _ (Below.refl V.heap.size V).drew
            go_simp
            clear x4
            refine hK.out _ _ trivial (fun hHeld => ?_)
            clear hK K
            try simp only [Act.put, List.getElem_toArray, List.getElem_cons_succ, List.getElem_cons_zero, List.setIfInBounds_toArray, List.set_cons_zero, List.set_cons_succ]
            refine wpAnyH_ready (rs := [1]) (by kernel_rfl) (by simp) ?_
            refine AllReadyH.cons rfl (fun K hK => ?_) AllReadyH.nil
            go_simp
            go_at_call 34
            refine (HC.out _).mono ?_
            rintro e1 w2 ⟨rfl, hb2⟩
            have b2 : Below V.heap.size V w2 := (Below.refl V.heap.size V).drew.trans hb2
            clear hb2
            refine hK.out _ _ trivial (fun hHeld => ?_)
            clear hK K
            refine wpAnyH_take (i := 5) (v := ?vqc_5) rfl (by kernel_rfl) (by kernel_rfl) (by kernel_rfl) (fun _ _ _ h => h) (Or.inl ⟨by kernel_rfl, ?yqc_5⟩) (by assumption) ?_
            case yqc_5 => (intro w hSw; (try dsimp only at hSw); go_simp; try with_reducible rfl)
            try simp only [Act.put, List.getElem_toArray, List.getElem_cons_succ, List.getElem_cons_zero, List.setIfInBounds_toArray, List.set_cons_zero, List.set_cons_succ]
            refine wpAnyH_ready (rs := [4]) (by kernel_rfl) (by simp) ?_
            refine AllReadyH.cons rfl (fun K hK => ?_) AllReadyH.nil
            go_simp
            go_at_call 93
            refine (HDs.out _ b2).mono ?_
            rintro e2 w3 ⟨v', rfl, hd3, hb3⟩
            have b3 : Below V.heap.size V w3 := b2.trans (hb3.mono b2.size)
            obtain ⟨qn, cn, hvn⟩ := srow_any hd3
            obtain ⟨f0, g0, w5, e5, f4, g4, y0, y1, y2, y3, y4, y5, v6, w6, q6, c6, ra, h6, HE⟩ := HFin.out w3 v' qn cn hvn b3 (own_low hd3 (Nat.le_trans hMV b2.size))
            subst hvn
            subst h6
            refine hK.out _ _ trivial (fun hHeld => ?_)
            clear hK K
            try simp only [Act.put, List.getElem_toArray, List.getElem_cons_succ, List.getElem_cons_zero, List.setIfInBounds_toArray, List.set_cons_zero, List.set_cons_succ]
            refine wpAnyH_ready (rs := [6]) (by kernel_rfl) (by simp) ?_
            refine AllReadyH.cons rfl (fun K hK => ?_) AllReadyH.nil
            go_simp
            refine hK.out _ _ trivial (fun hHeld => ?_)
            clear hK K
            refine wpAnyH_take (i := 7) (v := ?vqcy_7) rfl (by kernel_rfl) (by kernel_rfl) (by kernel_rfl) (fun _ _ _ h => h) (Or.inl ⟨by kernel_rfl, ?yqcy_7⟩) (by assumption) ?_
            case yqcy_7 => (intro w hSw; (try dsimp only at hSw); go_simp; try with_reducible rfl)
            try simp only [Act.put, List.getElem_toArray, List.getElem_cons_succ, List.getElem_cons_zero, List.setIfInBounds_toArray, List.set_cons_zero, List.set_cons_succ]
            refine wpAnyH_ready (rs := [8]) (by kernel_rfl) (by simp) ?_
            refine AllReadyH.cons rfl (fun K hK => ?_) AllReadyH.nil
            go_simp
            refine hK.out _ _ trivial (fun hHeld => ?_)
            clear hK K
            try simp only [Act.put, List.getElem_toArray, List.getElem_cons_succ, List.getElem_cons_zero, List.setIfInBounds_toArray, List.set_cons_zero, List.set_cons_succ]
            refine wpAnyH_done (by kernel_rfl) ?_ _
            try rw [e5]
            clear hHeld f0 g0 e5 f4 g4 hb3 b3 b2 hd3 HFin HDs HVd HX
            go_wp2
            go_roundw
            case rel => exact ⟨i + 1, k + 1, q6, c6, by omega, by first | rfl | go_num, rfl, HE⟩
            case measure => simp [intOf]; omega
    · have hlz : ¬ (i : Int) < (m : Int) := by omega
      have HE : Hid (k = (R ss).length ∧ Cs M W (.slice qv k cv) (R ss) wr) := by
        have := HS.out
        rwa [List.take_of_length_le (by rw [← HLs.out]; omega)] at this
      clear HS HBL H0
      by_cases hk0 : k = 0
      · have HF : Hid (c0 = (4, []) ∧ Below M W wr) := by
          refine ⟨?_, HE.out.2.bel⟩
          rw [HCh.out, if_pos (by rw [← HE.out.1]; exact hk0)]
        clear HE
        subst hk0
        go_wp2
        go_ret2
        refine ⟨_, by rw [HF.out.1]; rfl, ?_, HF.out.2⟩
        rw [HF.out.1]
        exact ⟨[], World.ownsRow_nil .., trivial⟩
      · have HF : Hid (c0 = (3, R ss) ∧ SetsAt M wr (.slice qv k cv) (R ss) ∧ Below M W wr) := by
          refine ⟨?_, HE.out.2.at', HE.out.2.bel⟩
          rw [HCh.out, if_neg (by rw [← HE.out.1]; exact hk0)]
        have hkz : ¬ (k : Int) = 0 := by omega
        clear HE
        go_wp2
        go_ret2
        refine ⟨_, by rw [HF.out.1]; rfl, ?_, HF.out.2.2⟩
        rw [HF.out.1]
        exact HF.out.2.1
end Go.Proofs.YtimnnogaiglceaaGreatDoor
/- Layer 14: slices.BinarySearchFunc at sets. -/
namespace Go.Proofs.YtimnnogaiglceaaGreatDoor
set_option linter.unusedVariables false
set_option linter.unusedSimpArgs false
open Go.RowKit
open So (El elC SRow)
set_option maxRecDepth 100000 in
theorem fcmp_in (x : El) (hx : OkN x.ls) (n : N3) (hn : OkN n) (W : World) : Calls Tryz.prog 92 #[.agg x.c.toArray, .string (nm n)] W fun e w' => e = .returned (.int .i64 (cmpN x.ls n)) ∧ Below W.heap.size W w' := by
  have HC := Hid.mk (compare_yes x.ls n hx hn)
  simp only [El.c]
  generalize x.dv = d1
  generalize x.sv = s1
  go_enter Tryz.func92, Tryz.ntmps92
  go_wp2_with fail
  refine (HC.out _).mono ?_
  rintro e w1 ⟨rfl, hb1⟩
  go_wp2
  go_ret
  refine ⟨rfl, Below.trans ((Below.refl _ _).alloc (Nat.le_refl _) _) (hb1.mono (by simp))⟩
def fstE (els : List El) (n : N3) : Nat := (els.filter fun e => decide (cmpN e.ls n < 0)).length
theorem fst_of {els : List El} {n : N3} (hR : So.Ris So.lt els) {i : Nat} (hi : i ≤ els.length) (h1 : i = 0 ∨ 0 < i ∧ ∃ e, els[i - 1]? = some e ∧ cmpN e.ls n < 0) (h2 : i = els.length ∨ ∃ e, els[i]? = some e ∧ 0 ≤ cmpN e.ls n) : fstE els n = i := by
  unfold fstE
  have a1 : ∀ p ∈ els.take i, cmpN p.ls n < 0 := by
    rcases h1 with rfl | ⟨h0, e, he, hc⟩
    · simp
    · intro p hp
      have := So.ris_before (x := ⟨n, 0, 0, 0, nilS, nilS⟩) hR he (So.lt_true.2 hc) p (by rwa [show i - 1 + 1 = i by omega])
      exact So.lt_true.1 this
  have a2 : ∀ p ∈ els.drop i, ¬ cmpN p.ls n < 0 := by
    rcases h2 with rfl | ⟨e, he, hc⟩
    · simp
    · intro p hp h
      have := So.ris_behind (x := ⟨n, 0, 0, 0, nilS, nilS⟩) hR he (by cases e2 : So.lt e ⟨n, 0, 0, 0, nilS, nilS⟩ with | false => rfl | true => exact absurd (So.lt_true.1 e2) (by show ¬ cmpN e.ls n < 0; omega)) p hp
      rw [So.lt_true.2 h] at this
      cases this
  conv => lhs; rw [← List.take_append_drop i els]
  rw [List.filter_append, List.filter_eq_self.2 (fun p hp => by simpa using a1 p hp), List.filter_eq_nil_iff.2 (fun p hp => by simpa using a2 p hp), List.append_nil, List.length_take]
  omega
structure Sch (W : World) (q : Option Addr) (els : List El) (n : N3) (w : World) : Prop where
  row : 0 < els.length → ∃ g, q = some ⟨g, 0, none⟩ ∧ SRow w g els
  bel : Below W.heap.size W w
theorem Sch.blk {W w w' : World} {q : Option Addr} {els : List El} {n : N3} (h : Sch W q els n w) (hb : Below w.heap.size w w') : Sch W q els n w' :=
  ⟨fun h0 => by obtain ⟨g, e, hr⟩ := h.row h0; exact ⟨g, e, hr.blk hb⟩, h.bel.trans (hb.mono h.bel.size)⟩
def BsP (F : Nat) (W : World) (e : Ending) (w' : World) : Prop := (∃ b, e = .returned (.tuple #[.int .i64 (F : Int), .bool b])) ∧ Below W.heap.size W w'
attribute [local go_sem ↓] So.loadAt_st
set_option maxRecDepth 100000 in
set_option maxHeartbeats 2000000 in
theorem bsearch_in (W : World) (q : Option Addr) (cap : Nat) (els : List El) (n : N3) (hn : OkN n) (hrow : 0 < els.length → ∃ g, q = some ⟨g, 0, none⟩ ∧ SRow W g els) (hok : ∀ e ∈ els, OkN e.ls) (hR : So.Ris So.lt els) (hl : els.length ≤ 1000) :
    Calls Tryz.prog 91 #[.slice q els.length cap, .string (nm n), .func (.func 92) #[] #[]] W fun e w' => BsP (fstE els n) W e w' := by
  have H0 : Hid (Sch W q els n W) := ⟨hrow, Below.refl _ _⟩
  have HFI := Hid.mk (fun i => @fst_of els n hR i)
  have HAt : Hid (∀ w i, i < els.length → Sch W q els n w → ∃ g, q = some ⟨g, 0, none⟩ ∧ ∃ (e : El), (So.stLoad (.pointer (some ⟨g, i * 6, none⟩))).run Tryz.prog w = .ok (.agg e.c.toArray) w ∧ Hid (els[i]? = some e ∧ ∀ w, Calls Tryz.prog 92 #[.agg e.c.toArray, .string (nm n)] w fun e' w' => e' = .returned (.int .i64 (cmpN e.ls n)) ∧ Below w.heap.size w w')) := by
    intro w i hi h
    obtain ⟨g, e, hr⟩ := h.row (by omega)
    exact ⟨g, e, els[i], hr.load i hi, List.getElem?_eq_getElem hi, fun w => fcmp_in _ (hok _ (List.getElem_mem hi)) n hn w⟩
  obtain ⟨m, hm⟩ : ∃ m, els.length = m := ⟨_, rfl⟩
  obtain ⟨F, hF⟩ : ∃ F, fstE els n = F := ⟨_, rfl⟩
  rw [hm] at HAt HFI hl ⊢
  rw [hF] at HFI ⊢
  clear hrow hok hR hm hF
  go_enter Tryz.func91, Tryz.ntmps91
  go_wp2
  go_loopw [9, 10] (fun iv jv wr => ∃ i j : Nat, iv = .int .i64 (i : Int) ∧ jv = .int .i64 (j : Int) ∧ i ≤ j ∧ j ≤ m ∧ Hid ((i = 0 ∨ 0 < i ∧ ∃ e, els[i - 1]? = some e ∧ cmpN e.ls n < 0) ∧ (j = m ∨ ∃ e, els[j]? = some e ∧ 0 ≤ cmpN e.ls n) ∧ Sch W q els n wr)) (fun iv jv _ => (intOf jv).toNat - (intOf iv).toNat)
  case atStart => exact ⟨0, m, rfl, rfl, Nat.zero_le _, Nat.le_refl _, .inl rfl, .inl rfl, H0.out⟩
  case round =>
    obtain ⟨i, j, rfl, rfl, hij, hjb, HD⟩ := hrel
    by_cases hlt : i < j
    · have hlz : (i : Int) < (j : Int) := by omega
      obtain ⟨hh, hhe⟩ : ∃ hh, (i + j) / 2 = hh := ⟨_, rfl⟩
      obtain ⟨s, hs⟩ : ∃ s, i + j = s := ⟨_, rfl⟩
      have hv := So.halves i j hh hhe (by omega)
      rw [hs] at hv
      obtain ⟨v1, v2, v3, v4, v5⟩ := hv
      have hhb : i ≤ hh ∧ hh < j := by omega
      obtain ⟨g, rfl, x, ld, HX⟩ := HAt.out wr hh (by omega) HD.out.2.2
      obtain ⟨c, hc⟩ : ∃ c, cmpN x.ls n = c := ⟨_, rfl⟩
      rw [hc] at HX
      have HCe := Hid.mk hc
      have hz : (hh : Int) < (m : Int) := by omega
      obtain ⟨xc, hxc⟩ : ∃ xc, x.c.toArray = xc := ⟨_, rfl⟩
      rw [hxc] at HX ld
      have wh : IntKind.i64.wrap ((hh : Int) + 1) = ((hh + 1 : Nat) : Int) := by rw [IntKind.wrap_i64]; omega
      clear hc hs hhe hxc
      by_cases hcz : c < 0
      · go_wp2_with fail
        refine (HX.out.2 _).mono ?_
        rintro e w2 ⟨rfl, hb2⟩
        have HG : Hid ((hh + 1 = 0 ∨ 0 < hh + 1 ∧ ∃ e, els[hh + 1 - 1]? = some e ∧ cmpN e.ls n < 0) ∧ (j = m ∨ ∃ e, els[j]? = some e ∧ 0 ≤ cmpN e.ls n) ∧ Sch W (some ⟨g, 0, none⟩) els n w2) :=
          ⟨.inr ⟨by omega, x, HX.out.1, by rw [HCe.out]; exact hcz⟩, HD.out.2.1, HD.out.2.2.blk hb2⟩
        clear hb2
        go_wp2
        go_roundw
        case rel => exact ⟨hh + 1, j, by first | rfl | go_num, rfl, by omega, by omega, HG⟩
        case measure => simp [intOf]; omega
      · go_wp2_with fail
        refine (HX.out.2 _).mono ?_
        rintro e w2 ⟨rfl, hb2⟩
        have HG : Hid ((i = 0 ∨ 0 < i ∧ ∃ e, els[i - 1]? = some e ∧ cmpN e.ls n < 0) ∧ (hh = m ∨ ∃ e, els[hh]? = some e ∧ 0 ≤ cmpN e.ls n) ∧ Sch W (some ⟨g, 0, none⟩) els n w2) :=
          ⟨HD.out.1, .inr ⟨x, HX.out.1, by rw [HCe.out]; omega⟩, HD.out.2.2.blk hb2⟩
        clear hb2
        go_wp2
        go_roundw
        case rel => exact ⟨i, hh, rfl, rfl, by omega, by omega, HG⟩
        case measure => simp [intOf]; omega
    · obtain rfl : i = j := by omega
      obtain rfl : F = i := HFI.out i hjb HD.out.1 HD.out.2.1
      by_cases hlm : F < m
      · have hlz : (F : Int) < (m : Int) := by omega
        obtain ⟨g, rfl, x, ld, HX⟩ := HAt.out wr F hlm HD.out.2.2
        obtain ⟨c, hc⟩ : ∃ c, cmpN x.ls n = c := ⟨_, rfl⟩
        rw [hc] at HX
        obtain ⟨xc, hxc⟩ : ∃ xc, x.c.toArray = xc := ⟨_, rfl⟩
        rw [hxc] at HX ld
        clear hc hxc
        go_wp2_with fail
        refine (HX.out.2 _).mono ?_
        rintro e w2 ⟨rfl, hb2⟩
        have HG := Hid.mk (HD.out.2.2.blk hb2).bel
        clear hb2
        go_wp2
        go_ret2
        exact ⟨⟨_, rfl⟩, HG.out⟩
      · have hlz : ¬ (F : Int) < (m : Int) := by omega
        have HG := Hid.mk HD.out.2.2.bel
        go_wp2
        go_ret2
        exact ⟨⟨_, rfl⟩, HG.out⟩
end Go.Proofs.YtimnnogaiglceaaGreatDoor