/- Texts of this proof, joined: LgA, LgB, LgC, LfQ, LfR, LfB. -/
import Derived.Test.YtdlcldjlfhmlgaaGreatDoorJ17
import Derived.Test.YtdlcldjlfhmlgaaGreatDoorJ18
import Derived.Test.YtdlcldjlfhmlgaaGreatDoorJ19
import Derived.Laws.AppendOwn
import Derived.Laws.OwnMore
import Derived.Maps.AppendAt
import Derived.Test.YtdlcldjlfhmlgaaGreatDoorJ23
set_option linter.unusedVariables false
set_option linter.unusedSimpArgs false
/- Layer 14: chosen, once more: no two sets have their texts in one block. -/
namespace Go.Proofs.YtdlcldjlfhmlgaaGreatDoor.D
open Go.RowKit
open So (El elC SRow)
attribute [local go_sem ↓] app_s
def Dis (els : List El) : Prop := ∀ i j (hi : i < els.length) (hj : j < els.length) (b : Nat), i ≠ j → els[i].dv.ownBlock = some b → els[j].dv.ownBlock ≠ some b
theorem Dis.nil : Dis [] := fun i j hi => by simp at hi
theorem Dis.snoc {els : List El} (h : Dis els) (e : El) (hf : ∀ i (hi : i < els.length) b, els[i].dv.ownBlock = some b → e.dv.ownBlock ≠ some b) : Dis (els ++ [e]) := by
 intro i j hi hj b hij h1 h2
 rw [List.length_append, List.length_singleton] at hi hj
 by_cases ci : i < els.length
 ·rw [List.getElem_append_left ci] at h1
  by_cases cj : j < els.length
  ·rw [List.getElem_append_left cj] at h2
   exact h i j ci cj b hij h1 h2
  ·obtain rfl : j = els.length := by omega
   rw [List.getElem_append_right (Nat.le_refl _)] at h2
   simp only [Nat.sub_self, List.getElem_cons_zero] at h2
   exact hf i ci b h1 h2
 ·obtain rfl : i = els.length := by omega
  rw [List.getElem_append_right (Nat.le_refl _)] at h1
  simp only [Nat.sub_self, List.getElem_cons_zero] at h1
  have cj : j < els.length := by omega
  rw [List.getElem_append_left cj] at h2
  exact hf j cj b h2 h1
def SetsAt (N : Nat) (w : World) (v : Value) (ss : List St) : Prop := ∃ els : List El, w.ownsRow N 44 6 v els.length (elC els) ∧ F2 (ElSt N w) els ss ∧ Dis els
theorem SetsAt.mono {N M : Nat} {w : World} {v : Value} {ss : List St} (h : SetsAt M w v ss) (hN : N ≤ M) : SetsAt N w v ss := by
 obtain ⟨els, hr, hf, hd⟩ := h
 exact ⟨els, own_low hr hN, hf.mono fun e s hs => ⟨hs.ls, hs.ty, hs.cl, hs.tl, hs.sv, own_low hs.dv hN⟩, hd⟩
theorem SetsAt.blk {N : Nat} {w w' : World} {v : Value} {ss : List St} (h : SetsAt N w v ss) (hb : Below w.heap.size w w') : SetsAt N w' v ss := by
 obtain ⟨els, hr, hf, hd⟩ := h
 exact ⟨els, own_blk hr hb, hf.mono fun e s hs => hs.keep fun b c f _ hc => hb.block b (Array.getElem?_eq_some_iff.1 hc).1, hd⟩
theorem app_one {M : Nat} {w0 w : World} {v : Value} {ss : List St} (h0 : SetsAt M w0 v ss) (h01 : Below w0.heap.size w0 w) (hM0 : M ≤ w0.heap.size) (hl : ss.length ≤ 1000) (e : El) (s : St) (he : ElSt M w e s) (hfr : ∀ b, e.dv.ownBlock = some b → w0.heap.size ≤ b) {qd : Option Addr} {nd cd : Nat} (hd : e.dv = .slice qd nd cd) :
  ∃ v' w3, (bAppS #[v, .slice (some ⟨w.heap.size, 0, none⟩) 1 1]).run Tryz.prog (w.alloc (.cells #[.string (nm e.ls), .int .i64 e.ty, .int .i64 e.cl, .int .i64 e.tl, .slice qd nd cd, .slice none 0 0] 44)) = .ok v' w3 ∧ SetsAt M w3 v' (ss ++ [s]) ∧ Below M w w3 := by
 obtain ⟨i0, hi, hz0, hz1, hz2⟩ := info_parts' infoSt
 have hM : M ≤ w.heap.size := Nat.le_trans hM0 h01.size
 have hdis : ∃ els, w.ownsRow M 44 6 v els.length (elC els) ∧ F2 (ElSt M w) els ss ∧ Dis (els ++ [e]) := by
  obtain ⟨els, hr, hf, hd⟩ := h0
  refine ⟨els, own_blk hr h01, hf.mono fun e s hs => hs.keep fun b c f _ hc => h01.block b (Array.getElem?_eq_some_iff.1 hc).1, hd.snoc e fun i hi b hb => ?_⟩
  have hi' : i < ss.length := by rw [← hf.len]; exact hi
  intro hb2
  have h1 := (own_lt (hf.at i hi hi').dv hb).1
  have h2 := hfr b hb2
  omega
 obtain ⟨els, hr, hf, hdd⟩ := hdis
 have hlen := hf.len
 obtain ⟨U, hU⟩ : ∃ U, w.alloc (.cells #[.string (nm e.ls), .int .i64 e.ty, .int .i64 e.cl, .int .i64 e.tl, .slice qd nd cd, .slice none 0 0] 44) = U := ⟨_, rfl⟩
 have hec : e.c = [.string (nm e.ls), .int .i64 e.ty, .int .i64 e.cl, .int .i64 e.tl, .slice qd nd cd, .slice none 0 0] := by rw [El.c, hd, he.sv]
 have bU : Below w.heap.size w U := hU ▸ (Below.refl _ _).alloc (Nat.le_refl _) _
 have hrU := own_blk hr bU
 have hnew : U.heap[w.heap.size]? = some (.cells #[.string (nm e.ls), .int .i64 e.ty, .int .i64 e.cl, .int .i64 e.tl, .slice qd nd cd, .slice none 0 0] 44 (0, 0)) := hU ▸ heap_alloc_new w _
 have hnews : ∀ (j : Nat) u, e.c[j]? = some u → U.cell? ((⟨w.heap.size, 0, none⟩ : Addr).add j) = some u := fun j u hu => by
  rw [So.add_of, Nat.zero_add, So.cell_blk hnew, ← hu, hec, List.getElem?_toArray]
 have hone : ∀ u ∈ e.c, u.oneCell' = true := by
  intro u hu
  rw [hec] at hu
  simp only [List.mem_cons, List.not_mem_nil, or_false] at hu
  rcases hu with rfl | rfl | rfl | rfl | rfl | rfl <;> rfl
 obtain ⟨v', w3, hrun, hown, hg, _, hat⟩ := run_append_own_at (P := Tryz.prog) U M 37 37 44 i0 _ 6 88 Tryz.underlying37 hi hz0 hz1 hz2 rfl (by decide) v els.length (elC els) hrU ⟨w.heap.size, 0, none⟩ 1 1 e.c (by rw [El.len]) hnews hone (by unfold maxLen; omega) (by omega) (Nat.le_trans hM bU.size)
 have b3 : Below M U w3 := (Below.refl _ _).grown hg (Nat.le_trans hM bU.size) (fun b hb' => (own_lt hrU hb').2.1)
 have keep : ∀ (e : El) (s : St), ElSt M w e s → ElSt M w3 e s := fun e s hs => (hs.keep fun b c f _ hc => bU.block b (Array.getElem?_eq_some_iff.1 hc).1).keep fun b c f _ hc => by
  refine grown_blk hg (Array.getElem?_eq_some_iff.1 hc).1 (fun e0 => ?_)
  obtain ⟨_, _, c', hc'⟩ := own_lt hrU e0
  rw [hc] at hc'
  simp at hc'
 refine ⟨v', w3, by rw [hU]; exact hrun, ⟨els ++ [e], ?_, (hf.mono keep).app ⟨keep _ _ he, trivial⟩, hdd⟩, (bU.mono hM).trans b3⟩
 rw [So.elC_app, List.length_append]
 have e2 : elC [e] = e.c := by rw [So.elC_cons]; simp [elC]
 rw [e2]
 exact hown
structure Cs (N : Nat) (W : World) (v : Value) (ss : List St) (w : World) : Prop where
 at' : SetsAt N w v ss
 bel : Below N W w
set_option maxRecDepth 100000 in
set_option maxHeartbeats 4000000 in
theorem chosen_in (N : Nat) (W : World) (q : Option Addr) (cap : Nat) (els : List El) (ss : List St) (hq : Src W q els) (hrel : F2 (ElSt N W) els ss) (hds : ∀ s ∈ ss, s.ds.length ≤ 1000) (hl : els.length ≤ 1000) (n : N3) (hn : OkN n) (kind : Int) :
  Calls Tryz.prog 95 #[.slice q els.length cap, .string (nm n), .int .i64 kind] W fun e w' => ∃ v, e = .returned (.tuple #[.int .i64 (chosR ss n kind).1, v]) ∧ SetsAt W.heap.size w' v (chosR ss n kind).2 ∧ Below W.heap.size W w' := by
 obtain ⟨M, hM⟩ : ∃ M, W.heap.size = M := ⟨_, rfl⟩
 have HM := Hid.mk hM
 have hlen := hrel.len
 have hc : chosR ss n kind = if ((ss.filter (picks kind)).map fun s => ({ s with ls := n } : St)).length = 0 then (4, []) else (3, (ss.filter (picks kind)).map fun s => ({ s with ls := n } : St)) := by unfold chosR; rw [List.length_map]
 obtain ⟨R, hR⟩ : ∃ R : List St → List St, (fun l => (l.filter (picks kind)).map fun s => ({ s with ls := n } : St)) = R := ⟨_, rfl⟩
 have hRs : ∀ l, ((l.filter (picks kind)).map fun s => ({ s with ls := n } : St)) = R l := fun l => by rw [← hR]
 rw [hRs] at hc
 have HRyes : Hid (∀ l s, picks kind s = true → R (l ++ [s]) = R l ++ [({ s with ls := n } : St)]) := fun l s h => by rw [← hR]; simp [List.filter_append, h]
 have HRno : Hid (∀ l s, picks kind s = false → R (l ++ [s]) = R l) := fun l s h => by rw [← hR]; simp [List.filter_append, h]
 have HRl : Hid (∀ l, (R l).length ≤ l.length) := fun l => by rw [← hR]; simp only [List.length_map]; exact List.length_filter_le _ _
 have HC := Hid.mk (clone_in (nm n) · (by rw [nm_size]; have := hn.len; omega))
 have HBL : Hid (∀ w i, i < els.length → Below M W w → ∃ g o, q = some ⟨g, o, none⟩ ∧ ∃ (e : El) (s : St) (qd : Option Addr) (cd : Nat), w.cell? ⟨g, o + i * 6, none⟩ = some (.string (nm e.ls)) ∧ w.cell? ⟨g, o + i * 6 + 1, none⟩ = some (.int .i64 s.ty) ∧ w.cell? ⟨g, o + i * 6 + 2, none⟩ = some (.int .i64 s.cl) ∧ w.cell? ⟨g, o + i * 6 + 3, none⟩ = some (.int .i64 s.tl) ∧ w.cell? ⟨g, o + i * 6 + 4, none⟩ = some (.slice qd s.ds.length cd) ∧ w.cell? ⟨g, o + i * 6 + 5, none⟩ = some (.slice none 0 0) ∧ Hid (ss.take (i + 1) = ss.take i ++ [s] ∧ w.ownsRow N 9 1 (.slice qd s.ds.length cd) s.ds.length (strs s.ds) ∧ s.ds.length ≤ 1000)) := by
  intro w i hi hb
  rw [← hM] at hb
  obtain ⟨g, o, e, hcl⟩ := (hq.blk hb).cell i hi
  have hi' : i < ss.length := by omega
  have hes := (hrel.at i hi hi').keep (w' := w) fun b c f _ hc => hb.block b (Array.getElem?_eq_some_iff.1 hc).1
  obtain ⟨qd, cd, hdv⟩ := srow_any hes.dv
  have hcc : els[i].c = [.string (nm els[i].ls), .int .i64 ss[i].ty, .int .i64 ss[i].cl, .int .i64 ss[i].tl, .slice qd ss[i].ds.length cd, .slice none 0 0] := by rw [El.c, hes.sv, hes.ty, hes.cl, hes.tl, hdv]
  rw [hcc] at hcl
  have hd := hes.dv
  rw [hdv] at hd
  exact ⟨g, o, e, els[i], ss[i], qd, cd, hcl 0 (by decide), hcl 1 (by decide), hcl 2 (by decide), hcl 3 (by decide), hcl 4 (by decide), hcl 5 (by decide), List.take_succ_eq_append_getElem hi', hd, hds _ (List.getElem_mem hi')⟩
 have H0 : Hid (Cs M W (.slice none 0 0) (R (ss.take 0)) W) := ⟨⟨[], World.ownsRow_nil .., by rw [← hR]; exact trivial, Dis.nil⟩, Below.refl _ _⟩
 have HCh := Hid.mk hc
 have HLs := Hid.mk hlen
 obtain ⟨c0, hc0⟩ : ∃ c0, chosR ss n kind = c0 := ⟨_, rfl⟩
 rw [hc0] at HCh ⊢
 obtain ⟨m, hm⟩ : ∃ m, els.length = m := ⟨_, rfl⟩
 rw [hm] at HBL hl HLs ⊢
 rw [hM]
 clear hm hrel hq hds hlen hRs hR hc hM hc0
 go_enter Tryz.func95, Tryz.ntmps95
 go_wp2
 go_loopw [13, 8] (fun iv lv wr => ∃ (i k : Nat) (qv : Option Addr) (cv : Nat), i ≤ m ∧ iv = .int .i64 (i : Int) ∧ lv = .slice qv k cv ∧ Hid (k = (R (ss.take i)).length ∧ Cs M W lv (R (ss.take i)) wr)) (fun iv _ _ => m - (intOf iv).toNat)
 case atStart => exact ⟨0, 0, none, 0, Nat.zero_le _, rfl, rfl, by have := HRl.out []; simp at this; simp [this], H0.out⟩
 case round =>
  obtain ⟨i, k, qv, cv, hi, rfl, rfl, HS⟩ := hrel
  by_cases hlt : i < m
  ·have hlz : (i : Int) < (m : Int) := by omega
   have wi : IntKind.i64.wrap ((i : Int) + 1) = ((i + 1 : Nat) : Int) := by rw [IntKind.wrap_i64]; omega
   obtain ⟨b, off, rfl, e, s, qd, cd, c0, c1, c2, c3, c4, c5, hes⟩ := HBL.out wr i hlt HS.out.2.bel
   have hMr : M ≤ wr.heap.size := by rw [← HM.out]; exact HS.out.2.bel.size
   obtain ⟨V, hV⟩ : ∃ V, wr.alloc (.cells #[.string (nm e.ls), .int .i64 s.ty, .int .i64 s.cl, .int .i64 s.tl, .slice qd s.ds.length cd, .slice none 0 0] 44) = V := ⟨_, rfl⟩
   have X0 : Bx wr wr.heap.size [.string (nm e.ls), .int .i64 s.ty, .int .i64 s.cl, .int .i64 s.tl, .slice qd s.ds.length cd, .slice none 0 0] 44 V := hV ▸ Bx.new wr _ _
   have HX := Hid.mk X0
   obtain ⟨B, hB⟩ : ∃ B, wr.heap.size = B := ⟨_, rfl⟩
   rw [hB] at HX
   have HB := Hid.mk hB
   have x1 := X0.cell 1 _ rfl
   rw [hB] at x1
   have HV := Hid.mk hV
   have HSV : Hid (SetsAt M V (.slice qv k cv) (R (ss.take i))) := HS.out.2.at'.blk X0.bel
   have HBV : Hid (Below M W V) := HS.out.2.bel.trans (X0.bel.mono hMr)
   have hMV : M ≤ V.heap.size := Nat.le_trans hMr X0.bel.size
   have HDs : Hid (∀ w, Below V.heap.size V w → Calls Tryz.prog 126 #[.slice qd s.ds.length cd] w fun e w' => ∃ v', e = .returned v' ∧ w'.ownsRow w.heap.size 9 1 v' s.ds.length (strs s.ds) ∧ Below w.heap.size w w') := fun w hb => sclone_in (own_blk (own_blk hes.out.2.1 X0.bel) hb) hes.out.2.2
   have HTk := Hid.mk hes.out.1
   have hlk : Hid ((R (ss.take i)).length ≤ 1000) := Nat.le_trans (HRl.out _) (by rw [List.length_take]; omega)
   have hkk := Hid.mk HS.out.1
   have hwr := Hid.mk HS.out.2.at'
   have hwb := Hid.mk HS.out.2.bel
   clear hB X0 hV HS hes HBL H0 HRl
   cases hp : picks kind s with
   | false =>
    have hp1 : ¬ s.ty = kind := fun h => by simp [picks, h] at hp
    have hp2 : ¬ kind = 255 := fun h => by simp [picks, h] at hp
    have HE : Hid (k = (R (ss.take (i + 1))).length ∧ Cs M W (.slice qv k cv) (R (ss.take (i + 1))) V) := by
     show _ ∧ _
     rw [HTk.out, HRno.out _ _ hp]
     exact ⟨hkk.out, HSV.out, HBV.out⟩
    have hd1 : (s.ty == kind) = false := by simpa using hp1
    have hd2 : (kind == 255) = false := by simpa using hp2
    clear hp hkk HSV HBV HDs HX HRyes HRno
    go_upto_region 5 with fail
    rw [HV.out, HB.out]
    go_wp2
    go_roundw
    case rel => exact ⟨i + 1, k, qv, cv, by omega, by first | rfl | go_num, rfl, HE⟩
    case measure => simp [intOf]; omega
   | true =>
    have hd : s.ty = kind ∨ ¬ s.ty = kind ∧ kind = 255 := by
     simp only [picks, Bool.or_eq_true, beq_iff_eq] at hp
     rcases hp with h | h
     ·exact .inl h
     ·by_cases e : s.ty = kind
      ·exact .inl e
      ·exact .inr ⟨e, h⟩
    have HRe : Hid (R (ss.take (i + 1)) = R (ss.take i) ++ [({ s with ls := n } : St)]) := by show _ = _; rw [HTk.out, HRyes.out _ _ hp]
    clear hp HRyes HRno HTk
    have hVd : ∀ w2, Below V.heap.size V w2 → w2.cell? ⟨B, 4, none⟩ = some (.slice qd s.ds.length cd) := fun w2 hb => (HX.out.blk hb).cell 4 _ rfl
    have HVd := Hid.mk hVd
    have HFin : Hid (∀ w3 v' qn cn, v' = .slice qn s.ds.length cn → Below V.heap.size V w3 → w3.ownsRow V.heap.size 9 1 v' s.ds.length (strs s.ds) → w3.frozen? ⟨B, 0, none⟩ = false ∧ w3.cell? ⟨B, 0, none⟩ = some (.string (nm e.ls)) ∧ ∃ w5, (w3.setCell ⟨B, 0, none⟩ (.string (nm n))).setCell ⟨B, 4, none⟩ v' = w5 ∧ (w3.setCell ⟨B, 0, none⟩ (.string (nm n))).frozen? ⟨B, 4, none⟩ = false ∧ (w3.setCell ⟨B, 0, none⟩ (.string (nm n))).cell? ⟨B, 4, none⟩ = some (.slice qd s.ds.length cd) ∧ w5.cell? ⟨B, 0, none⟩ = some (.string (nm n)) ∧ w5.cell? ⟨B, 1, none⟩ = some (.int .i64 s.ty) ∧ w5.cell? ⟨B, 2, none⟩ = some (.int .i64 s.cl) ∧ w5.cell? ⟨B, 3, none⟩ = some (.int .i64 s.tl) ∧ w5.cell? ⟨B, 4, none⟩ = some v' ∧ w5.cell? ⟨B, 5, none⟩ = some (.slice none 0 0) ∧ ∃ v6 w6 q6 c6, (bAppS #[.slice qv k cv, .slice (some ⟨w5.heap.size, 0, none⟩) 1 1]).run Tryz.prog (w5.alloc (.cells #[.string (nm n), .int .i64 s.ty, .int .i64 s.cl, .int .i64 s.tl, v', .slice none 0 0] 44)) = .ok v6 w6 ∧ v6 = .slice q6 (k + 1) c6 ∧ Hid (k + 1 = (R (ss.take (i + 1))).length ∧ Cs M W (.slice q6 (k + 1) c6) (R (ss.take (i + 1))) w6)) := by
     intro w3 v' qn cn hv hb hd
     have xx := HX.out.blk hb
     have hB3 := xx.hb
     have hB4 := hset hB3 0 (.string (nm n))
     have hB5 := hset hB4 4 v'
     have b5 : Below wr.heap.size wr ((w3.setCell ⟨B, 0, none⟩ (.string (nm n))).setCell ⟨B, 4, none⟩ v') := (xx.bel.setCell (p := ⟨B, 0, none⟩) xx.le _).setCell (p := ⟨B, 4, none⟩) xx.le _
     have d5 : ((w3.setCell ⟨B, 0, none⟩ (.string (nm n))).setCell ⟨B, 4, none⟩ v').ownsRow V.heap.size 9 1 v' s.ds.length (strs s.ds) := by
      refine own_same (own_same hd fun b c f _ hc => Below.heap_setCell _ _ _ _ (fun e0 => by obtain rfl : b = B := e0; rw [hB3] at hc; simp at hc)) fun b c f _ hc => Below.heap_setCell _ _ _ _ (fun e0 => by obtain rfl : b = B := e0; rw [hB4] at hc; simp at hc)
     obtain ⟨v6, w6, r6, s6, b6⟩ := app_one hwr.out b5 hMr hlk.out ⟨n, s.ty, s.cl, s.tl, v', .slice none 0 0⟩ { s with ls := n } ⟨rfl, rfl, rfl, rfl, rfl, own_low d5 hMV⟩ (fun b hb => Nat.le_trans HX.out.bel.size (own_lt d5 hb).2.1) hv
     obtain ⟨els6, o6, f6⟩ := s6
     obtain ⟨q6, c6, hv6⟩ := srow_any o6
     have hk6 : els6.length = k + 1 := by rw [f6.1.len, List.length_append, ← hkk.out]; rfl
     rw [hk6] at hv6
     refine ⟨by unfold World.frozen?; simp [hB3], xx.cell 0 _ rfl, _, rfl, by unfold World.frozen?; simp [hB4], by rw [So.cell_blk hB4]; rfl, by rw [So.cell_blk hB5]; rfl, by rw [So.cell_blk hB5]; rfl, by rw [So.cell_blk hB5]; rfl, by rw [So.cell_blk hB5]; rfl, by rw [So.cell_blk hB5]; rfl, by rw [So.cell_blk hB5]; rfl, v6, w6, q6, c6, by rw [← hv] at r6; exact r6, hv6, ?_⟩
     show _ ∧ _
     rw [HRe.out]
     refine ⟨by rw [List.length_append, ← hkk.out]; rfl, by rw [← hv6]; exact ⟨els6, o6, f6⟩, hwb.out.trans ((b5.mono hMr).trans b6)⟩
    clear hVd HRe HSV
    rcases hd with h1 | ⟨h1, h2⟩
    ·have hd1 : (s.ty == kind) = true := by simpa using h1
     clear h1
     go_upto_region 5 with fail
     rw [HV.out, HB.out]
     go_upto_region 6 with fail
     refine wp_region_held_drew (S := fun _ => True) (by kernel_rfl) trivial (fun hHeld => ?_)
     refine wU (i := 0) (v := ?vpa_0) rfl ?ypa_0 (by assumption) ?_
     case ypa_0 => (intro w hSw; (try dsimp only at hSw); go_simp; try with_reducible rfl)
     refine wU (i := 2) (v := ?vpa_2) rfl ?ypa_2 (by assumption) ?_
     case ypa_2 => (intro w hSw; (try dsimp only at hSw); go_simp; try with_reducible rfl)
     try simp only [Act.put, List.getElem_toArray, List.getElem_cons_succ, List.getElem_cons_zero, List.setIfInBounds_toArray, List.set_cons_zero, List.set_cons_succ]
     refine wpAnyH_ready (rs := [1, 3]) (by kernel_rfl) (by simp) ?_
     refine AllReadyH.cons rfl (fun K hK => ?_) (AllReadyH.cons rfl (fun K hK => ?_) AllReadyH.nil)
     ·go_simp
      go_at_call 44
      refine (HC.out _).mono ?_
      rintro e1 w2 ⟨rfl, hb2⟩
      have b2 : Below V.heap.size V w2 := (Below.refl V.heap.size V).drew.trans hb2
      clear hb2
      refine hK.out _ _ trivial (fun hHeld => ?_)
      clear hK K
      try simp only [Act.put, List.getElem_toArray, List.getElem_cons_succ, List.getElem_cons_zero, List.setIfInBounds_toArray, List.set_cons_zero, List.set_cons_succ]
      refine wpAnyH_ready (rs := [3]) (by kernel_rfl) (by simp) ?_
      refine AllReadyH.cons rfl (fun K hK => ?_) AllReadyH.nil
      have x4 := HVd.out _ b2
      go_simp
      clear x4
      refine hK.out _ _ trivial (fun hHeld => ?_)
      clear hK K
      refine wU (i := 5) (v := ?vpb_5) rfl ?ypb_5 (by assumption) ?_
      case ypb_5 => (intro w hSw; (try dsimp only at hSw); go_simp; try with_reducible rfl)
      try simp only [Act.put, List.getElem_toArray, List.getElem_cons_succ, List.getElem_cons_zero, List.setIfInBounds_toArray, List.set_cons_zero, List.set_cons_succ]
      refine wpAnyH_ready (rs := [4]) (by kernel_rfl) (by simp) ?_
      refine AllReadyH.cons rfl (fun K hK => ?_) AllReadyH.nil
      go_simp
      go_at_call 126
      refine (HDs.out _ b2).mono ?_
      rintro e2 w3 ⟨v', rfl, hd3, hb3⟩
      have b3 : Below V.heap.size V w3 := b2.trans (hb3.mono b2.size)
      obtain ⟨qn, cn, hvn⟩ := srow_any hd3
      obtain ⟨f0, g0, w5, e5, f4, g4, y0, y1, y2, y3, y4, y5, v6, w6, q6, c6, ra, h6, HE⟩ := HFin.out w3 v' qn cn hvn b3 (own_low hd3 b2.size)
      subst hvn
      subst h6
      refine hK.out _ _ trivial (fun hHeld => ?_)
      clear hK K
      try simp only [Act.put, List.getElem_toArray, List.getElem_cons_succ, List.getElem_cons_zero, List.setIfInBounds_toArray, List.set_cons_zero, List.set_cons_succ]
      refine wpAnyH_ready (rs := [6]) (by kernel_rfl) (by simp) ?_
      refine AllReadyH.cons rfl (fun K hK => ?_) AllReadyH.nil
      go_simp
      refine hK.out _ _ trivial (fun hHeld => ?_)
      clear hK K
      refine wU (i := 7) (v := ?vpby_7) rfl ?ypby_7 (by assumption) ?_
      case ypby_7 => (intro w hSw; (try dsimp only at hSw); go_simp; try with_reducible rfl)
      try simp only [Act.put, List.getElem_toArray, List.getElem_cons_succ, List.getElem_cons_zero, List.setIfInBounds_toArray, List.set_cons_zero, List.set_cons_succ]
      refine wpAnyH_ready (rs := [8]) (by kernel_rfl) (by simp) ?_
      refine AllReadyH.cons rfl (fun K hK => ?_) AllReadyH.nil
      go_simp
      refine hK.out _ _ trivial (fun hHeld => ?_)
      clear hK K
      try simp only [Act.put, List.getElem_toArray, List.getElem_cons_succ, List.getElem_cons_zero, List.setIfInBounds_toArray, List.set_cons_zero, List.set_cons_succ]
      refine wpAnyH_done (by kernel_rfl) ?_ _
      try rw [e5]
      clear hHeld f0 g0 e5 f4 g4 hb3 b3 b2 hd3 HFin HDs HVd HX
      go_wp2
      go_roundw
      case rel => exact ⟨i + 1, k + 1, q6, c6, by omega, by first | rfl | go_num, rfl, HE⟩
      case measure => simp [intOf]; omega
     ·have x4 := HVd.out _ (Below.refl V.heap.size V).drew
      go_simp
      clear x4
      refine hK.out _ _ trivial (fun hHeld => ?_)
      clear hK K
      try simp only [Act.put, List.getElem_toArray, List.getElem_cons_succ, List.getElem_cons_zero, List.setIfInBounds_toArray, List.set_cons_zero, List.set_cons_succ]
      refine wpAnyH_ready (rs := [1]) (by kernel_rfl) (by simp) ?_
      refine AllReadyH.cons rfl (fun K hK => ?_) AllReadyH.nil
      go_simp
      go_at_call 44
      refine (HC.out _).mono ?_
      rintro e1 w2 ⟨rfl, hb2⟩
      have b2 : Below V.heap.size V w2 := (Below.refl V.heap.size V).drew.trans hb2
      clear hb2
      refine hK.out _ _ trivial (fun hHeld => ?_)
      clear hK K
      refine wU (i := 5) (v := ?vpc_5) rfl ?ypc_5 (by assumption) ?_
      case ypc_5 => (intro w hSw; (try dsimp only at hSw); go_simp; try with_reducible rfl)
      try simp only [Act.put, List.getElem_toArray, List.getElem_cons_succ, List.getElem_cons_zero, List.setIfInBounds_toArray, List.set_cons_zero, List.set_cons_succ]
      refine wpAnyH_ready (rs := [4]) (by kernel_rfl) (by simp) ?_
      refine AllReadyH.cons rfl (fun K hK => ?_) AllReadyH.nil
      go_simp
      go_at_call 126
      refine (HDs.out _ b2).mono ?_
      rintro e2 w3 ⟨v', rfl, hd3, hb3⟩
      have b3 : Below V.heap.size V w3 := b2.trans (hb3.mono b2.size)
      obtain ⟨qn, cn, hvn⟩ := srow_any hd3
      obtain ⟨f0, g0, w5, e5, f4, g4, y0, y1, y2, y3, y4, y5, v6, w6, q6, c6, ra, h6, HE⟩ := HFin.out w3 v' qn cn hvn b3 (own_low hd3 b2.size)
      subst hvn
      subst h6
      refine hK.out _ _ trivial (fun hHeld => ?_)
      clear hK K
      try simp only [Act.put, List.getElem_toArray, List.getElem_cons_succ, List.getElem_cons_zero, List.setIfInBounds_toArray, List.set_cons_zero, List.set_cons_succ]
      refine wpAnyH_ready (rs := [6]) (by kernel_rfl) (by simp) ?_
      refine AllReadyH.cons rfl (fun K hK => ?_) AllReadyH.nil
      go_simp
      refine hK.out _ _ trivial (fun hHeld => ?_)
      clear hK K
      refine wU (i := 7) (v := ?vpcy_7) rfl ?ypcy_7 (by assumption) ?_
      case ypcy_7 => (intro w hSw; (try dsimp only at hSw); go_simp; try with_reducible rfl)
      try simp only [Act.put, List.getElem_toArray, List.getElem_cons_succ, List.getElem_cons_zero, List.setIfInBounds_toArray, List.set_cons_zero, List.set_cons_succ]
      refine wpAnyH_ready (rs := [8]) (by kernel_rfl) (by simp) ?_
      refine AllReadyH.cons rfl (fun K hK => ?_) AllReadyH.nil
      go_simp
      refine hK.out _ _ trivial (fun hHeld => ?_)
      clear hK K
      try simp only [Act.put, List.getElem_toArray, List.getElem_cons_succ, List.getElem_cons_zero, List.setIfInBounds_toArray, List.set_cons_zero, List.set_cons_succ]
      refine wpAnyH_done (by kernel_rfl) ?_ _
      try rw [e5]
      clear hHeld f0 g0 e5 f4 g4 hb3 b3 b2 hd3 HFin HDs HVd HX
      go_wp2
      go_roundw
      case rel => exact ⟨i + 1, k + 1, q6, c6, by omega, by first | rfl | go_num, rfl, HE⟩
      case measure => simp [intOf]; omega
    ·have hd1 : (s.ty == kind) = false := by simpa using h1
     have hd2 : (kind == 255) = true := by simpa using h2
     clear h1 h2
     go_upto_region 5 with fail
     rw [HV.out, HB.out]
     go_upto_region 6 with fail
     refine wp_region_held_drew (S := fun _ => True) (by kernel_rfl) trivial (fun hHeld => ?_)
     refine wU (i := 0) (v := ?vqa_0) rfl ?yqa_0 (by assumption) ?_
     case yqa_0 => (intro w hSw; (try dsimp only at hSw); go_simp; try with_reducible rfl)
     refine wU (i := 2) (v := ?vqa_2) rfl ?yqa_2 (by assumption) ?_
     case yqa_2 => (intro w hSw; (try dsimp only at hSw); go_simp; try with_reducible rfl)
     try simp only [Act.put, List.getElem_toArray, List.getElem_cons_succ, List.getElem_cons_zero, List.setIfInBounds_toArray, List.set_cons_zero, List.set_cons_succ]
     refine wpAnyH_ready (rs := [1, 3]) (by kernel_rfl) (by simp) ?_
     refine AllReadyH.cons rfl (fun K hK => ?_) (AllReadyH.cons rfl (fun K hK => ?_) AllReadyH.nil)
     ·go_simp
      go_at_call 44
      refine (HC.out _).mono ?_
      rintro e1 w2 ⟨rfl, hb2⟩
      have b2 : Below V.heap.size V w2 := (Below.refl V.heap.size V).drew.trans hb2
      clear hb2
      refine hK.out _ _ trivial (fun hHeld => ?_)
      clear hK K
      try simp only [Act.put, List.getElem_toArray, List.getElem_cons_succ, List.getElem_cons_zero, List.setIfInBounds_toArray, List.set_cons_zero, List.set_cons_succ]
      refine wpAnyH_ready (rs := [3]) (by kernel_rfl) (by simp) ?_
      refine AllReadyH.cons rfl (fun K hK => ?_) AllReadyH.nil
      have x4 := HVd.out _ b2
      go_simp
      clear x4
      refine hK.out _ _ trivial (fun hHeld => ?_)
      clear hK K
      refine wU (i := 5) (v := ?vqb_5) rfl ?yqb_5 (by assumption) ?_
      case yqb_5 => (intro w hSw; (try dsimp only at hSw); go_simp; try with_reducible rfl)
      try simp only [Act.put, List.getElem_toArray, List.getElem_cons_succ, List.getElem_cons_zero, List.setIfInBounds_toArray, List.set_cons_zero, List.set_cons_succ]
      refine wpAnyH_ready (rs := [4]) (by kernel_rfl) (by simp) ?_
      refine AllReadyH.cons rfl (fun K hK => ?_) AllReadyH.nil
      go_simp
      go_at_call 126
      refine (HDs.out _ b2).mono ?_
      rintro e2 w3 ⟨v', rfl, hd3, hb3⟩
      have b3 : Below V.heap.size V w3 := b2.trans (hb3.mono b2.size)
      obtain ⟨qn, cn, hvn⟩ := srow_any hd3
      obtain ⟨f0, g0, w5, e5, f4, g4, y0, y1, y2, y3, y4, y5, v6, w6, q6, c6, ra, h6, HE⟩ := HFin.out w3 v' qn cn hvn b3 (own_low hd3 b2.size)
      subst hvn
      subst h6
      refine hK.out _ _ trivial (fun hHeld => ?_)
      clear hK K
      try simp only [Act.put, List.getElem_toArray, List.getElem_cons_succ, List.getElem_cons_zero, List.setIfInBounds_toArray, List.set_cons_zero, List.set_cons_succ]
      refine wpAnyH_ready (rs := [6]) (by kernel_rfl) (by simp) ?_
      refine AllReadyH.cons rfl (fun K hK => ?_) AllReadyH.nil
      go_simp
      refine hK.out _ _ trivial (fun hHeld => ?_)
      clear hK K
      refine wU (i := 7) (v := ?vqby_7) rfl ?yqby_7 (by assumption) ?_
      case yqby_7 => (intro w hSw; (try dsimp only at hSw); go_simp; try with_reducible rfl)
      try simp only [Act.put, List.getElem_toArray, List.getElem_cons_succ, List.getElem_cons_zero, List.setIfInBounds_toArray, List.set_cons_zero, List.set_cons_succ]
      refine wpAnyH_ready (rs := [8]) (by kernel_rfl) (by simp) ?_
      refine AllReadyH.cons rfl (fun K hK => ?_) AllReadyH.nil
      go_simp
      refine hK.out _ _ trivial (fun hHeld => ?_)
      clear hK K
      try simp only [Act.put, List.getElem_toArray, List.getElem_cons_succ, List.getElem_cons_zero, List.setIfInBounds_toArray, List.set_cons_zero, List.set_cons_succ]
      refine wpAnyH_done (by kernel_rfl) ?_ _
      try rw [e5]
      clear hHeld f0 g0 e5 f4 g4 hb3 b3 b2 hd3 HFin HDs HVd HX
      go_wp2
      go_roundw
      case rel => exact ⟨i + 1, k + 1, q6, c6, by omega, by first | rfl | go_num, rfl, HE⟩
      case measure => simp [intOf]; omega
     ·have x4 := HVd.out _ (Below.refl V.heap.size V).drew
      go_simp
      clear x4
      refine hK.out _ _ trivial (fun hHeld => ?_)
      clear hK K
      try simp only [Act.put, List.getElem_toArray, List.getElem_cons_succ, List.getElem_cons_zero, List.setIfInBounds_toArray, List.set_cons_zero, List.set_cons_succ]
      refine wpAnyH_ready (rs := [1]) (by kernel_rfl) (by simp) ?_
      refine AllReadyH.cons rfl (fun K hK => ?_) AllReadyH.nil
      go_simp
      go_at_call 44
      refine (HC.out _).mono ?_
      rintro e1 w2 ⟨rfl, hb2⟩
      have b2 : Below V.heap.size V w2 := (Below.refl V.heap.size V).drew.trans hb2
      clear hb2
      refine hK.out _ _ trivial (fun hHeld => ?_)
      clear hK K
      refine wU (i := 5) (v := ?vqc_5) rfl ?yqc_5 (by assumption) ?_
      case yqc_5 => (intro w hSw; (try dsimp only at hSw); go_simp; try with_reducible rfl)
      try simp only [Act.put, List.getElem_toArray, List.getElem_cons_succ, List.getElem_cons_zero, List.setIfInBounds_toArray, List.set_cons_zero, List.set_cons_succ]
      refine wpAnyH_ready (rs := [4]) (by kernel_rfl) (by simp) ?_
      refine AllReadyH.cons rfl (fun K hK => ?_) AllReadyH.nil
      go_simp
      go_at_call 126
      refine (HDs.out _ b2).mono ?_
      rintro e2 w3 ⟨v', rfl, hd3, hb3⟩
      have b3 : Below V.heap.size V w3 := b2.trans (hb3.mono b2.size)
      obtain ⟨qn, cn, hvn⟩ := srow_any hd3
      obtain ⟨f0, g0, w5, e5, f4, g4, y0, y1, y2, y3, y4, y5, v6, w6, q6, c6, ra, h6, HE⟩ := HFin.out w3 v' qn cn hvn b3 (own_low hd3 b2.size)
      subst hvn
      subst h6
      refine hK.out _ _ trivial (fun hHeld => ?_)
      clear hK K
      try simp only [Act.put, List.getElem_toArray, List.getElem_cons_succ, List.getElem_cons_zero, List.setIfInBounds_toArray, List.set_cons_zero, List.set_cons_succ]
      refine wpAnyH_ready (rs := [6]) (by kernel_rfl) (by simp) ?_
      refine AllReadyH.cons rfl (fun K hK => ?_) AllReadyH.nil
      go_simp
      refine hK.out _ _ trivial (fun hHeld => ?_)
      clear hK K
      refine wU (i := 7) (v := ?vqcy_7) rfl ?yqcy_7 (by assumption) ?_
      case yqcy_7 => (intro w hSw; (try dsimp only at hSw); go_simp; try with_reducible rfl)
      try simp only [Act.put, List.getElem_toArray, List.getElem_cons_succ, List.getElem_cons_zero, List.setIfInBounds_toArray, List.set_cons_zero, List.set_cons_succ]
      refine wpAnyH_ready (rs := [8]) (by kernel_rfl) (by simp) ?_
      refine AllReadyH.cons rfl (fun K hK => ?_) AllReadyH.nil
      go_simp
      refine hK.out _ _ trivial (fun hHeld => ?_)
      clear hK K
      try simp only [Act.put, List.getElem_toArray, List.getElem_cons_succ, List.getElem_cons_zero, List.setIfInBounds_toArray, List.set_cons_zero, List.set_cons_succ]
      refine wpAnyH_done (by kernel_rfl) ?_ _
      try rw [e5]
      clear hHeld f0 g0 e5 f4 g4 hb3 b3 b2 hd3 HFin HDs HVd HX
      go_wp2
      go_roundw
      case rel => exact ⟨i + 1, k + 1, q6, c6, by omega, by first | rfl | go_num, rfl, HE⟩
      case measure => simp [intOf]; omega
  ·have hlz : ¬ (i : Int) < (m : Int) := by omega
   have HE : Hid (k = (R ss).length ∧ Cs M W (.slice qv k cv) (R ss) wr) := by
    have := HS.out
    rwa [List.take_of_length_le (by rw [← HLs.out]; omega)] at this
   clear HS HBL H0
   by_cases hk0 : k = 0
   ·have HF : Hid (c0 = (4, []) ∧ Below M W wr) := by
     refine ⟨?_, HE.out.2.bel⟩
     rw [HCh.out, if_pos (by rw [← HE.out.1]; exact hk0)]
    clear HE
    subst hk0
    go_wp2
    go_ret2
    refine ⟨_, by rw [HF.out.1]; rfl, ?_, HF.out.2⟩
    rw [HF.out.1]
    exact ⟨[], World.ownsRow_nil .., trivial, Dis.nil⟩
   ·have HF : Hid (c0 = (3, R ss) ∧ SetsAt M wr (.slice qv k cv) (R ss) ∧ Below M W wr) := by
     refine ⟨?_, HE.out.2.at', HE.out.2.bel⟩
     rw [HCh.out, if_neg (by rw [← HE.out.1]; exact hk0)]
    have hkz : ¬ (k : Int) = 0 := by omega
    clear HE
    go_wp2
    go_ret2
    refine ⟨_, by rw [HF.out.1]; rfl, ?_, HF.out.2.2⟩
    rw [HF.out.1]
    exact HF.out.2.1
end Go.Proofs.YtdlcldjlfhmlgaaGreatDoor.D
/- Layer 14: what a zone answers, once more: texts in blocks of their own. -/
namespace Go.Proofs.YtdlcldjlfhmlgaaGreatDoor.D
open Go.RowKit
open So (El elC SRow)
def AnP (W : World) (c : Int × List St) (e : Ending) (w' : World) : Prop := ∃ v, e = .returned (.tuple #[.int .i64 c.1, v]) ∧ SetsAt W.heap.size w' v c.2 ∧ Below W.heap.size W w'
theorem AnP.nil (W : World) (c : Int) : AnP W (c, []) (.returned (.tuple #[.int .i64 c, .slice none 0 0])) W := ⟨_, rfl, ⟨[], World.ownsRow_nil .., trivial, Dis.nil⟩, Below.refl _ _⟩
theorem AnP.nil' {W w : World} (c : Int) (hb : Below W.heap.size W w) : AnP W (c, []) (.returned (.tuple #[.int .i64 c, .slice none 0 0])) w := ⟨_, rfl, ⟨[], World.ownsRow_nil .., trivial, Dis.nil⟩, hb⟩
set_option maxRecDepth 100000 in
theorem drop_in (W : World) (Z : Nat) (s : ByteArray) (k : Int) : Calls Tryz.prog 58 #[ptA Z 0, .string s, .int .i64 k] W fun e w' => AnP W (1, []) e w' := by
 go_enter Tryz.func58, Tryz.ntmps58
 go_wp2
 go_ret2
 exact AnP.nil W 1
set_option maxRecDepth 100000 in
theorem refuse_in (W : World) (Z : Nat) (s : ByteArray) (k : Int) : Calls Tryz.prog 59 #[ptA Z 0, .string s, .int .i64 k] W fun e w' => AnP W (2, []) e w' := by
 go_enter Tryz.func59, Tryz.ntmps59
 go_wp2
 go_ret2
 exact AnP.nil W 2
theorem AnP.low {W w1 : World} {c : Int × List St} {e : Ending} {w' : World} (h : AnP w1 c e w') (hb : Below W.heap.size W w1) : AnP W c e w' := by
 obtain ⟨v, e1, s1, b1⟩ := h
 exact ⟨v, e1, s1.mono hb.size, hb.trans (b1.mono hb.size)⟩
set_option maxRecDepth 100000 in
set_option maxHeartbeats 1000000 in
theorem redirect_in (N : Nat) (W : World) (Z : Nat) (z : Lc) (h : ZoneAt N W Z z) (hz : ZOk z) (n : N3) (hn : OkN n) (kind : Int) : Calls Tryz.prog 62 #[ptA Z 0, .string (nm n), .int .i64 kind] W fun e w' => AnP W (chosR (zsets z.rs) n kind) e w' := by
 obtain ⟨q, cap, els, hf⟩ := h.fct hz
 have hs : Src W q els := fun h0 => by
  obtain ⟨g, e, hr⟩ := hf.fnd.row h0
  exact ⟨g, 0, els, by rw [e, Nat.zero_mul], hr, by simp⟩
 have HC := Hid.mk (chosen_in N W q cap els _ hs hf.rel hf.ds hf.len n hn kind)
 have c1 := hf.fnd.c1
 clear hf hs
 go_enter Tryz.func62, Tryz.ntmps62
 go_wp2_with fail
 refine HC.out.mono ?_
 rintro e w1 ⟨v, rfl, hs, hb⟩
 go_wp2
 go_ret2
 exact ⟨v, rfl, hs, hb⟩
set_option maxRecDepth 100000 in
set_option maxHeartbeats 1000000 in
theorem static_in (N : Nat) (W : World) (Z : Nat) (z : Lc) (h : ZoneAt N W Z z) (hz : ZOk z) (n : N3) (hn : OkN n) (kind : Int) : Calls Tryz.prog 60 #[ptA Z 0, .string (nm n), .int .i64 kind] W fun e w' => AnP W (stcR (zsets z.rs) n (lb z.nm) kind) e w' := by
 obtain ⟨q, cap, els, hf⟩ := h.fct hz
 have HF := Hid.mk (find_in W Z (lb z.nm) hf.zn.1 _ q cap els hf.fnd hf.ok hf.ris hf.len hf.cap n hn)
 have HC := Hid.mk (fun (w : World) (hb : Below W.heap.size W w) q' c' (hs : Src w q' (ownE els n)) => chosen_in N w q' c' (ownE els n) (ownR (zsets z.rs) n) hs (own_rel (hf.rel.blk hb) n) (fun s hm => hf.ds s (mem_own hm)) (Nat.le_trans (own_len _ _) hf.len) n hn kind)
 have HT : Hid (stcR (zsets z.rs) n (lb z.nm) kind = if (hasE els n || eqB n (lb z.nm)) then chosR (ownR (zsets z.rs) n) n kind else (5, [])) := by
  show _ = _
  unfold stcR thrR
  rw [has_rel hf.rel]
 clear hf
 obtain ⟨th, hth⟩ : ∃ th, (hasE els n || eqB n (lb z.nm)) = th := ⟨_, rfl⟩
 unfold FiP at HF
 rw [hth] at HF HT
 obtain ⟨R, hR⟩ : ∃ R, stcR (zsets z.rs) n (lb z.nm) kind = R := ⟨_, rfl⟩
 rw [hR] at HT ⊢
 clear hth hR
 go_enter Tryz.func60, Tryz.ntmps60
 go_wp2_with fail
 refine HF.out.mono ?_
 rintro e w1 ⟨⟨q', c', rfl, hs⟩, hb⟩
 have HB := Hid.mk hb
 have HC1 := Hid.mk (HC.out w1 hb q' c' hs)
 clear hb hs
 cases th with
 | false =>
  have HR : Hid (R = (5, [])) := by show _ = _; rw [HT.out]; rfl
  go_wp2
  go_ret2
  rw [HR.out]
  exact AnP.nil' 5 HB.out
 | true =>
  have HR : Hid (R = chosR (ownR (zsets z.rs) n) n kind) := by show _ = _; rw [HT.out]; rfl
  go_wp2_with fail
  refine HC1.out.mono ?_
  rintro e w2 ⟨v, rfl, hs2, hb2⟩
  have HA : Hid (AnP W R (.returned (.tuple #[.int .i64 R.1, v])) w2) := by
   rw [HR.out]
   exact AnP.low ⟨v, rfl, hs2, hb2⟩ HB.out
  rw [← HR.out]
  clear hs2 hb2
  go_wp2
  go_ret2
  exact HA.out
set_option maxRecDepth 100000 in
set_option maxHeartbeats 1000000 in
theorem transparent_in (N : Nat) (W : World) (Z : Nat) (z : Lc) (h : ZoneAt N W Z z) (hz : ZOk z) (n : N3) (hn : OkN n) (kind : Int) : Calls Tryz.prog 61 #[ptA Z 0, .string (nm n), .int .i64 kind] W fun e w' => AnP W (trsR (zsets z.rs) n (lb z.nm) kind) e w' := by
 have HS := Hid.mk (static_in N W Z z h hz n hn kind)
 have HT : Hid (trsR (zsets z.rs) n (lb z.nm) kind = if (stcR (zsets z.rs) n (lb z.nm) kind).1 = 5 then (0, []) else stcR (zsets z.rs) n (lb z.nm) kind) := rfl
 obtain ⟨R, hR⟩ : ∃ R, stcR (zsets z.rs) n (lb z.nm) kind = R := ⟨_, rfl⟩
 obtain ⟨T, hT⟩ : ∃ T, trsR (zsets z.rs) n (lb z.nm) kind = T := ⟨_, rfl⟩
 rw [hR] at HS HT
 rw [hT] at HT ⊢
 obtain ⟨r1, r2⟩ := R
 clear hR hT
 go_enter Tryz.func61, Tryz.ntmps61
 go_wp2_with fail
 refine HS.out.mono ?_
 rintro e w1 ⟨v, rfl, hs, hb⟩
 have HB := Hid.mk hb
 have HSs := Hid.mk hs
 obtain ⟨els, hr, _⟩ := hs
 obtain ⟨q', c', hv⟩ := srow_any hr
 subst hv
 clear hr hb
 by_cases h5 : r1 = 5
 ·have HR : Hid (T = (0, [])) := by show _ = _; rw [HT.out, if_pos h5]
  have h5b : (r1 == 5) = true := by simpa using h5
  clear h5
  go_wp2
  go_ret2
  rw [HR.out]
  exact AnP.nil' 0 HB.out
 ·have HR : Hid (T = (r1, r2)) := by show _ = _; rw [HT.out, if_neg h5]
  have h5b : (r1 == 5) = false := by simpa using h5
  clear h5
  go_wp2
  go_ret2
  rw [HR.out]
  exact ⟨_, rfl, HSs.out, HB.out⟩
end Go.Proofs.YtdlcldjlfhmlgaaGreatDoor.D
/- Layer 14: Answer, once more: texts in blocks of their own. -/
namespace Go.Proofs.YtdlcldjlfhmlgaaGreatDoor.D
open Go.RowKit
open So (El elC SRow)
theorem meth_in (N : Nat) (W : World) (Z : Nat) (z : Lc) (h : ZoneAt N W Z z) (hz : ZOk z) (n : N3) (hn : OkN n) (kind : Int) : Calls Tryz.prog (mtd z.kd) #[ptA Z 0, .string (nm n), .int .i64 kind] W fun e w' => AnP W (ansZ z n kind) e w' := by
 unfold ansZ mtd
 by_cases h1 : z.kd = 1
 ·rw [if_pos h1, if_pos h1]; exact drop_in W Z _ _
 by_cases h2 : z.kd = 2
 ·rw [if_neg h1, if_neg h1, if_pos h2, if_pos h2]; exact refuse_in W Z _ _
 by_cases h3 : z.kd = 3
 ·rw [if_neg h1, if_neg h1, if_neg h2, if_neg h2, if_pos h3, if_pos h3]; exact static_in N W Z z h hz n hn kind
 by_cases h4 : z.kd = 4
 ·rw [if_neg h1, if_neg h1, if_neg h2, if_neg h2, if_neg h3, if_neg h3, if_pos h4, if_pos h4]; exact transparent_in N W Z z h hz n hn kind
 rw [if_neg h1, if_neg h1, if_neg h2, if_neg h2, if_neg h3, if_neg h3, if_neg h4, if_neg h4]; exact redirect_in N W Z z h hz n hn kind
set_option maxRecDepth 100000 in
set_option maxHeartbeats 1000000 in
theorem answer_in (N : Nat) (W : World) (X M : Nat) (L : List (Nat × Lc)) (h : Locs N W X M L) (hok : ∀ p ∈ L, ZOk p.2) (s : ByteArray) (hs : s.size ≤ maxLen) (kind : Int) : Calls Tryz.prog 14 #[ptA X 0, .string s, .int .i64 kind] W fun e w' => AnP W (ansP L s kind) e w' := by
 have HN := Hid.mk (nearest_in N W X M L h s hs)
 unfold ansP
 cases hf : nearP L s with
 | none =>
  rw [hf] at HN
  simp only [pV] at HN
  clear hf h
  go_enter Tryz.func14, Tryz.ntmps14
  go_wp2_with fail
  refine HN.out.mono ?_
  rintro e w1 ⟨rfl, hb1⟩
  go_wp2
  go_ret2
  exact AnP.nil' 0 hb1
 | some p =>
  rw [hf] at HN
  simp only [pV] at HN ⊢
  obtain ⟨hm, hns⟩ := nearP_mem hf
  have HM : Hid (∀ w, Below W.heap.size W w → ∃ v, w.heap[p.1]? = some (.cells #[.string p.2.nm, v, .func (.func (mtd p.2.kd)) #[ptA p.1 0] #[]] 92 (0, 0)) ∧ Calls Tryz.prog (mtd p.2.kd) #[ptA p.1 0, .string s, .int .i64 kind] w fun e w' => AnP w (ansZ p.2 (lb s) kind) e w') := by
   intro w hb
   have hz := ((h.blk hb).zs p hm).1
   obtain ⟨v, els, q, cap, hzb, _⟩ := hz.blk
   refine ⟨v, hzb, ?_⟩
   have := meth_in N w p.1 p.2 hz (hok p hm) (lb s) (lb_ok hns).1 kind
   rw [← (lb_ok hns).2] at this
   exact this
  obtain ⟨A, hA⟩ : ∃ A, ansZ p.2 (lb s) kind = A := ⟨_, rfl⟩
  rw [hA] at HM ⊢
  obtain ⟨f, hfe⟩ : ∃ f, mtd p.2.kd = f := ⟨_, rfl⟩
  have hfv : f = 58 ∨ f = 59 ∨ f = 60 ∨ f = 61 ∨ f = 62 := by
   rw [← hfe]
   unfold mtd
   repeat' split
   all_goals simp
  rw [hfe] at HM
  clear hf h hm hns hA hfe
  rcases hfv with rfl | rfl | rfl | rfl | rfl
  ·go_enter Tryz.func14, Tryz.ntmps14
   go_wp2_with fail
   refine HN.out.mono ?_
   rintro e w1 ⟨rfl, hb1⟩
   obtain ⟨v, hz, hc⟩ := HM.out _ hb1
   have cz : w1.cell? ⟨p.1, 2, none⟩ = some (.func (.func 58) #[ptA p.1 0] #[]) := by rw [So.cell_blk hz]; rfl
   have HC := Hid.mk hc
   have HB := Hid.mk hb1
   clear hz hc hb1 HM
   go_wp2_with fail
   refine HC.out.mono ?_
   rintro e w2 ⟨v', rfl, hs2, hb2⟩
   have HE : Hid (AnP W A (.returned (.tuple #[.int .i64 A.1, v'])) w2) := AnP.low ⟨v', rfl, hs2, hb2⟩ HB.out
   clear hs2 hb2
   go_wp2
   go_ret2
   exact HE.out
  ·go_enter Tryz.func14, Tryz.ntmps14
   go_wp2_with fail
   refine HN.out.mono ?_
   rintro e w1 ⟨rfl, hb1⟩
   obtain ⟨v, hz, hc⟩ := HM.out _ hb1
   have cz : w1.cell? ⟨p.1, 2, none⟩ = some (.func (.func 59) #[ptA p.1 0] #[]) := by rw [So.cell_blk hz]; rfl
   have HC := Hid.mk hc
   have HB := Hid.mk hb1
   clear hz hc hb1 HM
   go_wp2_with fail
   refine HC.out.mono ?_
   rintro e w2 ⟨v', rfl, hs2, hb2⟩
   have HE : Hid (AnP W A (.returned (.tuple #[.int .i64 A.1, v'])) w2) := AnP.low ⟨v', rfl, hs2, hb2⟩ HB.out
   clear hs2 hb2
   go_wp2
   go_ret2
   exact HE.out
  ·go_enter Tryz.func14, Tryz.ntmps14
   go_wp2_with fail
   refine HN.out.mono ?_
   rintro e w1 ⟨rfl, hb1⟩
   obtain ⟨v, hz, hc⟩ := HM.out _ hb1
   have cz : w1.cell? ⟨p.1, 2, none⟩ = some (.func (.func 60) #[ptA p.1 0] #[]) := by rw [So.cell_blk hz]; rfl
   have HC := Hid.mk hc
   have HB := Hid.mk hb1
   clear hz hc hb1 HM
   go_wp2_with fail
   refine HC.out.mono ?_
   rintro e w2 ⟨v', rfl, hs2, hb2⟩
   have HE : Hid (AnP W A (.returned (.tuple #[.int .i64 A.1, v'])) w2) := AnP.low ⟨v', rfl, hs2, hb2⟩ HB.out
   clear hs2 hb2
   go_wp2
   go_ret2
   exact HE.out
  ·go_enter Tryz.func14, Tryz.ntmps14
   go_wp2_with fail
   refine HN.out.mono ?_
   rintro e w1 ⟨rfl, hb1⟩
   obtain ⟨v, hz, hc⟩ := HM.out _ hb1
   have cz : w1.cell? ⟨p.1, 2, none⟩ = some (.func (.func 61) #[ptA p.1 0] #[]) := by rw [So.cell_blk hz]; rfl
   have HC := Hid.mk hc
   have HB := Hid.mk hb1
   clear hz hc hb1 HM
   go_wp2_with fail
   refine HC.out.mono ?_
   rintro e w2 ⟨v', rfl, hs2, hb2⟩
   have HE : Hid (AnP W A (.returned (.tuple #[.int .i64 A.1, v'])) w2) := AnP.low ⟨v', rfl, hs2, hb2⟩ HB.out
   clear hs2 hb2
   go_wp2
   go_ret2
   exact HE.out
  ·go_enter Tryz.func14, Tryz.ntmps14
   go_wp2_with fail
   refine HN.out.mono ?_
   rintro e w1 ⟨rfl, hb1⟩
   obtain ⟨v, hz, hc⟩ := HM.out _ hb1
   have cz : w1.cell? ⟨p.1, 2, none⟩ = some (.func (.func 62) #[ptA p.1 0] #[]) := by rw [So.cell_blk hz]; rfl
   have HC := Hid.mk hc
   have HB := Hid.mk hb1
   clear hz hc hb1 HM
   go_wp2_with fail
   refine HC.out.mono ?_
   rintro e w2 ⟨v', rfl, hs2, hb2⟩
   have HE : Hid (AnP W A (.returned (.tuple #[.int .i64 A.1, v'])) w2) := AnP.low ⟨v', rfl, hs2, hb2⟩ HB.out
   clear hs2 hb2
   go_wp2
   go_ret2
   exact HE.out
end Go.Proofs.YtdlcldjlfhmlgaaGreatDoor.D
/- Rows of any struct: put into a row of their own, with one more behind. -/
namespace Go.Proofs.YtdlcldjlfhmlgaaGreatDoor
open Go.RowKit
section
variable {α : Type}
def RowsAt (sz : Nat) (R : World → α → List Value → Prop) (w : World) (q : Option Addr) (l : List α) : Prop := ∀ j (hj : j < l.length), ∃ b off row, q = some ⟨b, off, none⟩ ∧ b < w.heap.size ∧ R w l[j] row ∧ ∀ i, i < sz → w.cell? ⟨b, off + j * sz + i, none⟩ = row[i]?
structure RowOk (sz M : Nat) (R : World → α → List Value → Prop) : Prop where
 len : ∀ w x row, R w x row → row.length = sz
 one : ∀ w x row, R w x row → ∀ u ∈ row, u.oneCell' = true
 blk : ∀ w w' x row, Below M w w' → R w x row → R w' x row
theorem rowsF_len {sz : Nat} : ∀ {rows : List (List Value)}, (∀ r ∈ rows, r.length = sz) → rows.flatten.length = rows.length * sz
 | [], _ => by simp
 | r :: rows, h => by
  rw [List.flatten_cons, List.length_append, h r (by simp), rowsF_len (fun x hx => h x (by simp [hx])), List.length_cons, Nat.add_mul]
  omega
theorem rowsF_at {sz : Nat} (hz : 0 < sz) : ∀ {rows : List (List Value)}, (∀ r ∈ rows, r.length = sz) → ∀ (j : Nat) (hj : j < rows.length) (i : Nat), i < sz → rows.flatten[j * sz + i]? = rows[j][i]?
 | r :: rows, h, 0, _, i, hi => by
  rw [List.flatten_cons, Nat.zero_mul, Nat.zero_add, List.getElem?_append_left (by rw [h r (by simp)]; exact hi)]
  rfl
 | r :: rows, h, j + 1, hj, i, hi => by
  have hr := h r (by simp)
  have ih := rowsF_at (rows := rows) hz (fun x hx => h x (List.mem_cons_of_mem _ hx)) j (by simpa using hj) i hi
  rw [List.flatten_cons, List.getElem?_append_right (by rw [hr, Nat.add_mul]; omega), hr, show (j + 1) * sz + i - sz = j * sz + i by rw [Nat.add_mul]; omega, ih]
  rfl
theorem rows_cells {sz M : Nat} {R : World → α → List Value → Prop} (hz : 0 < sz) (ok : RowOk sz M R) {W : World} {q : Option Addr} {l : List α} (h : RowsAt sz R W q l) : ∃ rows : List (List Value), rows.length = l.length ∧ (∀ r ∈ rows, r.length = sz) ∧ (∀ j (hj : j < l.length) (hj' : j < rows.length), R W l[j] rows[j]) ∧ (∀ a, q = some a → ∀ j u, rows.flatten[j]? = some u → W.cell? (a.add j) = some u) := by
 have key : ∀ j, j < l.length → ∃ row : List Value, ∃ hj : j < l.length, ∃ b off, q = some ⟨b, off, none⟩ ∧ R W l[j] row ∧ ∀ i, i < sz → W.cell? ⟨b, off + j * sz + i, none⟩ = row[i]? := fun j hj => by
  obtain ⟨b, off, row, e, _, hR, hc⟩ := h j hj
  exact ⟨row, hj, b, off, e, hR, hc⟩
 obtain ⟨rows, hlen, hr⟩ := llist_of l.length key
 have hall : ∀ r ∈ rows, r.length = sz := fun r hr' => by
  obtain ⟨j, hj, rfl⟩ := List.getElem_of_mem hr'
  obtain ⟨_, _, _, _, hR, _⟩ := hr j hj
  exact ok.len _ _ _ hR
 refine ⟨rows, hlen, hall, fun j hj hj' => ?_, fun a ha k u hu => ?_⟩
 ·obtain ⟨_, _, _, _, hR, _⟩ := hr j hj'
  exact hR
 ·have hk : k < rows.flatten.length := (List.getElem?_eq_some_iff.1 hu).1
  rw [rowsF_len hall] at hk
  have hj : k / sz < rows.length := Nat.div_lt_of_lt_mul (by rw [Nat.mul_comm]; exact hk)
  have hi : k % sz < sz := Nat.mod_lt _ hz
  have he : k / sz * sz + k % sz = k := Nat.div_add_mod' k sz
  have e := rowsF_at hz hall (k / sz) hj (k % sz) hi
  rw [he, hu] at e
  obtain ⟨_, b, off, eq, _, hc⟩ := hr (k / sz) hj
  rw [ha] at eq
  cases eq
  have := hc (k % sz) hi
  rw [← e, Nat.add_assoc, he] at this
  rw [So.add_of]
  exact this
theorem rows_copy {sz bytes M : Nat} {R : World → α → List Value → Prop} {t e : TypeId} {z : Value} (hz : 0 < sz) (ok : RowOk sz M R) (ht : Tryz.prog.underlying t = some (.slice e)) (info : (Tryz.prog.info? e).map (fun i => (i.zero, i.size, i.bytes)) = some (some z, sz, bytes)) (hzs : z.cells.size = sz) {W : World} (hM : M ≤ W.heap.size) {q : Option Addr} {cap : Nat} {l : List α} (h : RowsAt sz R W q l) (hsh : ShC l.length cap q) (hb : l.length * bytes ≤ 140737488355328) (hm : l.length ≤ maxLen) :
  ∃ v1 w1, (Builtin.append_ #[t, t] t #[.slice none 0 0, .slice q l.length cap]).run Tryz.prog W = .ok v1 w1 ∧ Below W.heap.size W w1 ∧ ∃ rows : List (List Value), rows.length = l.length ∧ (∀ r ∈ rows, r.length = sz) ∧ (∀ j (hj : j < l.length) (hj' : j < rows.length), R w1 l[j] rows[j]) ∧ (∀ u ∈ rows.flatten, u.oneCell' = true) ∧ w1.ownsRow W.heap.size e sz v1 l.length rows.flatten := by
 obtain ⟨i0, hi0, hz0, hz1, hz2⟩ := info_parts' info
 obtain ⟨rows, hlen, hall, hR, hc⟩ := rows_cells hz ok h
 have hone : ∀ u ∈ rows.flatten, u.oneCell' = true := fun u hu => by
  obtain ⟨r, hr, hur⟩ := List.mem_flatten.1 hu
  obtain ⟨j, hj, rfl⟩ := List.getElem_of_mem hr
  exact ok.one _ _ _ (hR j (by omega) hj) u hur
 have hnil : W.ownsRow W.heap.size e sz (.slice none 0 0) 0 [] := World.ownsRow_nil ..
 cases q with
 | none =>
  have hc0 := hsh.2.2 rfl
  have hl0 : l.length = 0 := by have := hsh.1; omega
  obtain rfl : rows = [] := List.eq_nil_of_length_eq_zero (by omega)
  refine ⟨.slice none 0 0, W, ?_, Below.refl _ _, [], hlen, hall, hR, hone, ?_⟩
  ·rw [hc0, hl0]
   exact run_append_owned_none (P := Tryz.prog) W W.heap.size t t e i0 sz ht hi0 _ _ _ hnil
  ·rw [hl0]; exact hnil
 | some a =>
  obtain ⟨v', w', hrun, hown, hgr, _, _⟩ := run_append_own_at (P := Tryz.prog) W W.heap.size t t e i0 _ sz bytes ht hi0 hz0 hz1 hz2 hzs hz (.slice none 0 0) 0 [] hnil a l.length cap rows.flatten (by rw [rowsF_len hall, hlen]) (hc a rfl) hone (by omega) (by rw [Nat.zero_add]; exact hb) (Nat.le_refl _)
  have hbel : Below W.heap.size W w' := (Below.refl _ _).grown hgr (Nat.le_refl _) (fun b hb' => by simp [Value.ownBlock] at hb')
  refine ⟨v', w', hrun, hbel, rows, hlen, hall, fun j hj hj' => ok.blk _ _ _ _ (hbel.mono hM) (hR j hj hj'), hone, ?_⟩
  simpa using hown
end
end Go.Proofs.YtdlcldjlfhmlgaaGreatDoor
/- Layer 15: rules, local zones, upstreams, anchors as rows. -/
namespace Go.Proofs.YtdlcldjlfhmlgaaGreatDoor
open Go.RowKit
theorem rcs_block {w : World} {q : Option Addr} {l : List Rc} (h : RcsAt w q l) : 0 < l.length → ∀ a, q = some a → a.block < w.heap.size := fun h0 a ha => by
 obtain ⟨b, off, e, hlt, _⟩ := h 0 h0
 rw [ha] at e
 cases e
 exact hlt
theorem infoLc15 : (Tryz.prog.info? 26).map (fun i => (i.zero, i.size, i.bytes)) = some (some (.agg #[.string ⟨#[]⟩, .int .i64 0, .slice none 0 0]), 3, 48) := by kernel_rfl
def aLc (a : Array Value) : Sem Value := Builtin.append_ #[22, 22] 22 a
theorem app_aLc (a : Array Value) : Builtin.append_ #[22, 22] 22 a = aLc a := rfl
end Go.Proofs.YtdlcldjlfhmlgaaGreatDoor
/- Layer 15: rightServers, rightDs, rightNumbers, rightRoots, rightRules, rightLocals. -/
namespace Go.Proofs.YtdlcldjlfhmlgaaGreatDoor
open Go.RowKit
end Go.Proofs.YtdlcldjlfhmlgaaGreatDoor
