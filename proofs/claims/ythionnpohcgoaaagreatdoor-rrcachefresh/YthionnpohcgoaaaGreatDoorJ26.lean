/- Texts of this proof, joined: RcFw. -/
import Derived.Deep.RegionHeld3
import Derived.Deep.CutRange
import Derived.Test.YthionnpohcgoaaaGreatDoorJ25
set_option linter.unusedVariables false
set_option linter.unusedSimpArgs false
/- Layer 16: RrcacheFresh. -/
namespace Go.Proofs.YthionnpohcgoaaaGreatDoor.Rc
open Go.RowKit
theorem dd_eleven {w : World} {D : Nat} {d : Dd} {qd : Option Addr} {cd : Nat} {qg : Option Addr} {cg : Nat} (h : w.heap[D]? = some (.cells #[.int .i64 d.kd, .string d.s.nm, .int .i64 d.s.ty, .int .i64 d.s.cl, .int .i64 d.s.tl, .slice qd d.s.ds.length cd, .slice qg d.s.sg.length cg, .int .i64 d.rk, .int .i64 d.se, .int .i64 d.ve, .int .i64 d.nw] 36 (0, 0))) : (w.cell? ⟨D, 1, none⟩ = some (.string d.s.nm) ∧ w.cell? ⟨D, 2, none⟩ = some (.int .i64 d.s.ty) ∧ w.cell? ⟨D, 4, none⟩ = some (.int .i64 d.s.tl)) ∧ w.cell? ⟨D, 7, none⟩ = some (.int .i64 d.rk) ∧ w.cell? ⟨D, 8, none⟩ = some (.int .i64 d.se) ∧ w.cell? ⟨D, 10, none⟩ = some (.int .i64 d.nw) ∧ (deLoad (.pointer (some ⟨D, 0, none⟩))).run Tryz.prog w = .ok (.agg #[.int .i64 d.kd, .string d.s.nm, .int .i64 d.s.ty, .int .i64 d.s.cl, .int .i64 d.s.tl, .slice qd d.s.ds.length cd, .slice qg d.s.sg.length cg, .int .i64 d.rk, .int .i64 d.se, .int .i64 d.ve, .int .i64 d.nw]) w ∧ (seLoad (.pointer (some ⟨D, 1, none⟩))).run Tryz.prog w = .ok (.agg #[.string d.s.nm, .int .i64 d.s.ty, .int .i64 d.s.cl, .int .i64 d.s.tl, .slice qd d.s.ds.length cd, .slice qg d.s.sg.length cg]) w := by
 refine ⟨⟨?_, ?_, ?_⟩, ?_, ?_, ?_, ?_, ?_⟩
 ·rw [So.cell_blk h]; rfl
 ·rw [So.cell_blk h]; rfl
 ·rw [So.cell_blk h]; rfl
 ·rw [So.cell_blk h]; rfl
 ·rw [So.cell_blk h]; rfl
 ·rw [So.cell_blk h]; rfl
 ·exact load_all (n := 11) w D 0 [.int .i64 d.kd, .string d.s.nm, .int .i64 d.s.ty, .int .i64 d.s.cl, .int .i64 d.s.tl, .slice qd d.s.ds.length cd, .slice qg d.s.sg.length cg, .int .i64 d.rk, .int .i64 d.se, .int .i64 d.ve, .int .i64 d.nw] rfl (by kernel_rfl) (by kernel_rfl) fun j v hv => by rw [So.cell_blk h, Nat.zero_add, List.getElem?_toArray]; exact hv
 ·refine se_load h 1 [.string d.s.nm, .int .i64 d.s.ty, .int .i64 d.s.cl, .int .i64 d.s.tl, .slice qd d.s.ds.length cd, .slice qg d.s.sg.length cg] rfl fun j v hv => ?_
  rw [Nat.add_comm]
  have hj : j < 6 := (List.getElem?_eq_some_iff.1 hv).1
  match j, hv with
  | 0, hv => exact hv
  | 1, hv => exact hv
  | 2, hv => exact hv
  | 3, hv => exact hv
  | 4, hv => exact hv
  | 5, hv => exact hv
  | j + 6, hv => omega
theorem dd_row {w : World} {g j : Nat} {c : Dd} {qd : Option Addr} {cd : Nat} {qg : Option Addr} {cg : Nat} (h : ∀ i, i < 11 → w.cell? ⟨g, j * 11 + i, none⟩ = (ddC c qd cd qg cg)[i]?) : (deLoad (.pointer (some ⟨g, j * 11, none⟩))).run Tryz.prog w = .ok (.agg #[.int .i64 c.kd, .string c.s.nm, .int .i64 c.s.ty, .int .i64 c.s.cl, .int .i64 c.s.tl, .slice qd c.s.ds.length cd, .slice qg c.s.sg.length cg, .int .i64 c.rk, .int .i64 c.se, .int .i64 c.ve, .int .i64 c.nw]) w ∧ (seLoad (.pointer (some ⟨g, j * 11 + 1, none⟩))).run Tryz.prog w = .ok (.agg #[.string c.s.nm, .int .i64 c.s.ty, .int .i64 c.s.cl, .int .i64 c.s.tl, .slice qd c.s.ds.length cd, .slice qg c.s.sg.length cg]) w ∧ w.cell? ⟨g, j * 11 + 7, none⟩ = some (.int .i64 c.rk) ∧ w.cell? ⟨g, j * 11 + 10, none⟩ = some (.int .i64 c.nw) := by
 refine ⟨?_, ?_, h 7 (by omega), h 10 (by omega)⟩
 ·refine load_all (n := 11) w g (j * 11) (ddC c qd cd qg cg) rfl (by kernel_rfl) (by kernel_rfl) fun i v hv => ?_
  rw [h i (List.getElem?_eq_some_iff.1 hv).1]
  exact hv
 ·refine load_all (n := 6) w g (j * 11 + 1) (svC c.s qd cd qg cg) rfl (by kernel_rfl) (by kernel_rfl) fun i v hv => ?_
  have hi : i < 6 := (List.getElem?_eq_some_iff.1 hv).1
  rw [Nat.add_assoc, h (1 + i) (by omega), Nat.add_comm 1 i, ← hv]
  match i, hi with
  | 0, _ => rfl
  | 1, _ => rfl
  | 2, _ => rfl
  | 3, _ => rfl
  | 4, _ => rfl
  | 5, _ => rfl
def InR (jj l2 : Nat) (fv kv : Value) : Prop := (∃ kk : Nat, jj ≤ kk ∧ kk < l2 ∧ fv = .bool false ∧ kv = .int .i64 (kk : Int)) ∨ (∃ z : Int, fv = .bool true ∧ kv = .int .i64 z ∧ -2 ≤ z ∧ z ≤ 1000)
def boolOf : Value → Bool
 | .bool b => b
 | _ => false
section
attribute [local go_sem ↓] app_de loadAt_de loadAt_se
theorem and8K {a b c d e f g h P : Prop} (t : (a ∧ b ∧ c) ∧ d ∧ e ∧ f ∧ g ∧ h) (K : a → b → c → d → e → f → g → h → P) : P := K t.1.1 t.1.2.1 t.1.2.2 t.2.1 t.2.2.1 t.2.2.2.1 t.2.2.2.2.1 t.2.2.2.2.2
theorem and6K {a b c d e f P : Prop} (t : a ∧ b ∧ c ∧ d ∧ e ∧ f) (K : a → b → c → d → e → f → P) : P := K t.1 t.2.1 t.2.2.1 t.2.2.2.1 t.2.2.2.2.1 t.2.2.2.2.2
theorem and3K {a b c d P : Prop} (t : (a ∧ b ∧ c) ∧ d) (K : a → b → c → P) : P := K t.1.1 t.1.2.1 t.1.2.2
set_option maxRecDepth 100000 in
set_option maxHeartbeats 64000000 in
theorem fresh_core (W : World) (kind : Int) (q : Option Addr) (cap N n : Nat) (HE : Hid (∀ (W : World), Calls Tryz.prog 7 #[] W fun e w' => e = .returned (.bool true) ∧ Below W.heap.size W w')) (HPk : Hid (∀ w c, I64 c → Calls Tryz.prog 9 #[.int .i64 c, .int .i64 100] w fun e w' => e = .returned (.int .i64 (pickR c 100)) ∧ w' = w)) (HPl : Hid (∀ w (m : Nat), 1 ≤ m → m ≤ 1000 → ∃ j : Nat, j < m ∧ Calls Tryz.prog 9 #[.int .i64 kind, .int .i64 (m : Int)] w fun e w' => e = .returned (.int .i64 (j : Int)) ∧ w' = w)) (HNw : Hid (∀ w, Calls Tryz.prog 8 #[.int .i64 1000] w fun e w' => ∃ C T, e = .returned (.tuple #[pt C, .int .i64 0]) ∧ RCA w w' C T 1000 0 0 [])) (HD : Hid (∀ i, i < n → ∃ (b off : Nat) (d : Dd) (qd : Option Addr) (cd : Nat) (qg : Option Addr) (cg : Nat), q = some ⟨b, off, none⟩ ∧ Hid (DdI d) ∧ Hid (∀ w, Below N W w → (deLoad (.pointer (some ⟨b, off + i * 11, none⟩))).run Tryz.prog w = .ok (.agg #[.int .i64 d.kd, .string d.s.nm, .int .i64 d.s.ty, .int .i64 d.s.cl, .int .i64 d.s.tl, .slice qd d.s.ds.length cd, .slice qg d.s.sg.length cg, .int .i64 d.rk, .int .i64 d.se, .int .i64 d.ve, .int .i64 d.nw]) w ∧ SvAt w d.s qd cd qg cg))) (hnc : n ≤ cap ∧ cap ≤ 9223372036854775807) (HFP : Hid (∀ w C T k i (d : Dd) v ln, FS W w C T k i d.nw v ln → k ≤ 1000 → SvI d.s → ∀ qd cd qg cg, SvAt w d.s qd cd qg cg → Calls Tryz.prog 11 #[pt C, .agg #[.string d.s.nm, .int .i64 d.s.ty, .int .i64 d.s.cl, .int .i64 d.s.tl, .slice qd d.s.ds.length cd, .slice qg d.s.sg.length cg], .int .i64 d.rk, .int .i64 d.se, .int .i64 d.nw] w fun e w' => FrC w w' ∧ ((e = .returned (.tuple #[.bool false, .int .i64 1]) ∧ FS W w' C T (k + 1) i d.nw v ln) ∨ (e = .returned (.tuple #[.bool true, .int .i64 0]) ∧ FP W w' C T (k + 1) i d v ln) ∨ (e = .returned (.tuple #[.bool false, .int .i64 0]) ∧ (0 < d.s.tl → d.rk ≠ 4) ∧ FP W w' C T (k + 1) i d v ln)))) (HFA : Hid (∀ w C T k i ln v (d : Dd), FP W w C T k i d v ln → i ≤ 500 → ∀ qd cd qg cg, SvAt W d.s qd cd qg cg → ∃ q2 c2 w', (aDe #[v, .slice (some ⟨w.heap.size, 0, none⟩) 1 1]).run Tryz.prog (w.alloc (.cells #[.int .i64 d.kd, .string d.s.nm, .int .i64 d.s.ty, .int .i64 d.s.cl, .int .i64 d.s.tl, .slice qd d.s.ds.length cd, .slice qg d.s.sg.length cg, .int .i64 d.rk, .int .i64 d.se, .int .i64 d.ve, .int .i64 d.nw] 36)) = .ok (.slice q2 (ln + 1) c2) w' ∧ FS W w' C T k (i + 1) d.nw (.slice q2 (ln + 1) c2) (ln + 1) ∧ ln + 1 ≤ c2 ∧ c2 ≤ 9223372036854775807)) (HFG : Hid (∀ w C T k i now ln q0 c0, FS W w C T k i now (.slice q0 ln c0) ln → ∀ j, j < ln → ∃ (g : Nat) (qq : Dd) (qd2 : Option Addr) (cd2 : Nat) (qg2 : Option Addr) (cg2 : Nat), q0 = some ⟨g, 0, none⟩ ∧ SvI qq.s ∧ (∀ i, i < 11 → w.cell? ⟨g, j * 11 + i, none⟩ = (ddC qq qd2 cd2 qg2 cg2)[i]?) ∧
  ∀ u, Below w.heap.size w u → Calls Tryz.prog 13 #[pt C, .string qq.s.nm, .int .i64 qq.s.ty, .int .i64 now] u fun e w' => FrC u w' ∧ ((e = .returned (.tuple #[.agg #[.string ⟨#[]⟩, .int .i64 0, .int .i64 0, .int .i64 0, .slice none 0 0, .slice none 0 0, .int .i64 0, .int .i64 0, .int .i64 0, .int .i64 0], .bool false]) ∧ FS W w' C T k i now (.slice q0 ln c0) ln) ∨ (∃ (x : Ev) (q1 : Option Addr) (c1 : Nat) (q3 : Option Addr) (c3 jj : Nat), e = .returned (.tuple #[.agg #[.string x.s.nm, .int .i64 x.s.ty, .int .i64 x.s.cl, .int .i64 x.s.tl, .slice q1 x.s.ds.length c1, .slice q3 x.s.sg.length c3, .int .i64 x.rk, .int .i64 x.se, .int .i64 x.ve, .int .i64 x.un], .bool true]) ∧ Told w' N x.s q1 c1 q3 c3 ∧ SvI x.s ∧ FT W w' C T k i now (.slice q0 ln c0) ln qq.s x.s x.rk jj)))) (HFT : Hid (∀ w C T k i now ln q0 c0 s x rk jj, FT W w C T k i now (.slice q0 ln c0) ln s x rk jj → ∀ j, j < ln → ∃ (g : Nat) (c : Dd) (qd : Option Addr) (cd : Nat) (qg : Option Addr) (cg : Nat), q0 = some ⟨g, 0, none⟩ ∧ SvI c.s ∧ ((0 ≤ c.nw ∧ c.nw ≤ now) ∧ (0 ≤ c.s.tl ∧ c.s.tl < 2147483648)) ∧ SvAt W c.s qd cd qg cg ∧ (∀ i, i < 11 → w.cell? ⟨g, j * 11 + i, none⟩ = (ddC c qd cd qg cg)[i]?) ∧ (j = jj → (c.s.ty = s.ty ∧ eqF c.s.nm s.nm = true ∧ c.s.tl ≠ 0) ∧ sameS c.s x = true ∧ c.rk = rk ∧ x.tl = min c.s.tl 604800 - (now - c.nw)) ∧ (jj < j → c.s.ty = s.ty → eqF c.s.nm s.nm = true → c.s.tl ≠ 0 → c.rk < rk))) (HVB : Hid (∀ w C T k i now v ln, FS W w C T k i now v ln → Below N W w)) (HSt : Hid (∀ w1 w2 C T, Below N W w1 → RCA w1 w2 C T 1000 0 0 [] → FS W w2 C T 0 0 0 (.slice none 0 0) 0)) (HSm : Hid (∀ w (x z : Sv), SvI x → SvI z → ∀ q1 c1 q2 c2 q3 c3 q4 c4, SvAt w x q1 c1 q2 c2 → SvAt w z q3 c3 q4 c4 → Calls Tryz.prog 22 #[.agg (svC x q1 c1 q2 c2).toArray, .agg (svC z q3 c3 q4 c4).toArray] w fun e w' => e = .returned (.bool (sameS x z)) ∧ Below w.heap.size w w')) (HEq : Hid (∀ w s t, s.size ≤ maxLen → t.size ≤ maxLen → Calls Tryz.prog 21 #[.string s, .string t] w fun e w' => e = .returned (.bool (eqF s t)) ∧ Below w.heap.size w w')) (HWW : Hid (Below N W W ∧ W.heap.size = N)) (HNN : Hid (W.heap.size = N)) :
  Calls Tryz.prog 4 #[.slice q n cap, .int .i64 kind] W fun e w' => e = .returned (.bool true) ∧ Below W.heap.size W w' := by
 go_enter Tryz.func4, Tryz.ntmps4
 go_wp2_with fail
 refine (HE.out _).mono ?_
 rintro e w1 ⟨rfl, hb1⟩
 have HB1 : Hid (Below N W w1) := by rw [Hid, ← HNN.out]; exact hb1
 clear hb1
 go_wp2_with fail
 refine (HNw.out _).mono ?_
 rintro e w3 ⟨C, T, rfl, hr3⟩
 have HS3 := Hid.mk (HSt.out _ _ _ _ HB1.out hr3)
 clear hr3
 go_wp2_with fail
 go_loopw [8, 9, 10] (fun nv sv iv wr => ∃ (i ln : Nat) (now : Int) (q0 : Option Addr) (c0 : Nat) (wq : World), wq = wr ∧ i ≤ n ∧ i ≤ 60 ∧ nv = .int .i64 now ∧ iv = .int .i64 (i : Int) ∧ sv = .slice q0 ln c0 ∧ Hid (FS W wq C T i i now (.slice q0 ln c0) ln ∧ ln ≤ c0 ∧ c0 ≤ 9223372036854775807)) (fun _ _ iv _ => n - (intOf iv).toNat)
 case atStart => exact ⟨0, 0, 0, none, 0, _, rfl, Nat.zero_le _, by omega, rfl, rfl, rfl, HS3.out, Nat.le_refl _, by omega⟩
 case round =>
  obtain ⟨i, ln, now, q0, c0, wq, rfl, hi, hi60, rfl, rfl, rfl, HI⟩ := hrel
  by_cases hlt : i < n
  case neg =>
   have hlz : ¬ (i : Int) < (n : Int) := by omega
   have HBel : Hid (Below N W wq) := HVB.out _ _ _ _ _ _ _ _ HI.out.1
   go_wp2
   go_ret
   exact ⟨rfl, by rw [HNN.out]; exact HBel.out⟩
  have hlz : (i : Int) < (n : Int) := by omega
  by_cases hl60 : i < 60
  case neg =>
   have hlz6 : ¬ (i : Int) < 60 := by omega
   have HBel : Hid (Below N W wq) := HVB.out _ _ _ _ _ _ _ _ HI.out.1
   go_wp2
   go_ret
   exact ⟨rfl, by rw [HNN.out]; exact HBel.out⟩
  have hlz6 : (i : Int) < 60 := by omega
  have hlz0 : (0 : Int) ≤ (i : Int) := by omega
  have wi : IntKind.i64.wrap ((i : Int) + 1) = ((i + 1 : Nat) : Int) := by rw [IntKind.wrap_i64]; omega
  obtain ⟨b, off, d, qd, cd, qg, cg, rfl, hdI, hd⟩ := HD.out i hlt
  have HBq : Hid (Below N W wq) := HVB.out _ _ _ _ _ _ _ _ HI.out.1
  have hld := (hd.out _ HBq.out).1
  have hnb : 0 ≤ now ∧ now ≤ 4294967295 := by obtain ⟨_, _, _, _, _, _, _, _, _, _, h⟩ := HI.out.1; exact h
  obtain ⟨p, hpp⟩ : ∃ p, pickR d.nw 100 = p := ⟨_, rfl⟩
  have hpb : 0 ≤ p ∧ p < 100 := by rw [← hpp]; exact ⟨pickR_ge _ _, pickR_lt _ _ (by omega)⟩
  obtain ⟨NW, hNW⟩ : ∃ z, min 4294967295 (now + p) = z := ⟨_, rfl⟩
  have hNb : now ≤ NW ∧ NW ≤ 4294967295 := by omega
  have hwp : IntKind.i64.wrap (now + p) = now + p := by rw [IntKind.wrap_i64]; omega
  have HPk1 := Hid.mk (HPk.out · d.nw hdI.out.nw)
  rw [hpp] at HPk1
  obtain ⟨dn, hdn⟩ : ∃ dn : Dd, (⟨d.kd, d.s, d.rk, d.se, d.ve, NW⟩ : Dd) = dn := ⟨_, rfl⟩
  have hds : dn.s = d.s := by rw [← hdn]
  have hdw : dn.nw = NW := by rw [← hdn]
  obtain ⟨D, hDz⟩ : ∃ D, wq.heap.size = D := ⟨_, rfl⟩
  obtain ⟨V, hV⟩ : ∃ V, wq.alloc (.cells #[.int .i64 d.kd, .string d.s.nm, .int .i64 d.s.ty, .int .i64 d.s.cl, .int .i64 d.s.tl, .slice qd d.s.ds.length cd, .slice qg d.s.sg.length cg, .int .i64 d.rk, .int .i64 d.se, .int .i64 d.ve, .int .i64 d.nw] 36) = V := ⟨_, rfl⟩
  have bV : Below wq.heap.size wq V := by rw [← hV]; exact (Below.refl _ _).alloc (Nat.le_refl _) _
  have gV : V.heap[D]? = some (.cells #[.int .i64 d.kd, .string d.s.nm, .int .i64 d.s.ty, .int .i64 d.s.cl, .int .i64 d.s.tl, .slice qd d.s.ds.length cd, .slice qg d.s.sg.length cg, .int .i64 d.rk, .int .i64 d.se, .int .i64 d.ve, .int .i64 d.nw] 36 (0, 0)) := by rw [← hV, ← hDz]; exact heap_alloc_new wq _
  obtain ⟨U, hU⟩ : ∃ U, V.setCell ⟨D, 10, none⟩ (.int .i64 NW) = U := ⟨_, rfl⟩
  have bU : Below wq.heap.size wq U := by rw [← hU]; exact bV.setCell (p := ⟨D, 10, none⟩) (Nat.le_of_eq hDz) _
  have gU : U.heap[D]? = some (.cells #[.int .i64 dn.kd, .string dn.s.nm, .int .i64 dn.s.ty, .int .i64 dn.s.cl, .int .i64 dn.s.tl, .slice qd dn.s.ds.length cd, .slice qg dn.s.sg.length cg, .int .i64 dn.rk, .int .i64 dn.se, .int .i64 dn.ve, .int .i64 dn.nw] 36 (0, 0)) := by rw [← hU, ← hdn]; exact set_blk gV 10 _
  have hFU := (HI.out.1.blk bU).later hNb.1 hNb.2
  rw [← hdw] at hFU
  have HBU : Hid (Below N W U) := HVB.out _ _ _ _ _ _ _ _ hFU
  have HatW : Hid (SvAt W dn.s qd cd qg cg) := by rw [Hid, hds]; exact (hd.out W HWW.out.1).2
  have HPt := Hid.mk (HFP.out _ _ _ _ _ dn _ _ hFU (by omega) (by rw [hds]; exact hdI.out.s) qd cd qg cg (by rw [hds]; exact (hd.out _ HBU.out).2))
  have cD : V.cell? ⟨D, 10, none⟩ = some (.int .i64 d.nw) := by rw [So.cell_blk gV]; rfl
  have fD : V.frozen? ⟨D, 10, none⟩ = false := free_at gV 10
  have HgU := Hid.mk gU
  have HV := Hid.mk hV
  have HU := Hid.mk hU
  have HIc := Hid.mk HI.out.2
  rw [hdw] at HPt
  have Hdw := Hid.mk hdw
  clear hV bV gV hU bU gU hFU hpp hpb hdn hds hdw hnb
  go_upto_region 11 with fail
  (try rw [hDz])
  rw [HV.out]
  clear hDz hld
  go_wp2_with fail
  refine (HPk1.out _).mono ?_
  rintro e w4 ⟨rfl, hw4⟩
  have Hw4 := Hid.mk hw4
  clear hw4
  have cD4 : w4.cell? ⟨D, 10, none⟩ = some (.int .i64 d.nw) := by rw [Hw4.out]; exact cD
  have fD4 : w4.frozen? ⟨D, 10, none⟩ = false := by rw [Hw4.out]; exact fD
  clear cD fD
  go_upto_region 13 with fail
  rw [Hw4.out, HU.out]
  clear cD4 fD4 hNW hwp
  refine and8K (dd_eleven HgU.out) (fun x1 x2 x4 x7 x8 x10 xd xs => ?_)
  rw [Hdw.out] at x10
  go_wp2_with fail
  refine HPt.out.mono ?_
  rintro e w5 ⟨hf5, hc5⟩
  clear x1 x2 x4 x7 x8 x10 xd xs
  have g5 : w5.heap[D]? = some (.cells #[.int .i64 dn.kd, .string dn.s.nm, .int .i64 dn.s.ty, .int .i64 dn.s.cl, .int .i64 dn.s.tl, .slice qd dn.s.ds.length cd, .slice qg dn.s.sg.length cg, .int .i64 dn.rk, .int .i64 dn.se, .int .i64 dn.ve, .int .i64 dn.nw] 36 (0, 0)) := hf5.same D _ _ _ HgU.out (by decide) (by decide) (by decide)
  refine and8K (dd_eleven g5) (fun x1 x2 x4 x7 x8 x10 xd xs => ?_)
  have hD5 : D < w5.heap.size := blk_lt g5
  clear g5 hf5
  obtain ⟨r5, z5, rfl, hz5, hq5⟩ : ∃ (r : Bool) (z : Int), e = .returned (.tuple #[.bool r, .int .i64 z]) ∧ ((z = 1 ∧ FS W w5 C T (i + 1) i NW (.slice q0 ln c0) ln) ∨ (z = 0 ∧ FP W w5 C T (i + 1) i dn (.slice q0 ln c0) ln)) ∧ ((z = 1 ∧ r = false) ∨ (z = 0 ∧ r = true) ∨ (z = 0 ∧ r = false ∧ (0 < dn.s.tl → dn.rk ≠ 4))) := by
   rcases hc5 with ⟨rfl, hs5⟩ | ⟨rfl, hs5⟩ | ⟨rfl, hrk, hs5⟩
   ·exact ⟨_, _, rfl, .inl ⟨rfl, hs5⟩, .inl ⟨rfl, rfl⟩⟩
   ·exact ⟨_, _, rfl, .inr ⟨rfl, hs5⟩, .inr (.inl ⟨rfl, rfl⟩)⟩
   ·exact ⟨_, _, rfl, .inr ⟨rfl, hs5⟩, .inr (.inr ⟨rfl, rfl, hrk⟩)⟩
  have HZ5 := Hid.mk hz5
  have HQ5 := Hid.mk hq5
  clear hc5 hz5 hq5
  go_upto_region 14 with fail
  go_cut [77] from 61 to 76 (fun bv wx => bv = .bool false ∧ wx = w5)
  case first =>
   rcases HQ5.out with ⟨rfl, rfl⟩ | ⟨rfl, rfl⟩ | ⟨rfl, rfl, hrk⟩
   ·go_wp2
    go_meet
    exact ⟨rfl, rfl⟩
   ·go_wp2
    go_meet
    exact ⟨rfl, rfl⟩
   ·by_cases htp : 0 < dn.s.tl
    ·have hr4 : (dn.rk == 4) = false := by simpa using hrk htp
     have htp2 : dn.s.tl > 0 := htp
     clear hrk htp
     go_wp2
     go_meet
     exact ⟨rfl, rfl⟩
    ·have htp2 : ¬ dn.s.tl > 0 := by omega
     clear hrk htp
     go_wp2
     go_meet
     exact ⟨rfl, rfl⟩
  case rest =>
  obtain ⟨rfl, hwc⟩ := hcut
  subst wc
  go_upto_if 79 with fail
  go_cut [9] from 80 to 83 (fun sv wx => ∃ (l2 : Nat) (q2 : Option Addr) (c2 : Nat) (wS : World), wS = wx ∧ sv = .slice q2 l2 c2 ∧ Hid (FS W wS C T (i + 1) (i + 1) NW (.slice q2 l2 c2) l2 ∧ l2 ≤ c2 ∧ c2 ≤ 9223372036854775807))
  case first =>
   rcases HZ5.out with ⟨rfl, hs5⟩ | ⟨rfl, hs5⟩
   ·have HS5 := Hid.mk hs5.more
    clear hs5
    go_wp2
    go_meet
    exact ⟨_, _, _, _, rfl, rfl, HS5.out, HIc.out⟩
   ·obtain ⟨q2, c2, wS, hrun, hv9⟩ := HFA.out _ _ _ _ _ _ _ _ hs5 (by omega) _ _ _ _ HatW.out
    rw [Hdw.out] at hrun hv9 xd
    have HS5 := Hid.mk hv9
    clear hs5 hv9
    go_wp2
    go_meet
    exact ⟨_, _, _, _, rfl, rfl, HS5.out⟩
  case rest =>
  obtain ⟨l2, q2, c2, wS, rfl, rfl, HS⟩ := hcut
  clear x1 x2 x4 x7 x8 x10 xd xs hD5
  have hl60b : l2 ≤ 60 := by obtain ⟨_, _, _, _, _, _, _, _, _, h, _⟩ := HS.out.1; omega
  have hl2c : l2 ≤ c2 ∧ c2 ≤ 9223372036854775807 := HS.out.2
  by_cases hl0 : l2 = 0
  ·have hz0 : ((l2 : Int) == 0) = true := by rw [hl0]; rfl
   clear hl0
   go_wp2
   go_roundw
   case rel => exact ⟨i + 1, l2, NW, q2, c2, _, rfl, by omega, by omega, rfl, by first | rfl | go_num, rfl, HS.out⟩
   case measure => simp [intOf]; omega
  have hz0 : ((l2 : Int) == 0) = false := by simpa using hl0
  obtain ⟨j, hj, hpk⟩ := HPl.out wS l2 (by omega) (by omega)
  obtain ⟨g, qq, qd2, cd2, qg2, cg2, rfl, hqI, hqc, hget⟩ := HFG.out _ _ _ _ _ _ _ _ _ HS.out.1 j hj
  have hjz : (j : Int) < (l2 : Int) := by omega
  have hjz0 : (0 : Int) ≤ (j : Int) := by omega
  have hlq := (dd_row hqc).1
  obtain ⟨Q, hQ⟩ : ∃ Q, wS.heap.size = Q := ⟨_, rfl⟩
  obtain ⟨V2, hV2⟩ : ∃ V, wS.alloc (.cells #[.int .i64 qq.kd, .string qq.s.nm, .int .i64 qq.s.ty, .int .i64 qq.s.cl, .int .i64 qq.s.tl, .slice qd2 qq.s.ds.length cd2, .slice qg2 qq.s.sg.length cg2, .int .i64 qq.rk, .int .i64 qq.se, .int .i64 qq.ve, .int .i64 qq.nw] 36) = V := ⟨_, rfl⟩
  have b2 : Below wS.heap.size wS V2 := by rw [← hV2]; exact (Below.refl _ _).alloc (Nat.le_refl _) _
  have g2 : V2.heap[Q]? = some (.cells #[.int .i64 qq.kd, .string qq.s.nm, .int .i64 qq.s.ty, .int .i64 qq.s.cl, .int .i64 qq.s.tl, .slice qd2 qq.s.ds.length cd2, .slice qg2 qq.s.sg.length cg2, .int .i64 qq.rk, .int .i64 qq.se, .int .i64 qq.ve, .int .i64 qq.nw] 36 (0, 0)) := by rw [← hV2, ← hQ]; exact heap_alloc_new wS _
  have HGt := Hid.mk (hget V2 b2)
  have HpK := Hid.mk hpk
  have HgQ := Hid.mk g2
  have HqI := Hid.mk hqI
  have HV2 := Hid.mk hV2
  clear hV2 b2 g2 hget hqc hqI hpk hl0
  go_wp2_with fail
  refine HpK.out.mono ?_
  rintro e w6 ⟨rfl, hw6⟩
  have Hw6 := Hid.mk hw6
  clear hw6
  have hlq6 : (deLoad (.pointer (some ⟨g, j * 11, none⟩))).run Tryz.prog w6 = .ok (.agg #[.int .i64 qq.kd, .string qq.s.nm, .int .i64 qq.s.ty, .int .i64 qq.s.cl, .int .i64 qq.s.tl, .slice qd2 qq.s.ds.length cd2, .slice qg2 qq.s.sg.length cg2, .int .i64 qq.rk, .int .i64 qq.se, .int .i64 qq.ve, .int .i64 qq.nw]) w6 := by rw [Hw6.out]; exact hlq
  clear hlq
  go_upto_region 20 with fail
  (try rw [Hw6.out])
  (try rw [hQ])
  rw [HV2.out]
  clear hQ hlq6
  refine and3K (dd_eleven HgQ.out) (fun y1 y2 y4 => ?_)
  go_wp2_with fail
  refine HGt.out.mono ?_
  rintro e w7 ⟨hf7, hc7⟩
  have HgQ7 : Hid (w7.heap[Q]? = some (.cells #[.int .i64 qq.kd, .string qq.s.nm, .int .i64 qq.s.ty, .int .i64 qq.s.cl, .int .i64 qq.s.tl, .slice qd2 qq.s.ds.length cd2, .slice qg2 qq.s.sg.length cg2, .int .i64 qq.rk, .int .i64 qq.se, .int .i64 qq.ve, .int .i64 qq.nw] 36 (0, 0))) := hf7.same Q _ _ _ HgQ.out (by decide) (by decide) (by decide)
  clear y1 y2 y4 hf7 hz0 hjz hjz0
  obtain ⟨P, hP⟩ : ∃ P, w7.heap.size = P := ⟨_, rfl⟩
  rcases hc7 with ⟨rfl, hs7⟩ | ⟨x, q1, c1, q3, c3, jj, rfl, ht7, hxI, hs7⟩
  ·have HS7 : Hid (∀ o, FS W (w7.alloc o) C T (i + 1) (i + 1) NW (.slice (some ⟨g, 0, none⟩) l2 c2) l2) := fun o => hs7.blk ((Below.refl _ _).alloc (Nat.le_refl _) _)
   have HSc := Hid.mk HS.out.2
   clear hs7
   go_wp2
   go_roundw
   case rel => exact ⟨i + 1, l2, NW, _, c2, _, rfl, by omega, by omega, rfl, by first | rfl | go_num, rfl, HS7.out _, HSc.out⟩
   case measure => simp [intOf]; omega
  obtain ⟨V3, hV3⟩ : ∃ V, w7.alloc (.cells #[.string x.s.nm, .int .i64 x.s.ty, .int .i64 x.s.cl, .int .i64 x.s.tl, .slice q1 x.s.ds.length c1, .slice q3 x.s.sg.length c3, .int .i64 x.rk, .int .i64 x.se, .int .i64 x.ve, .int .i64 x.un] 44) = V := ⟨_, rfl⟩
  have b3 : Below w7.heap.size w7 V3 := by rw [← hV3]; exact (Below.refl _ _).alloc (Nat.le_refl _) _
  have g3 : V3.heap[P]? = some (.cells #[.string x.s.nm, .int .i64 x.s.ty, .int .i64 x.s.cl, .int .i64 x.s.tl, .slice q1 x.s.ds.length c1, .slice q3 x.s.sg.length c3, .int .i64 x.rk, .int .i64 x.se, .int .i64 x.ve, .int .i64 x.un] 44 (0, 0)) := by rw [← hV3, ← hP]; exact heap_alloc_new w7 _
  have HT3 := Hid.mk (hs7.blk b3)
  have HX3 : Hid (Told V3 N x.s q1 c1 q3 c3) := ht7.frc (FrC.below b3)
  have HgP := Hid.mk g3
  have HgQ3 : Hid (V3.heap[Q]? = some (.cells #[.int .i64 qq.kd, .string qq.s.nm, .int .i64 qq.s.ty, .int .i64 qq.s.cl, .int .i64 qq.s.tl, .slice qd2 qq.s.ds.length cd2, .slice qg2 qq.s.sg.length cg2, .int .i64 qq.rk, .int .i64 qq.se, .int .i64 qq.ve, .int .i64 qq.nw] 36 (0, 0))) := (b3.block Q (blk_lt HgQ7.out)).trans HgQ7.out
  have HxI := Hid.mk hxI
  have HSc := Hid.mk HS.out.2
  have hjl : jj < l2 := hs7.jlt
  have HV3 := Hid.mk hV3
  clear hV3 b3 g3 hs7 ht7 hxI
  go_upto_region 21 with fail
  (try rw [hP])
  rw [HV3.out]
  clear hP
  have wl : IntKind.i64.wrap ((l2 : Int) - 1) = ((l2 - 1 : Nat) : Int) := by rw [IntKind.wrap_i64]; omega
  have H30 : Hid (Below V3.heap.size V3 V3) := Below.refl _ _
  -- what is so of each one while the search goes on
  have HAll : Hid (∀ w, Below V3.heap.size V3 w → FS W w C T (i + 1) (i + 1) NW (.slice (some ⟨g, 0, none⟩) l2 c2) l2) := fun w hw => (HT3.out.blk hw).fs
  have HIn : Hid (∀ kk, kk < l2 → ∃ (c : Dd) (qd3 : Option Addr) (cd3 : Nat) (qg3 : Option Addr) (cg3 : Nat), Hid (SvI c.s ∧ ((0 ≤ c.nw ∧ c.nw ≤ NW) ∧ (0 ≤ c.s.tl ∧ c.s.tl < 2147483648)) ∧ (kk = jj → (c.s.ty = qq.s.ty ∧ eqF c.s.nm qq.s.nm = true ∧ c.s.tl ≠ 0) ∧ sameS c.s x.s = true ∧ c.rk = x.rk ∧ x.s.tl = min c.s.tl 604800 - (NW - c.nw)) ∧ (jj < kk → c.s.ty = qq.s.ty → eqF c.s.nm qq.s.nm = true → c.s.tl ≠ 0 → c.rk < x.rk)) ∧ Hid (∀ w, Below V3.heap.size V3 w → (∀ i, i < 11 → w.cell? ⟨g, kk * 11 + i, none⟩ = (ddC c qd3 cd3 qg3 cg3)[i]?) ∧ SvAt w c.s qd3 cd3 qg3 cg3)) := fun kk hk => by
   obtain ⟨g', c, qd3, cd3, qg3, cg3, e, h1, h2, h3, h4, h5, h6⟩ := HFT.out _ _ _ _ _ _ _ _ _ _ _ _ _ HT3.out kk hk
   cases e
   refine ⟨c, qd3, cd3, qg3, cg3, ⟨h1, h2, h5, h6⟩, fun w hw => ⟨fun i hi => ?_, h3.blk ?_⟩⟩
   ·have e := h4 i hi
    have hl : i < (ddC c qd3 cd3 qg3 cg3).length := hi
    exact (hw.cell (p := ⟨g, kk * 11 + i, none⟩) (cell_block (e.trans (List.getElem?_eq_getElem hl)))).trans e
   ·have := HVB.out _ _ _ _ _ _ _ _ (HAll.out w hw)
    rw [HNN.out]
    exact this
  have HXw : Hid (∀ w, Below V3.heap.size V3 w → w.heap[P]? = some (.cells #[.string x.s.nm, .int .i64 x.s.ty, .int .i64 x.s.cl, .int .i64 x.s.tl, .slice q1 x.s.ds.length c1, .slice q3 x.s.sg.length c3, .int .i64 x.rk, .int .i64 x.se, .int .i64 x.ve, .int .i64 x.un] 44 (0, 0)) ∧ w.heap[Q]? = some (.cells #[.int .i64 qq.kd, .string qq.s.nm, .int .i64 qq.s.ty, .int .i64 qq.s.cl, .int .i64 qq.s.tl, .slice qd2 qq.s.ds.length cd2, .slice qg2 qq.s.sg.length cg2, .int .i64 qq.rk, .int .i64 qq.se, .int .i64 qq.ve, .int .i64 qq.nw] 36 (0, 0)) ∧ SvAt w x.s q1 c1 q3 c3) := fun w hw => ⟨(hw.block P (blk_lt HgP.out)).trans HgP.out, (hw.block Q (blk_lt HgQ3.out)).trans HgQ3.out, (HX3.out.frc (FrC.below hw)).sv⟩
  go_wp2_with fail
  go_loopw [17, 18] (fun fv kv wr => ∃ wz : World, wz = wr ∧ Hid (Below V3.heap.size V3 wz) ∧ InR jj l2 fv kv) (fun fv kv _ => if boolOf fv = true then 0 else (intOf kv).toNat + 1)
  case atStart => exact ⟨_, rfl, H30.out, .inl ⟨l2 - 1, by omega, by omega, rfl, by first | rfl | go_num⟩⟩
  case round =>
   obtain ⟨wz, rfl, HJ, hin⟩ := hrel
   rcases hin with ⟨kk, hk1, hk2, rfl, rfl⟩ | ⟨z, rfl, rfl, hz1, hz2⟩
   case inr =>
    have HSz := Hid.mk (HAll.out _ HJ.out)
    by_cases hz3 : z ≥ 0
    ·go_wp2
     go_roundw
     case rel => exact ⟨i + 1, l2, NW, _, c2, _, rfl, by omega, by omega, rfl, by first | rfl | go_num, rfl, HSz.out, HSc.out⟩
     case measure => simp [intOf]; omega
    ·go_wp2
     go_roundw
     case rel => exact ⟨i + 1, l2, NW, _, c2, _, rfl, by omega, by omega, rfl, by first | rfl | go_num, rfl, HSz.out, HSc.out⟩
     case measure => simp [intOf]; omega
   case inl =>
    have hkz : (kk : Int) ≥ 0 := by omega
    have hkl : (kk : Int) < (l2 : Int) := by omega
    obtain ⟨c, qd3, cd3, qg3, cg3, hcF, hcW⟩ := HIn.out kk hk2
    obtain ⟨hr1, hr2, hr3, hr4⟩ := dd_row (hcW.out _ HJ.out).1
    obtain ⟨R, hR⟩ : ∃ R, wz.heap.size = R := ⟨_, rfl⟩
    obtain ⟨V4, hV4⟩ : ∃ V, wz.alloc (.cells #[.string c.s.nm, .int .i64 c.s.ty, .int .i64 c.s.cl, .int .i64 c.s.tl, .slice qd3 c.s.ds.length cd3, .slice qg3 c.s.sg.length cg3] 34) = V := ⟨_, rfl⟩
    have b4 : Below wz.heap.size wz V4 := by rw [← hV4]; exact (Below.refl _ _).alloc (Nat.le_refl _) _
    have g4 : V4.heap[R]? = some (.cells #[.string c.s.nm, .int .i64 c.s.ty, .int .i64 c.s.cl, .int .i64 c.s.tl, .slice qd3 c.s.ds.length cd3, .slice qg3 c.s.sg.length cg3] 34 (0, 0)) := by rw [← hV4, ← hR]; exact heap_alloc_new wz _
    have HJ4 : Hid (Below V3.heap.size V3 V4) := HJ.out.trans (b4.mono HJ.out.size)
    have HgR := Hid.mk g4
    have HV4 := Hid.mk hV4
    clear hV4 b4 g4 hr1 hr3 hr4
    go_upto_region 27 with fail
    (try rw [hR])
    rw [HV4.out]
    clear hR hr2
    have wk : kk ≠ jj → IntKind.i64.wrap ((kk : Int) - 1) = ((kk - 1 : Nat) : Int) := fun h => by rw [IntKind.wrap_i64]; omega
    refine and6K (six_cells HgR.out) (fun z0 z1 z2 z3 z4 z5 => ?_)
    refine and3K (dd_eleven (HXw.out _ HJ4.out).2.1) (fun y1 y2 y4 => ?_)
    by_cases hty : c.s.ty = qq.s.ty
    case neg =>
     have e1 : (c.s.ty != qq.s.ty) = true := by simpa using hty
     have hne : kk ≠ jj := fun e => hty (hcF.out.2.2.1 e).1.1
     have wk2 := wk hne
     clear wk
     go_wp2
     go_roundw
     case rel => exact ⟨_, rfl, HJ4.out, .inl ⟨kk - 1, by omega, by omega, rfl, by first | rfl | go_num⟩⟩
     case measure => simp [intOf, boolOf]; omega
    have e1 : (c.s.ty != qq.s.ty) = false := by simpa using hty
    have HE4 := Hid.mk (HEq.out V4 c.s.nm qq.s.nm hcF.out.1.sv.nm HqI.out.sv.nm)
    go_wp2_with fail
    refine HE4.out.mono ?_
    rintro e w8 ⟨rfl, hb8⟩
    have HJ8 : Hid (Below V3.heap.size V3 w8) := HJ4.out.trans (hb8.mono HJ4.out.size)
    have HgR8 : Hid (w8.heap[R]? = some (.cells #[.string c.s.nm, .int .i64 c.s.ty, .int .i64 c.s.cl, .int .i64 c.s.tl, .slice qd3 c.s.ds.length cd3, .slice qg3 c.s.sg.length cg3] 34 (0, 0))) := (hb8.block R (blk_lt HgR.out)).trans HgR.out
    clear hb8 z0 z1 z2 z3 z4 z5 y1 y2 y4
    refine and6K (six_cells HgR8.out) (fun z0 z1 z2 z3 z4 z5 => ?_)
    cases he : eqF c.s.nm qq.s.nm with
    | false =>
     have hne : kk ≠ jj := fun e => by have := (hcF.out.2.2.1 e).1.2.1; rw [he] at this; cases this
     have wk2 := wk hne
     clear wk he
     go_wp2
     go_roundw
     case rel => exact ⟨_, rfl, HJ8.out, .inl ⟨kk - 1, by omega, by omega, rfl, by first | rfl | go_num⟩⟩
     case measure => simp [intOf, boolOf]; omega
    | true =>
     by_cases ht0 : c.s.tl = 0
     case pos =>
      have e2 : (c.s.tl == 0) = true := by simpa using ht0
      have hne : kk ≠ jj := fun e => (hcF.out.2.2.1 e).1.2.2 ht0
      have wk2 := wk hne
      clear wk he ht0
      go_wp2
      go_roundw
      case rel => exact ⟨_, rfl, HJ8.out, .inl ⟨kk - 1, by omega, by omega, rfl, by first | rfl | go_num⟩⟩
      case measure => simp [intOf, boolOf]; omega
     have e2 : (c.s.tl == 0) = false := by simpa using ht0
     have HLt : Hid (kk ≠ jj → c.rk < x.rk) := fun hne => hcF.out.2.2.2 (by omega) hty he ht0
     clear ht0 he hty
     go_upto_region 28 with fail
     clear z0 z1 z2 z3 z4 z5
     have HJ9 : Hid (Below V3.heap.size V3 w8.drew) := HJ8.out.drew
     have HSx : Hid (∀ w, Below V3.heap.size V3 w → w.heap[R]? = some (.cells #[.string c.s.nm, .int .i64 c.s.ty, .int .i64 c.s.cl, .int .i64 c.s.tl, .slice qd3 c.s.ds.length cd3, .slice qg3 c.s.sg.length cg3] 34 (0, 0)) → (fun w : World => (seLoad (.pointer (some ⟨R, 0, none⟩))).run Tryz.prog w = .ok (.agg #[.string c.s.nm, .int .i64 c.s.ty, .int .i64 c.s.cl, .int .i64 c.s.tl, .slice qd3 c.s.ds.length cd3, .slice qg3 c.s.sg.length cg3]) w ∧ (seLoad (.pointer (some ⟨P, 0, none⟩))).run Tryz.prog w = .ok (.agg #[.string x.s.nm, .int .i64 x.s.ty, .int .i64 x.s.cl, .int .i64 x.s.tl, .slice q1 x.s.ds.length c1, .slice q3 x.s.sg.length c3]) w ∧ w.cell? ⟨P, 3, none⟩ = some (.int .i64 x.s.tl) ∧ w.cell? ⟨P, 6, none⟩ = some (.int .i64 x.rk) ∧ w.cell? ⟨R, 3, none⟩ = some (.int .i64 c.s.tl) ∧ w.cell? ⟨g, kk * 11 + 7, none⟩ = some (.int .i64 c.rk) ∧ w.cell? ⟨g, kk * 11 + 10, none⟩ = some (.int .i64 c.nw)) w) := fun w hw hgR => by
      obtain ⟨a1, a2, a3, a4⟩ := dd_row (hcW.out _ hw).1
      have gP := (HXw.out _ hw).1
      refine ⟨?_, ?_, ?_, ?_, ?_, a3, a4⟩
      ·exact se_load hgR 0 [.string c.s.nm, .int .i64 c.s.ty, .int .i64 c.s.cl, .int .i64 c.s.tl, .slice qd3 c.s.ds.length cd3, .slice qg3 c.s.sg.length cg3] rfl (fun j v hv => by rw [Nat.zero_add]; exact hv)
      ·refine se_load gP 0 [.string x.s.nm, .int .i64 x.s.ty, .int .i64 x.s.cl, .int .i64 x.s.tl, .slice q1 x.s.ds.length c1, .slice q3 x.s.sg.length c3] rfl (fun j v hv => ?_)
       have hj : j < 6 := (List.getElem?_eq_some_iff.1 hv).1
       rw [Nat.zero_add]
       match j, hv with
       | 0, hv => exact hv
       | 1, hv => exact hv
       | 2, hv => exact hv
       | 3, hv => exact hv
       | 4, hv => exact hv
       | 5, hv => exact hv
       | j + 6, hv => omega
      ·rw [So.cell_blk gP]; rfl
      ·rw [So.cell_blk gP]; rfl
      ·rw [So.cell_blk hgR]; rfl
     have HgR9 : Hid ((World.drew w8).heap[R]? = some (.cells #[.string c.s.nm, .int .i64 c.s.ty, .int .i64 c.s.cl, .int .i64 c.s.tl, .slice qd3 c.s.ds.length cd3, .slice qg3 c.s.sg.length cg3] 34 (0, 0))) := HgR8.out
     have hjk : kk < l2 := hk2
     go_cut [17] from 144 to 174 (fun v wx => ∃ bb : Bool, v = .bool bb ∧ (bb = true ↔ kk = jj) ∧ Hid (Below V3.heap.size V3 wx) ∧ Hid (wx.heap[R]? = some (.cells #[.string c.s.nm, .int .i64 c.s.ty, .int .i64 c.s.cl, .int .i64 c.s.tl, .slice qd3 c.s.ds.length cd3, .slice qg3 c.s.sg.length cg3] 34 (0, 0))))
     case first =>
      have HQ := Hid.mk (HSm.out w8.drew c.s x.s hcF.out.1 HxI.out qd3 cd3 qg3 cg3 q1 c1 q3 c3 (hcW.out _ HJ9.out).2 (HXw.out _ HJ9.out).2.2)
      simp only [svC] at HQ
      obtain ⟨r, hr⟩ : ∃ r, sameS c.s x.s = r := ⟨_, rfl⟩
      rw [hr] at HQ
      have HRr : Hid (kk = jj → r = true) := fun e => by rw [← hr]; exact (hcF.out.2.2.1 e).2.1
      clear hr
      refine wp_region_held_drew (S := (fun w : World => (seLoad (.pointer (some ⟨R, 0, none⟩))).run Tryz.prog w = .ok (.agg #[.string c.s.nm, .int .i64 c.s.ty, .int .i64 c.s.cl, .int .i64 c.s.tl, .slice qd3 c.s.ds.length cd3, .slice qg3 c.s.sg.length cg3]) w ∧ (seLoad (.pointer (some ⟨P, 0, none⟩))).run Tryz.prog w = .ok (.agg #[.string x.s.nm, .int .i64 x.s.ty, .int .i64 x.s.cl, .int .i64 x.s.tl, .slice q1 x.s.ds.length c1, .slice q3 x.s.sg.length c3]) w ∧ w.cell? ⟨P, 3, none⟩ = some (.int .i64 x.s.tl) ∧ w.cell? ⟨P, 6, none⟩ = some (.int .i64 x.rk) ∧ w.cell? ⟨R, 3, none⟩ = some (.int .i64 c.s.tl) ∧ w.cell? ⟨g, kk * 11 + 7, none⟩ = some (.int .i64 c.rk) ∧ w.cell? ⟨g, kk * 11 + 10, none⟩ = some (.int .i64 c.nw))) (by as_aux_lemma => kernel_rfl) (HSx.out _ HJ9.out HgR9.out) (fun hHeld => ?_)
      refine wpAnyH_take (i := 0) (v := ?va1_0) rfl (by as_aux_lemma => kernel_rfl) (by as_aux_lemma => kernel_rfl) (by as_aux_lemma => kernel_rfl) (fun _ _ _ h => h) (Or.inl ⟨by as_aux_lemma => kernel_rfl, ?ya1_0⟩) (by assumption) ?_
      case ya1_0 => (intro w hSw; (try dsimp only at hSw); go_simp; try with_reducible rfl)
      refine wpAnyH_take (i := 1) (v := ?va1_1) rfl (by as_aux_lemma => kernel_rfl) (by as_aux_lemma => kernel_rfl) (by as_aux_lemma => kernel_rfl) (fun _ _ _ h => h) (Or.inl ⟨by as_aux_lemma => kernel_rfl, ?ya1_1⟩) (by assumption) ?_
      case ya1_1 => (intro w hSw; (try dsimp only at hSw); go_simp; try with_reducible rfl)
      refine wpAnyH_take (i := 2) (v := ?va1_2) rfl (by as_aux_lemma => kernel_rfl) (by as_aux_lemma => kernel_rfl) (by as_aux_lemma => kernel_rfl) (fun _ _ _ h => h) (Or.inl ⟨by as_aux_lemma => kernel_rfl, ?ya1_2⟩) (by assumption) ?_
      case ya1_2 => (intro w hSw; (try dsimp only at hSw); go_simp; try with_reducible rfl)
      try simp only [Act.put, List.getElem_toArray, List.getElem_cons_succ, List.getElem_cons_zero, List.setIfInBounds_toArray, List.set_cons_zero, List.set_cons_succ]
      refine wpAnyH_ready (rs := [3]) (by as_aux_lemma => kernel_rfl) (by simp) ?_
      refine AllReadyH.cons rfl (fun K hK => ?_) AllReadyH.nil
      go_simp
      go_at_call 22
      refine HQ.out.mono ?_
      rintro e w9 ⟨rfl, hb9⟩
      have HJ10 : Hid (Below V3.heap.size V3 w9) := HJ9.out.trans (hb9.mono HJ9.out.size)
      have HgR10 : Hid (w9.heap[R]? = some (.cells #[.string c.s.nm, .int .i64 c.s.ty, .int .i64 c.s.cl, .int .i64 c.s.tl, .slice qd3 c.s.ds.length cd3, .slice qg3 c.s.sg.length cg3] 34 (0, 0))) := (hb9.block R (blk_lt HgR9.out)).trans HgR9.out
      clear hb9
      refine hK.out _ _ (HSx.out _ HJ10.out HgR10.out) (fun hHeld => ?_)
      clear hK K
      try simp only [Act.put, List.getElem_toArray, List.getElem_cons_succ, List.getElem_cons_zero, List.setIfInBounds_toArray, List.set_cons_zero, List.set_cons_succ]
      by_cases hkj : kk = jj
      ·have hrt := HRr.out hkj
       subst hrt
       have hrk2 : (c.rk == x.rk) = true := by simpa using (hcF.out.2.2.1 hkj).2.2.1
       have hmx : min c.s.tl 604800 - (NW - c.nw) = x.s.tl := (hcF.out.2.2.1 hkj).2.2.2.symm
       have hw1 : IntKind.i64.wrap (NW - c.nw) = NW - c.nw := by have := hcF.out.2.1; rw [IntKind.wrap_i64]; omega
       have hw2 : IntKind.i64.wrap (min c.s.tl 604800 - (NW - c.nw)) = x.s.tl := by have := hcF.out.2.1; rw [IntKind.wrap_i64]; omega
       have hw3 : IntKind.i64.wrap x.s.tl = x.s.tl := by rw [← hmx]; exact hw2.trans hmx.symm
       have e9 : (x.s.tl == x.s.tl) = true := by simp
       have HKJ := Hid.mk hkj
       clear hkj
       refine wpAnyH_take (i := 4) (v := .bool true) rfl (by as_aux_lemma => kernel_rfl) (by as_aux_lemma => kernel_rfl) (by as_aux_lemma => kernel_rfl) (fun _ _ _ h => h) (Or.inl ⟨by as_aux_lemma => kernel_rfl, ?yb1_4⟩) (by assumption) ?_
       case yb1_4 => (intro w hSw; (try dsimp only at hSw); go_simp; try with_reducible rfl)
       try simp only [Act.put, List.getElem_toArray, List.getElem_cons_succ, List.getElem_cons_zero, List.setIfInBounds_toArray, List.set_cons_zero, List.set_cons_succ]
       refine wpAnyH_take (i := 5) (v := ?vc1_5) rfl (by as_aux_lemma => kernel_rfl) (by as_aux_lemma => kernel_rfl) (by as_aux_lemma => kernel_rfl) (fun _ _ _ h => h) (Or.inl ⟨by as_aux_lemma => kernel_rfl, ?yc1_5⟩) (by assumption) ?_
       case yc1_5 => (intro w hSw; (try dsimp only at hSw); go_simp; try with_reducible rfl)
       refine wpAnyH_take (i := 6) (v := ?vc1_6) rfl (by as_aux_lemma => kernel_rfl) (by as_aux_lemma => kernel_rfl) (by as_aux_lemma => kernel_rfl) (fun _ _ _ h => h) (Or.inl ⟨by as_aux_lemma => kernel_rfl, ?yc1_6⟩) (by assumption) ?_
       case yc1_6 => (intro w hSw; (try dsimp only at hSw); go_simp; try with_reducible rfl)
       refine wpAnyH_take (i := 7) (v := ?vc1_7) rfl (by as_aux_lemma => kernel_rfl) (by as_aux_lemma => kernel_rfl) (by as_aux_lemma => kernel_rfl) (fun _ _ _ h => h) (Or.inl ⟨by as_aux_lemma => kernel_rfl, ?yc1_7⟩) (by assumption) ?_
       case yc1_7 => (intro w hSw; (try dsimp only at hSw); go_simp; try with_reducible rfl)
       refine wpAnyH_take (i := 8) (v := ?vc1_8) rfl (by as_aux_lemma => kernel_rfl) (by as_aux_lemma => kernel_rfl) (by as_aux_lemma => kernel_rfl) (fun _ _ _ h => h) (Or.inl ⟨by as_aux_lemma => kernel_rfl, ?yc1_8⟩) (by assumption) ?_
       case yc1_8 => (intro w hSw; (try dsimp only at hSw); go_simp; try with_reducible rfl)
       refine wpAnyH_take (i := 9) (v := ?vc1_9) rfl (by as_aux_lemma => kernel_rfl) (by as_aux_lemma => kernel_rfl) (by as_aux_lemma => kernel_rfl) (fun _ _ _ h => h) (Or.inl ⟨by as_aux_lemma => kernel_rfl, ?yc1_9⟩) (by assumption) ?_
       case yc1_9 => (intro w hSw; (try dsimp only at hSw); go_simp; try with_reducible rfl)
       refine wpAnyH_take (i := 10) (v := ?vc1_10) rfl (by as_aux_lemma => kernel_rfl) (by as_aux_lemma => kernel_rfl) (by as_aux_lemma => kernel_rfl) (fun _ _ _ h => h) (Or.inl ⟨by as_aux_lemma => kernel_rfl, ?yc1_10⟩) (by assumption) ?_
       case yc1_10 => (intro w hSw; (try dsimp only at hSw); go_simp; try with_reducible rfl)
       refine wpAnyH_take (i := 11) (v := ?vc1_11) rfl (by as_aux_lemma => kernel_rfl) (by as_aux_lemma => kernel_rfl) (by as_aux_lemma => kernel_rfl) (fun _ _ _ h => h) (Or.inl ⟨by as_aux_lemma => kernel_rfl, ?yc1_11⟩) (by assumption) ?_
       case yc1_11 => (intro w hSw; (try dsimp only at hSw); go_simp; try with_reducible rfl)
       try simp only [Act.put, List.getElem_toArray, List.getElem_cons_succ, List.getElem_cons_zero, List.setIfInBounds_toArray, List.set_cons_zero, List.set_cons_succ]
       refine wpAnyH_take (i := 12) (v := .bool true) rfl (by as_aux_lemma => kernel_rfl) (by as_aux_lemma => kernel_rfl) (by as_aux_lemma => kernel_rfl) (fun _ _ _ h => h) (Or.inl ⟨by as_aux_lemma => kernel_rfl, ?yd1_12⟩) (by assumption) ?_
       case yd1_12 => (intro w hSw; (try dsimp only at hSw); go_simp; try with_reducible rfl)
       refine wpAnyH_take (i := 13) (v := .bool true) rfl (by as_aux_lemma => kernel_rfl) (by as_aux_lemma => kernel_rfl) (by as_aux_lemma => kernel_rfl) (fun _ _ _ h => h) (Or.inl ⟨by as_aux_lemma => kernel_rfl, ?yd1_13⟩) (by assumption) ?_
       case yd1_13 => (intro w hSw; (try dsimp only at hSw); go_simp; try with_reducible rfl)
       refine wpAnyH_take (i := 14) (v := .bool true) rfl (by as_aux_lemma => kernel_rfl) (by as_aux_lemma => kernel_rfl) (by as_aux_lemma => kernel_rfl) (fun _ _ _ h => h) (Or.inl ⟨by as_aux_lemma => kernel_rfl, ?yd1_14⟩) (by assumption) ?_
       case yd1_14 => (intro w hSw; (try dsimp only at hSw); go_simp; try with_reducible rfl)
       try simp only [Act.put, List.getElem_toArray, List.getElem_cons_succ, List.getElem_cons_zero, List.setIfInBounds_toArray, List.set_cons_zero, List.set_cons_succ]
       refine wpAnyH_take (i := 15) (v := ?ve1_15) rfl (by as_aux_lemma => kernel_rfl) (by as_aux_lemma => kernel_rfl) (by as_aux_lemma => kernel_rfl) (fun _ _ _ h => h) (Or.inl ⟨by as_aux_lemma => kernel_rfl, ?ye1_15⟩) (by assumption) ?_
       case ye1_15 => (intro w hSw; (try dsimp only at hSw); go_simp; try with_reducible rfl)
       refine wpAnyH_take (i := 16) (v := ?ve1_16) rfl (by as_aux_lemma => kernel_rfl) (by as_aux_lemma => kernel_rfl) (by as_aux_lemma => kernel_rfl) (fun _ _ _ h => h) (Or.inl ⟨by as_aux_lemma => kernel_rfl, ?ye1_16⟩) (by assumption) ?_
       case ye1_16 => (intro w hSw; (try dsimp only at hSw); go_simp; try with_reducible rfl)
       refine wpAnyH_take (i := 17) (v := ?ve1_17) rfl (by as_aux_lemma => kernel_rfl) (by as_aux_lemma => kernel_rfl) (by as_aux_lemma => kernel_rfl) (fun _ _ _ h => h) (Or.inl ⟨by as_aux_lemma => kernel_rfl, ?ye1_17⟩) (by assumption) ?_
       case ye1_17 => (intro w hSw; (try dsimp only at hSw); go_simp; try with_reducible rfl)
       refine wpAnyH_take (i := 18) (v := ?ve1_18) rfl (by as_aux_lemma => kernel_rfl) (by as_aux_lemma => kernel_rfl) (by as_aux_lemma => kernel_rfl) (fun _ _ _ h => h) (Or.inl ⟨by as_aux_lemma => kernel_rfl, ?ye1_18⟩) (by assumption) ?_
       case ye1_18 => (intro w hSw; (try dsimp only at hSw); go_simp; try with_reducible rfl)
       refine wpAnyH_take (i := 19) (v := ?ve1_19) rfl (by as_aux_lemma => kernel_rfl) (by as_aux_lemma => kernel_rfl) (by as_aux_lemma => kernel_rfl) (fun _ _ _ h => h) (Or.inl ⟨by as_aux_lemma => kernel_rfl, ?ye1_19⟩) (by assumption) ?_
       case ye1_19 => (intro w hSw; (try dsimp only at hSw); go_simp; try with_reducible rfl)
       refine wpAnyH_take (i := 21) (v := ?ve1_21) rfl (by as_aux_lemma => kernel_rfl) (by as_aux_lemma => kernel_rfl) (by as_aux_lemma => kernel_rfl) (fun _ _ _ h => h) (Or.inl ⟨by as_aux_lemma => kernel_rfl, ?ye1_21⟩) (by assumption) ?_
       case ye1_21 => (intro w hSw; (try dsimp only at hSw); go_simp; try with_reducible rfl)
       refine wpAnyH_take (i := 22) (v := ?ve1_22) rfl (by as_aux_lemma => kernel_rfl) (by as_aux_lemma => kernel_rfl) (by as_aux_lemma => kernel_rfl) (fun _ _ _ h => h) (Or.inl ⟨by as_aux_lemma => kernel_rfl, ?ye1_22⟩) (by assumption) ?_
       case ye1_22 => (intro w hSw; (try dsimp only at hSw); go_simp; try with_reducible rfl)
       refine wpAnyH_take (i := 23) (v := ?ve1_23) rfl (by as_aux_lemma => kernel_rfl) (by as_aux_lemma => kernel_rfl) (by as_aux_lemma => kernel_rfl) (fun _ _ _ h => h) (Or.inl ⟨by as_aux_lemma => kernel_rfl, ?ye1_23⟩) (by assumption) ?_
       case ye1_23 => (intro w hSw; (try dsimp only at hSw); go_simp; try with_reducible rfl)
       refine wpAnyH_take (i := 24) (v := ?ve1_24) rfl (by as_aux_lemma => kernel_rfl) (by as_aux_lemma => kernel_rfl) (by as_aux_lemma => kernel_rfl) (fun _ _ _ h => h) (Or.inl ⟨by as_aux_lemma => kernel_rfl, ?ye1_24⟩) (by assumption) ?_
       case ye1_24 => (intro w hSw; (try dsimp only at hSw); go_simp; try with_reducible rfl)
       refine wpAnyH_take (i := 25) (v := ?ve1_25) rfl (by as_aux_lemma => kernel_rfl) (by as_aux_lemma => kernel_rfl) (by as_aux_lemma => kernel_rfl) (fun _ _ _ h => h) (Or.inl ⟨by as_aux_lemma => kernel_rfl, ?ye1_25⟩) (by assumption) ?_
       case ye1_25 => (intro w hSw; (try dsimp only at hSw); go_simp; try with_reducible rfl)
       refine wpAnyH_take (i := 26) (v := ?ve1_26) rfl (by as_aux_lemma => kernel_rfl) (by as_aux_lemma => kernel_rfl) (by as_aux_lemma => kernel_rfl) (fun _ _ _ h => h) (Or.inl ⟨by as_aux_lemma => kernel_rfl, ?ye1_26⟩) (by assumption) ?_
       case ye1_26 => (intro w hSw; (try dsimp only at hSw); go_simp; try with_reducible rfl)
       refine wpAnyH_take (i := 27) (v := ?ve1_27) rfl (by as_aux_lemma => kernel_rfl) (by as_aux_lemma => kernel_rfl) (by as_aux_lemma => kernel_rfl) (fun _ _ _ h => h) (Or.inl ⟨by as_aux_lemma => kernel_rfl, ?ye1_27⟩) (by assumption) ?_
       case ye1_27 => (intro w hSw; (try dsimp only at hSw); go_simp; try with_reducible rfl)
       try simp only [Act.put, List.getElem_toArray, List.getElem_cons_succ, List.getElem_cons_zero, List.setIfInBounds_toArray, List.set_cons_zero, List.set_cons_succ]
       refine wpAnyH_ready (rs := [20]) (by as_aux_lemma => kernel_rfl) (by simp) ?_
       refine AllReadyH.cons rfl (fun K hK => ?_) AllReadyH.nil
       refine step_mng _ _ rfl c.s.tl 604800 (min c.s.tl 604800) rfl rfl (min_f _ _) (by as_aux_lemma => kernel_rfl) ?_
       refine hK.out _ _ (HSx.out _ HJ10.out HgR10.out) (fun hHeld => ?_)
       clear hK K
       try simp only [Act.put, List.getElem_toArray, List.getElem_cons_succ, List.getElem_cons_zero, List.setIfInBounds_toArray, List.set_cons_zero, List.set_cons_succ]
       refine wpAnyH_take (i := 28) (v := ?vf1_28) rfl (by as_aux_lemma => kernel_rfl) (by as_aux_lemma => kernel_rfl) (by as_aux_lemma => kernel_rfl) (fun _ _ _ h => h) (Or.inl ⟨by as_aux_lemma => kernel_rfl, ?yf1_28⟩) (by assumption) ?_
       case yf1_28 => (intro w hSw; (try dsimp only at hSw); go_simp; try with_reducible rfl)
       try simp only [Act.put, List.getElem_toArray, List.getElem_cons_succ, List.getElem_cons_zero, List.setIfInBounds_toArray, List.set_cons_zero, List.set_cons_succ]
       refine wpAnyH_take (i := 29) (v := .bool true) rfl (by as_aux_lemma => kernel_rfl) (by as_aux_lemma => kernel_rfl) (by as_aux_lemma => kernel_rfl) (fun _ _ _ h => h) (Or.inl ⟨by as_aux_lemma => kernel_rfl, ?yg1_29⟩) (by assumption) ?_
       case yg1_29 => (intro w hSw; (try dsimp only at hSw); go_simp; try with_reducible rfl)
       refine wpAnyH_take (i := 30) (v := .bool true) rfl (by as_aux_lemma => kernel_rfl) (by as_aux_lemma => kernel_rfl) (by as_aux_lemma => kernel_rfl) (fun _ _ _ h => h) (Or.inl ⟨by as_aux_lemma => kernel_rfl, ?yg1_30⟩) (by assumption) ?_
       case yg1_30 => (intro w hSw; (try dsimp only at hSw); go_simp; try with_reducible rfl)
       refine wpAnyH_take (i := 31) (v := .bool true) rfl (by as_aux_lemma => kernel_rfl) (by as_aux_lemma => kernel_rfl) (by as_aux_lemma => kernel_rfl) (fun _ _ _ h => h) (Or.inl ⟨by as_aux_lemma => kernel_rfl, ?yg1_31⟩) (by assumption) ?_
       case yg1_31 => (intro w hSw; (try dsimp only at hSw); go_simp; try with_reducible rfl)
       try simp only [Act.put, List.getElem_toArray, List.getElem_cons_succ, List.getElem_cons_zero, List.setIfInBounds_toArray, List.set_cons_zero, List.set_cons_succ]
       refine wpAnyH_done (by as_aux_lemma => kernel_rfl) ?_ _
       go_wp2
       go_meet
       exact ⟨_, rfl, ⟨fun _ => HKJ.out, fun _ => rfl⟩, HJ10, HgR10⟩
      ·have hlt2 := HLt.out hkj
       have hrk2 : (c.rk == x.rk) = false := by simpa using (show ¬ c.rk = x.rk by omega)
       have HNE : Hid (¬ kk = jj) := hkj
       clear wk hkj hlt2
       cases r with
       | true =>
        refine wpAnyH_take (i := 4) (v := .bool true) rfl (by as_aux_lemma => kernel_rfl) (by as_aux_lemma => kernel_rfl) (by as_aux_lemma => kernel_rfl) (fun _ _ _ h => h) (Or.inl ⟨by as_aux_lemma => kernel_rfl, ?yn1_4⟩) (by assumption) ?_
        case yn1_4 => (intro w hSw; (try dsimp only at hSw); go_simp; try with_reducible rfl)
        try simp only [Act.put, List.getElem_toArray, List.getElem_cons_succ, List.getElem_cons_zero, List.setIfInBounds_toArray, List.set_cons_zero, List.set_cons_succ]
        refine wpAnyH_take (i := 5) (v := ?vo1_5) rfl (by as_aux_lemma => kernel_rfl) (by as_aux_lemma => kernel_rfl) (by as_aux_lemma => kernel_rfl) (fun _ _ _ h => h) (Or.inl ⟨by as_aux_lemma => kernel_rfl, ?yo1_5⟩) (by assumption) ?_
        case yo1_5 => (intro w hSw; (try dsimp only at hSw); go_simp; try with_reducible rfl)
        refine wpAnyH_take (i := 6) (v := ?vo1_6) rfl (by as_aux_lemma => kernel_rfl) (by as_aux_lemma => kernel_rfl) (by as_aux_lemma => kernel_rfl) (fun _ _ _ h => h) (Or.inl ⟨by as_aux_lemma => kernel_rfl, ?yo1_6⟩) (by assumption) ?_
        case yo1_6 => (intro w hSw; (try dsimp only at hSw); go_simp; try with_reducible rfl)
        refine wpAnyH_take (i := 7) (v := ?vo1_7) rfl (by as_aux_lemma => kernel_rfl) (by as_aux_lemma => kernel_rfl) (by as_aux_lemma => kernel_rfl) (fun _ _ _ h => h) (Or.inl ⟨by as_aux_lemma => kernel_rfl, ?yo1_7⟩) (by assumption) ?_
        case yo1_7 => (intro w hSw; (try dsimp only at hSw); go_simp; try with_reducible rfl)
        refine wpAnyH_take (i := 8) (v := ?vo1_8) rfl (by as_aux_lemma => kernel_rfl) (by as_aux_lemma => kernel_rfl) (by as_aux_lemma => kernel_rfl) (fun _ _ _ h => h) (Or.inl ⟨by as_aux_lemma => kernel_rfl, ?yo1_8⟩) (by assumption) ?_
        case yo1_8 => (intro w hSw; (try dsimp only at hSw); go_simp; try with_reducible rfl)
        refine wpAnyH_take (i := 9) (v := ?vo1_9) rfl (by as_aux_lemma => kernel_rfl) (by as_aux_lemma => kernel_rfl) (by as_aux_lemma => kernel_rfl) (fun _ _ _ h => h) (Or.inl ⟨by as_aux_lemma => kernel_rfl, ?yo1_9⟩) (by assumption) ?_
        case yo1_9 => (intro w hSw; (try dsimp only at hSw); go_simp; try with_reducible rfl)
        refine wpAnyH_take (i := 10) (v := ?vo1_10) rfl (by as_aux_lemma => kernel_rfl) (by as_aux_lemma => kernel_rfl) (by as_aux_lemma => kernel_rfl) (fun _ _ _ h => h) (Or.inl ⟨by as_aux_lemma => kernel_rfl, ?yo1_10⟩) (by assumption) ?_
        case yo1_10 => (intro w hSw; (try dsimp only at hSw); go_simp; try with_reducible rfl)
        refine wpAnyH_take (i := 11) (v := ?vo1_11) rfl (by as_aux_lemma => kernel_rfl) (by as_aux_lemma => kernel_rfl) (by as_aux_lemma => kernel_rfl) (fun _ _ _ h => h) (Or.inl ⟨by as_aux_lemma => kernel_rfl, ?yo1_11⟩) (by assumption) ?_
        case yo1_11 => (intro w hSw; (try dsimp only at hSw); go_simp; try with_reducible rfl)
        try simp only [Act.put, List.getElem_toArray, List.getElem_cons_succ, List.getElem_cons_zero, List.setIfInBounds_toArray, List.set_cons_zero, List.set_cons_succ]
        refine wpAnyH_take (i := 12) (v := .bool false) rfl (by as_aux_lemma => kernel_rfl) (by as_aux_lemma => kernel_rfl) (by as_aux_lemma => kernel_rfl) (fun _ _ _ h => h) (Or.inl ⟨by as_aux_lemma => kernel_rfl, ?yp1_12⟩) (by assumption) ?_
        case yp1_12 => (intro w hSw; (try dsimp only at hSw); go_simp; try with_reducible rfl)
        refine wpAnyH_take (i := 13) (v := .bool false) rfl (by as_aux_lemma => kernel_rfl) (by as_aux_lemma => kernel_rfl) (by as_aux_lemma => kernel_rfl) (fun _ _ _ h => h) (Or.inl ⟨by as_aux_lemma => kernel_rfl, ?yp1_13⟩) (by assumption) ?_
        case yp1_13 => (intro w hSw; (try dsimp only at hSw); go_simp; try with_reducible rfl)
        refine wpAnyH_take (i := 14) (v := .bool false) rfl (by as_aux_lemma => kernel_rfl) (by as_aux_lemma => kernel_rfl) (by as_aux_lemma => kernel_rfl) (fun _ _ _ h => h) (Or.inl ⟨by as_aux_lemma => kernel_rfl, ?yp1_14⟩) (by assumption) ?_
        case yp1_14 => (intro w hSw; (try dsimp only at hSw); go_simp; try with_reducible rfl)
        try simp only [Act.put, List.getElem_toArray, List.getElem_cons_succ, List.getElem_cons_zero, List.setIfInBounds_toArray, List.set_cons_zero, List.set_cons_succ]
        refine wpAnyH_take (i := 15) (v := undef) rfl (by as_aux_lemma => kernel_rfl) (by as_aux_lemma => kernel_rfl) (by as_aux_lemma => kernel_rfl) (fun _ _ _ h => h) (Or.inr ⟨by as_aux_lemma => kernel_rfl, rfl⟩) (by assumption) ?_
        refine wpAnyH_take (i := 16) (v := undef) rfl (by as_aux_lemma => kernel_rfl) (by as_aux_lemma => kernel_rfl) (by as_aux_lemma => kernel_rfl) (fun _ _ _ h => h) (Or.inr ⟨by as_aux_lemma => kernel_rfl, rfl⟩) (by assumption) ?_
        refine wpAnyH_take (i := 17) (v := undef) rfl (by as_aux_lemma => kernel_rfl) (by as_aux_lemma => kernel_rfl) (by as_aux_lemma => kernel_rfl) (fun _ _ _ h => h) (Or.inr ⟨by as_aux_lemma => kernel_rfl, rfl⟩) (by assumption) ?_
        refine wpAnyH_take (i := 18) (v := undef) rfl (by as_aux_lemma => kernel_rfl) (by as_aux_lemma => kernel_rfl) (by as_aux_lemma => kernel_rfl) (fun _ _ _ h => h) (Or.inr ⟨by as_aux_lemma => kernel_rfl, rfl⟩) (by assumption) ?_
        refine wpAnyH_take (i := 19) (v := undef) rfl (by as_aux_lemma => kernel_rfl) (by as_aux_lemma => kernel_rfl) (by as_aux_lemma => kernel_rfl) (fun _ _ _ h => h) (Or.inr ⟨by as_aux_lemma => kernel_rfl, rfl⟩) (by assumption) ?_
        refine wpAnyH_take (i := 20) (v := undef) rfl (by as_aux_lemma => kernel_rfl) (by as_aux_lemma => kernel_rfl) (by as_aux_lemma => kernel_rfl) (fun _ _ _ h => h) (Or.inr ⟨by as_aux_lemma => kernel_rfl, rfl⟩) (by assumption) ?_
        refine wpAnyH_take (i := 21) (v := undef) rfl (by as_aux_lemma => kernel_rfl) (by as_aux_lemma => kernel_rfl) (by as_aux_lemma => kernel_rfl) (fun _ _ _ h => h) (Or.inr ⟨by as_aux_lemma => kernel_rfl, rfl⟩) (by assumption) ?_
        refine wpAnyH_take (i := 22) (v := undef) rfl (by as_aux_lemma => kernel_rfl) (by as_aux_lemma => kernel_rfl) (by as_aux_lemma => kernel_rfl) (fun _ _ _ h => h) (Or.inr ⟨by as_aux_lemma => kernel_rfl, rfl⟩) (by assumption) ?_
        refine wpAnyH_take (i := 23) (v := undef) rfl (by as_aux_lemma => kernel_rfl) (by as_aux_lemma => kernel_rfl) (by as_aux_lemma => kernel_rfl) (fun _ _ _ h => h) (Or.inr ⟨by as_aux_lemma => kernel_rfl, rfl⟩) (by assumption) ?_
        refine wpAnyH_take (i := 24) (v := undef) rfl (by as_aux_lemma => kernel_rfl) (by as_aux_lemma => kernel_rfl) (by as_aux_lemma => kernel_rfl) (fun _ _ _ h => h) (Or.inr ⟨by as_aux_lemma => kernel_rfl, rfl⟩) (by assumption) ?_
        refine wpAnyH_take (i := 25) (v := undef) rfl (by as_aux_lemma => kernel_rfl) (by as_aux_lemma => kernel_rfl) (by as_aux_lemma => kernel_rfl) (fun _ _ _ h => h) (Or.inr ⟨by as_aux_lemma => kernel_rfl, rfl⟩) (by assumption) ?_
        refine wpAnyH_take (i := 26) (v := undef) rfl (by as_aux_lemma => kernel_rfl) (by as_aux_lemma => kernel_rfl) (by as_aux_lemma => kernel_rfl) (fun _ _ _ h => h) (Or.inr ⟨by as_aux_lemma => kernel_rfl, rfl⟩) (by assumption) ?_
        refine wpAnyH_take (i := 27) (v := undef) rfl (by as_aux_lemma => kernel_rfl) (by as_aux_lemma => kernel_rfl) (by as_aux_lemma => kernel_rfl) (fun _ _ _ h => h) (Or.inr ⟨by as_aux_lemma => kernel_rfl, rfl⟩) (by assumption) ?_
        refine wpAnyH_take (i := 28) (v := undef) rfl (by as_aux_lemma => kernel_rfl) (by as_aux_lemma => kernel_rfl) (by as_aux_lemma => kernel_rfl) (fun _ _ _ h => h) (Or.inr ⟨by as_aux_lemma => kernel_rfl, rfl⟩) (by assumption) ?_
        refine wpAnyH_take (i := 29) (v := undef) rfl (by as_aux_lemma => kernel_rfl) (by as_aux_lemma => kernel_rfl) (by as_aux_lemma => kernel_rfl) (fun _ _ _ h => h) (Or.inr ⟨by as_aux_lemma => kernel_rfl, rfl⟩) (by assumption) ?_
        try simp only [Act.put, List.getElem_toArray, List.getElem_cons_succ, List.getElem_cons_zero, List.setIfInBounds_toArray, List.set_cons_zero, List.set_cons_succ]
        refine wpAnyH_take (i := 30) (v := .bool false) rfl (by as_aux_lemma => kernel_rfl) (by as_aux_lemma => kernel_rfl) (by as_aux_lemma => kernel_rfl) (fun _ _ _ h => h) (Or.inl ⟨by as_aux_lemma => kernel_rfl, ?yq1_30⟩) (by assumption) ?_
        case yq1_30 => (intro w hSw; (try dsimp only at hSw); go_simp; try with_reducible rfl)
        refine wpAnyH_take (i := 31) (v := .bool false) rfl (by as_aux_lemma => kernel_rfl) (by as_aux_lemma => kernel_rfl) (by as_aux_lemma => kernel_rfl) (fun _ _ _ h => h) (Or.inl ⟨by as_aux_lemma => kernel_rfl, ?yq1_31⟩) (by assumption) ?_
        case yq1_31 => (intro w hSw; (try dsimp only at hSw); go_simp; try with_reducible rfl)
        try simp only [Act.put, List.getElem_toArray, List.getElem_cons_succ, List.getElem_cons_zero, List.setIfInBounds_toArray, List.set_cons_zero, List.set_cons_succ]
        refine wpAnyH_done (by as_aux_lemma => kernel_rfl) ?_ _
        go_wp2
        go_meet
        exact ⟨_, rfl, ⟨fun h => (by cases h), fun h => absurd h HNE.out⟩, HJ10, HgR10⟩
       | false =>
        refine wpAnyH_take (i := 4) (v := .bool false) rfl (by as_aux_lemma => kernel_rfl) (by as_aux_lemma => kernel_rfl) (by as_aux_lemma => kernel_rfl) (fun _ _ _ h => h) (Or.inl ⟨by as_aux_lemma => kernel_rfl, ?yr1_4⟩) (by assumption) ?_
        case yr1_4 => (intro w hSw; (try dsimp only at hSw); go_simp; try with_reducible rfl)
        try simp only [Act.put, List.getElem_toArray, List.getElem_cons_succ, List.getElem_cons_zero, List.setIfInBounds_toArray, List.set_cons_zero, List.set_cons_succ]
        refine wpAnyH_take (i := 5) (v := undef) rfl (by as_aux_lemma => kernel_rfl) (by as_aux_lemma => kernel_rfl) (by as_aux_lemma => kernel_rfl) (fun _ _ _ h => h) (Or.inr ⟨by as_aux_lemma => kernel_rfl, rfl⟩) (by assumption) ?_
        refine wpAnyH_take (i := 6) (v := undef) rfl (by as_aux_lemma => kernel_rfl) (by as_aux_lemma => kernel_rfl) (by as_aux_lemma => kernel_rfl) (fun _ _ _ h => h) (Or.inr ⟨by as_aux_lemma => kernel_rfl, rfl⟩) (by assumption) ?_
        refine wpAnyH_take (i := 7) (v := undef) rfl (by as_aux_lemma => kernel_rfl) (by as_aux_lemma => kernel_rfl) (by as_aux_lemma => kernel_rfl) (fun _ _ _ h => h) (Or.inr ⟨by as_aux_lemma => kernel_rfl, rfl⟩) (by assumption) ?_
        refine wpAnyH_take (i := 8) (v := undef) rfl (by as_aux_lemma => kernel_rfl) (by as_aux_lemma => kernel_rfl) (by as_aux_lemma => kernel_rfl) (fun _ _ _ h => h) (Or.inr ⟨by as_aux_lemma => kernel_rfl, rfl⟩) (by assumption) ?_
        refine wpAnyH_take (i := 9) (v := undef) rfl (by as_aux_lemma => kernel_rfl) (by as_aux_lemma => kernel_rfl) (by as_aux_lemma => kernel_rfl) (fun _ _ _ h => h) (Or.inr ⟨by as_aux_lemma => kernel_rfl, rfl⟩) (by assumption) ?_
        refine wpAnyH_take (i := 10) (v := undef) rfl (by as_aux_lemma => kernel_rfl) (by as_aux_lemma => kernel_rfl) (by as_aux_lemma => kernel_rfl) (fun _ _ _ h => h) (Or.inr ⟨by as_aux_lemma => kernel_rfl, rfl⟩) (by assumption) ?_
        refine wpAnyH_take (i := 11) (v := undef) rfl (by as_aux_lemma => kernel_rfl) (by as_aux_lemma => kernel_rfl) (by as_aux_lemma => kernel_rfl) (fun _ _ _ h => h) (Or.inr ⟨by as_aux_lemma => kernel_rfl, rfl⟩) (by assumption) ?_
        refine wpAnyH_take (i := 12) (v := undef) rfl (by as_aux_lemma => kernel_rfl) (by as_aux_lemma => kernel_rfl) (by as_aux_lemma => kernel_rfl) (fun _ _ _ h => h) (Or.inr ⟨by as_aux_lemma => kernel_rfl, rfl⟩) (by assumption) ?_
        try simp only [Act.put, List.getElem_toArray, List.getElem_cons_succ, List.getElem_cons_zero, List.setIfInBounds_toArray, List.set_cons_zero, List.set_cons_succ]
        refine wpAnyH_take (i := 13) (v := .bool false) rfl (by as_aux_lemma => kernel_rfl) (by as_aux_lemma => kernel_rfl) (by as_aux_lemma => kernel_rfl) (fun _ _ _ h => h) (Or.inl ⟨by as_aux_lemma => kernel_rfl, ?ys1_13⟩) (by assumption) ?_
        case ys1_13 => (intro w hSw; (try dsimp only at hSw); go_simp; try with_reducible rfl)
        refine wpAnyH_take (i := 14) (v := .bool false) rfl (by as_aux_lemma => kernel_rfl) (by as_aux_lemma => kernel_rfl) (by as_aux_lemma => kernel_rfl) (fun _ _ _ h => h) (Or.inl ⟨by as_aux_lemma => kernel_rfl, ?ys1_14⟩) (by assumption) ?_
        case ys1_14 => (intro w hSw; (try dsimp only at hSw); go_simp; try with_reducible rfl)
        try simp only [Act.put, List.getElem_toArray, List.getElem_cons_succ, List.getElem_cons_zero, List.setIfInBounds_toArray, List.set_cons_zero, List.set_cons_succ]
        refine wpAnyH_take (i := 15) (v := undef) rfl (by as_aux_lemma => kernel_rfl) (by as_aux_lemma => kernel_rfl) (by as_aux_lemma => kernel_rfl) (fun _ _ _ h => h) (Or.inr ⟨by as_aux_lemma => kernel_rfl, rfl⟩) (by assumption) ?_
        refine wpAnyH_take (i := 16) (v := undef) rfl (by as_aux_lemma => kernel_rfl) (by as_aux_lemma => kernel_rfl) (by as_aux_lemma => kernel_rfl) (fun _ _ _ h => h) (Or.inr ⟨by as_aux_lemma => kernel_rfl, rfl⟩) (by assumption) ?_
        refine wpAnyH_take (i := 17) (v := undef) rfl (by as_aux_lemma => kernel_rfl) (by as_aux_lemma => kernel_rfl) (by as_aux_lemma => kernel_rfl) (fun _ _ _ h => h) (Or.inr ⟨by as_aux_lemma => kernel_rfl, rfl⟩) (by assumption) ?_
        refine wpAnyH_take (i := 18) (v := undef) rfl (by as_aux_lemma => kernel_rfl) (by as_aux_lemma => kernel_rfl) (by as_aux_lemma => kernel_rfl) (fun _ _ _ h => h) (Or.inr ⟨by as_aux_lemma => kernel_rfl, rfl⟩) (by assumption) ?_
        refine wpAnyH_take (i := 19) (v := undef) rfl (by as_aux_lemma => kernel_rfl) (by as_aux_lemma => kernel_rfl) (by as_aux_lemma => kernel_rfl) (fun _ _ _ h => h) (Or.inr ⟨by as_aux_lemma => kernel_rfl, rfl⟩) (by assumption) ?_
        refine wpAnyH_take (i := 20) (v := undef) rfl (by as_aux_lemma => kernel_rfl) (by as_aux_lemma => kernel_rfl) (by as_aux_lemma => kernel_rfl) (fun _ _ _ h => h) (Or.inr ⟨by as_aux_lemma => kernel_rfl, rfl⟩) (by assumption) ?_
        refine wpAnyH_take (i := 21) (v := undef) rfl (by as_aux_lemma => kernel_rfl) (by as_aux_lemma => kernel_rfl) (by as_aux_lemma => kernel_rfl) (fun _ _ _ h => h) (Or.inr ⟨by as_aux_lemma => kernel_rfl, rfl⟩) (by assumption) ?_
        refine wpAnyH_take (i := 22) (v := undef) rfl (by as_aux_lemma => kernel_rfl) (by as_aux_lemma => kernel_rfl) (by as_aux_lemma => kernel_rfl) (fun _ _ _ h => h) (Or.inr ⟨by as_aux_lemma => kernel_rfl, rfl⟩) (by assumption) ?_
        refine wpAnyH_take (i := 23) (v := undef) rfl (by as_aux_lemma => kernel_rfl) (by as_aux_lemma => kernel_rfl) (by as_aux_lemma => kernel_rfl) (fun _ _ _ h => h) (Or.inr ⟨by as_aux_lemma => kernel_rfl, rfl⟩) (by assumption) ?_
        refine wpAnyH_take (i := 24) (v := undef) rfl (by as_aux_lemma => kernel_rfl) (by as_aux_lemma => kernel_rfl) (by as_aux_lemma => kernel_rfl) (fun _ _ _ h => h) (Or.inr ⟨by as_aux_lemma => kernel_rfl, rfl⟩) (by assumption) ?_
        refine wpAnyH_take (i := 25) (v := undef) rfl (by as_aux_lemma => kernel_rfl) (by as_aux_lemma => kernel_rfl) (by as_aux_lemma => kernel_rfl) (fun _ _ _ h => h) (Or.inr ⟨by as_aux_lemma => kernel_rfl, rfl⟩) (by assumption) ?_
        refine wpAnyH_take (i := 26) (v := undef) rfl (by as_aux_lemma => kernel_rfl) (by as_aux_lemma => kernel_rfl) (by as_aux_lemma => kernel_rfl) (fun _ _ _ h => h) (Or.inr ⟨by as_aux_lemma => kernel_rfl, rfl⟩) (by assumption) ?_
        refine wpAnyH_take (i := 27) (v := undef) rfl (by as_aux_lemma => kernel_rfl) (by as_aux_lemma => kernel_rfl) (by as_aux_lemma => kernel_rfl) (fun _ _ _ h => h) (Or.inr ⟨by as_aux_lemma => kernel_rfl, rfl⟩) (by assumption) ?_
        refine wpAnyH_take (i := 28) (v := undef) rfl (by as_aux_lemma => kernel_rfl) (by as_aux_lemma => kernel_rfl) (by as_aux_lemma => kernel_rfl) (fun _ _ _ h => h) (Or.inr ⟨by as_aux_lemma => kernel_rfl, rfl⟩) (by assumption) ?_
        refine wpAnyH_take (i := 29) (v := undef) rfl (by as_aux_lemma => kernel_rfl) (by as_aux_lemma => kernel_rfl) (by as_aux_lemma => kernel_rfl) (fun _ _ _ h => h) (Or.inr ⟨by as_aux_lemma => kernel_rfl, rfl⟩) (by assumption) ?_
        try simp only [Act.put, List.getElem_toArray, List.getElem_cons_succ, List.getElem_cons_zero, List.setIfInBounds_toArray, List.set_cons_zero, List.set_cons_succ]
        refine wpAnyH_take (i := 30) (v := .bool false) rfl (by as_aux_lemma => kernel_rfl) (by as_aux_lemma => kernel_rfl) (by as_aux_lemma => kernel_rfl) (fun _ _ _ h => h) (Or.inl ⟨by as_aux_lemma => kernel_rfl, ?yt1_30⟩) (by assumption) ?_
        case yt1_30 => (intro w hSw; (try dsimp only at hSw); go_simp; try with_reducible rfl)
        refine wpAnyH_take (i := 31) (v := .bool false) rfl (by as_aux_lemma => kernel_rfl) (by as_aux_lemma => kernel_rfl) (by as_aux_lemma => kernel_rfl) (fun _ _ _ h => h) (Or.inl ⟨by as_aux_lemma => kernel_rfl, ?yt1_31⟩) (by assumption) ?_
        case yt1_31 => (intro w hSw; (try dsimp only at hSw); go_simp; try with_reducible rfl)
        try simp only [Act.put, List.getElem_toArray, List.getElem_cons_succ, List.getElem_cons_zero, List.setIfInBounds_toArray, List.set_cons_zero, List.set_cons_succ]
        refine wpAnyH_done (by as_aux_lemma => kernel_rfl) ?_ _
        go_wp2
        go_meet
        exact ⟨_, rfl, ⟨fun h => (by cases h), fun h => absurd h HNE.out⟩, HJ10, HgR10⟩
     case rest =>
     obtain ⟨bb, rfl, hbb, HJ10, HgR10⟩ := hcut
     have HBB := Hid.mk hbb
     clear hbb
     have hS29 := HSx.out _ HJ10.out HgR10.out
     have HJ11 : Hid (Below V3.heap.size V3 wc.drew) := HJ10.out.drew
     go_upto_region 29 with fail
     clear hS29
     cases bb with
     | true =>
      refine wp_region_held_drew (S := (fun w : World => (seLoad (.pointer (some ⟨R, 0, none⟩))).run Tryz.prog w = .ok (.agg #[.string c.s.nm, .int .i64 c.s.ty, .int .i64 c.s.cl, .int .i64 c.s.tl, .slice qd3 c.s.ds.length cd3, .slice qg3 c.s.sg.length cg3]) w ∧ (seLoad (.pointer (some ⟨P, 0, none⟩))).run Tryz.prog w = .ok (.agg #[.string x.s.nm, .int .i64 x.s.ty, .int .i64 x.s.cl, .int .i64 x.s.tl, .slice q1 x.s.ds.length c1, .slice q3 x.s.sg.length c3]) w ∧ w.cell? ⟨P, 3, none⟩ = some (.int .i64 x.s.tl) ∧ w.cell? ⟨P, 6, none⟩ = some (.int .i64 x.rk) ∧ w.cell? ⟨R, 3, none⟩ = some (.int .i64 c.s.tl) ∧ w.cell? ⟨g, kk * 11 + 7, none⟩ = some (.int .i64 c.rk) ∧ w.cell? ⟨g, kk * 11 + 10, none⟩ = some (.int .i64 c.nw))) (by as_aux_lemma => kernel_rfl) (HSx.out _ HJ11.out HgR10.out) (fun hHeld => ?_)
      refine wpAnyH_take (i := 0) (v := ?vh1_0) rfl (by as_aux_lemma => kernel_rfl) (by as_aux_lemma => kernel_rfl) (by as_aux_lemma => kernel_rfl) (fun _ _ _ h => h) (Or.inl ⟨by as_aux_lemma => kernel_rfl, ?yh1_0⟩) (by assumption) ?_
      case yh1_0 => (intro w hSw; (try dsimp only at hSw); go_simp; try with_reducible rfl)
      try simp only [Act.put, List.getElem_toArray, List.getElem_cons_succ, List.getElem_cons_zero, List.setIfInBounds_toArray, List.set_cons_zero, List.set_cons_succ]
      refine wpAnyH_take (i := 1) (v := .bool false) rfl (by as_aux_lemma => kernel_rfl) (by as_aux_lemma => kernel_rfl) (by as_aux_lemma => kernel_rfl) (fun _ _ _ h => h) (Or.inl ⟨by as_aux_lemma => kernel_rfl, ?yh1_1⟩) (by assumption) ?_
      case yh1_1 => (intro w hSw; (try dsimp only at hSw); go_simp; try with_reducible rfl)
      refine wpAnyH_take (i := 2) (v := .bool false) rfl (by as_aux_lemma => kernel_rfl) (by as_aux_lemma => kernel_rfl) (by as_aux_lemma => kernel_rfl) (fun _ _ _ h => h) (Or.inl ⟨by as_aux_lemma => kernel_rfl, ?yh1_2⟩) (by assumption) ?_
      case yh1_2 => (intro w hSw; (try dsimp only at hSw); go_simp; try with_reducible rfl)
      try simp only [Act.put, List.getElem_toArray, List.getElem_cons_succ, List.getElem_cons_zero, List.setIfInBounds_toArray, List.set_cons_zero, List.set_cons_succ]
      refine wpAnyH_take (i := 3) (v := undef) rfl (by as_aux_lemma => kernel_rfl) (by as_aux_lemma => kernel_rfl) (by as_aux_lemma => kernel_rfl) (fun _ _ _ h => h) (Or.inr ⟨by as_aux_lemma => kernel_rfl, rfl⟩) (by assumption) ?_
      refine wpAnyH_take (i := 4) (v := undef) rfl (by as_aux_lemma => kernel_rfl) (by as_aux_lemma => kernel_rfl) (by as_aux_lemma => kernel_rfl) (fun _ _ _ h => h) (Or.inr ⟨by as_aux_lemma => kernel_rfl, rfl⟩) (by assumption) ?_
      refine wpAnyH_take (i := 5) (v := undef) rfl (by as_aux_lemma => kernel_rfl) (by as_aux_lemma => kernel_rfl) (by as_aux_lemma => kernel_rfl) (fun _ _ _ h => h) (Or.inr ⟨by as_aux_lemma => kernel_rfl, rfl⟩) (by assumption) ?_
      refine wpAnyH_take (i := 6) (v := undef) rfl (by as_aux_lemma => kernel_rfl) (by as_aux_lemma => kernel_rfl) (by as_aux_lemma => kernel_rfl) (fun _ _ _ h => h) (Or.inr ⟨by as_aux_lemma => kernel_rfl, rfl⟩) (by assumption) ?_
      refine wpAnyH_take (i := 7) (v := undef) rfl (by as_aux_lemma => kernel_rfl) (by as_aux_lemma => kernel_rfl) (by as_aux_lemma => kernel_rfl) (fun _ _ _ h => h) (Or.inr ⟨by as_aux_lemma => kernel_rfl, rfl⟩) (by assumption) ?_
      refine wpAnyH_take (i := 8) (v := undef) rfl (by as_aux_lemma => kernel_rfl) (by as_aux_lemma => kernel_rfl) (by as_aux_lemma => kernel_rfl) (fun _ _ _ h => h) (Or.inr ⟨by as_aux_lemma => kernel_rfl, rfl⟩) (by assumption) ?_
      refine wpAnyH_take (i := 9) (v := undef) rfl (by as_aux_lemma => kernel_rfl) (by as_aux_lemma => kernel_rfl) (by as_aux_lemma => kernel_rfl) (fun _ _ _ h => h) (Or.inr ⟨by as_aux_lemma => kernel_rfl, rfl⟩) (by assumption) ?_
      refine wpAnyH_take (i := 10) (v := undef) rfl (by as_aux_lemma => kernel_rfl) (by as_aux_lemma => kernel_rfl) (by as_aux_lemma => kernel_rfl) (fun _ _ _ h => h) (Or.inr ⟨by as_aux_lemma => kernel_rfl, rfl⟩) (by assumption) ?_
      try simp only [Act.put, List.getElem_toArray, List.getElem_cons_succ, List.getElem_cons_zero, List.setIfInBounds_toArray, List.set_cons_zero, List.set_cons_succ]
      refine wpAnyH_take (i := 11) (v := .bool false) rfl (by as_aux_lemma => kernel_rfl) (by as_aux_lemma => kernel_rfl) (by as_aux_lemma => kernel_rfl) (fun _ _ _ h => h) (Or.inl ⟨by as_aux_lemma => kernel_rfl, ?yi1_11⟩) (by assumption) ?_
      case yi1_11 => (intro w hSw; (try dsimp only at hSw); go_simp; try with_reducible rfl)
      try simp only [Act.put, List.getElem_toArray, List.getElem_cons_succ, List.getElem_cons_zero, List.setIfInBounds_toArray, List.set_cons_zero, List.set_cons_succ]
      refine wpAnyH_done (by as_aux_lemma => kernel_rfl) ?_ _
      clear hHeld
      have wk3 : IntKind.i64.wrap ((kk : Int) - 1) = (kk : Int) - 1 := by rw [IntKind.wrap_i64]; omega
      go_wp2
      go_roundw
      case rel => exact ⟨_, rfl, HJ11.out, .inr ⟨(kk : Int) - 1, rfl, rfl, by omega, by omega⟩⟩
      case measure => simp [intOf, boolOf]
     | false =>
      have hkj : ¬ kk = jj := fun h => by cases HBB.out.2 h
      have hlt2 := HLt.out hkj
      have hrk2 : (c.rk == x.rk) = false := by simpa using (show ¬ c.rk = x.rk by omega)
      have hrk3 : ¬ c.rk ≥ x.rk := by omega
      have wk2 := wk hkj
      have hrk4 : decide (c.rk ≥ x.rk) = false := decide_eq_false hrk3
      clear wk
      refine wp_region_held_drew (S := (fun w : World => (seLoad (.pointer (some ⟨R, 0, none⟩))).run Tryz.prog w = .ok (.agg #[.string c.s.nm, .int .i64 c.s.ty, .int .i64 c.s.cl, .int .i64 c.s.tl, .slice qd3 c.s.ds.length cd3, .slice qg3 c.s.sg.length cg3]) w ∧ (seLoad (.pointer (some ⟨P, 0, none⟩))).run Tryz.prog w = .ok (.agg #[.string x.s.nm, .int .i64 x.s.ty, .int .i64 x.s.cl, .int .i64 x.s.tl, .slice q1 x.s.ds.length c1, .slice q3 x.s.sg.length c3]) w ∧ w.cell? ⟨P, 3, none⟩ = some (.int .i64 x.s.tl) ∧ w.cell? ⟨P, 6, none⟩ = some (.int .i64 x.rk) ∧ w.cell? ⟨R, 3, none⟩ = some (.int .i64 c.s.tl) ∧ w.cell? ⟨g, kk * 11 + 7, none⟩ = some (.int .i64 c.rk) ∧ w.cell? ⟨g, kk * 11 + 10, none⟩ = some (.int .i64 c.nw))) (by as_aux_lemma => kernel_rfl) (HSx.out _ HJ11.out HgR10.out) (fun hHeld => ?_)
      refine wpAnyH_take (i := 0) (v := ?vj1_0) rfl (by as_aux_lemma => kernel_rfl) (by as_aux_lemma => kernel_rfl) (by as_aux_lemma => kernel_rfl) (fun _ _ _ h => h) (Or.inl ⟨by as_aux_lemma => kernel_rfl, ?yj1_0⟩) (by assumption) ?_
      case yj1_0 => (intro w hSw; (try dsimp only at hSw); go_simp; try with_reducible rfl)
      try simp only [Act.put, List.getElem_toArray, List.getElem_cons_succ, List.getElem_cons_zero, List.setIfInBounds_toArray, List.set_cons_zero, List.set_cons_succ]
      refine wpAnyH_take (i := 1) (v := .bool true) rfl (by as_aux_lemma => kernel_rfl) (by as_aux_lemma => kernel_rfl) (by as_aux_lemma => kernel_rfl) (fun _ _ _ h => h) (Or.inl ⟨by as_aux_lemma => kernel_rfl, ?yk1_1⟩) (by assumption) ?_
      case yk1_1 => (intro w hSw; (try dsimp only at hSw); go_simp; try with_reducible rfl)
      refine wpAnyH_take (i := 2) (v := .bool true) rfl (by as_aux_lemma => kernel_rfl) (by as_aux_lemma => kernel_rfl) (by as_aux_lemma => kernel_rfl) (fun _ _ _ h => h) (Or.inl ⟨by as_aux_lemma => kernel_rfl, ?yk1_2⟩) (by assumption) ?_
      case yk1_2 => (intro w hSw; (try dsimp only at hSw); go_simp; try with_reducible rfl)
      try simp only [Act.put, List.getElem_toArray, List.getElem_cons_succ, List.getElem_cons_zero, List.setIfInBounds_toArray, List.set_cons_zero, List.set_cons_succ]
      refine wpAnyH_take (i := 3) (v := ?vl1_3) rfl (by as_aux_lemma => kernel_rfl) (by as_aux_lemma => kernel_rfl) (by as_aux_lemma => kernel_rfl) (fun _ _ _ h => h) (Or.inl ⟨by as_aux_lemma => kernel_rfl, ?yl1_3⟩) (by assumption) ?_
      case yl1_3 => (intro w hSw; (try dsimp only at hSw); go_simp; try with_reducible rfl)
      refine wpAnyH_take (i := 4) (v := ?vl1_4) rfl (by as_aux_lemma => kernel_rfl) (by as_aux_lemma => kernel_rfl) (by as_aux_lemma => kernel_rfl) (fun _ _ _ h => h) (Or.inl ⟨by as_aux_lemma => kernel_rfl, ?yl1_4⟩) (by assumption) ?_
      case yl1_4 => (intro w hSw; (try dsimp only at hSw); go_simp; try with_reducible rfl)
      refine wpAnyH_take (i := 5) (v := ?vl1_5) rfl (by as_aux_lemma => kernel_rfl) (by as_aux_lemma => kernel_rfl) (by as_aux_lemma => kernel_rfl) (fun _ _ _ h => h) (Or.inl ⟨by as_aux_lemma => kernel_rfl, ?yl1_5⟩) (by assumption) ?_
      case yl1_5 => (intro w hSw; (try dsimp only at hSw); go_simp; try with_reducible rfl)
      refine wpAnyH_take (i := 6) (v := ?vl1_6) rfl (by as_aux_lemma => kernel_rfl) (by as_aux_lemma => kernel_rfl) (by as_aux_lemma => kernel_rfl) (fun _ _ _ h => h) (Or.inl ⟨by as_aux_lemma => kernel_rfl, ?yl1_6⟩) (by assumption) ?_
      case yl1_6 => (intro w hSw; (try dsimp only at hSw); go_simp; try with_reducible rfl)
      refine wpAnyH_take (i := 7) (v := ?vl1_7) rfl (by as_aux_lemma => kernel_rfl) (by as_aux_lemma => kernel_rfl) (by as_aux_lemma => kernel_rfl) (fun _ _ _ h => h) (Or.inl ⟨by as_aux_lemma => kernel_rfl, ?yl1_7⟩) (by assumption) ?_
      case yl1_7 => (intro w hSw; (try dsimp only at hSw); go_simp; try with_reducible rfl)
      refine wpAnyH_take (i := 8) (v := ?vl1_8) rfl (by as_aux_lemma => kernel_rfl) (by as_aux_lemma => kernel_rfl) (by as_aux_lemma => kernel_rfl) (fun _ _ _ h => h) (Or.inl ⟨by as_aux_lemma => kernel_rfl, ?yl1_8⟩) (by assumption) ?_
      case yl1_8 => (intro w hSw; (try dsimp only at hSw); go_simp; try with_reducible rfl)
      refine wpAnyH_take (i := 9) (v := ?vl1_9) rfl (by as_aux_lemma => kernel_rfl) (by as_aux_lemma => kernel_rfl) (by as_aux_lemma => kernel_rfl) (fun _ _ _ h => h) (Or.inl ⟨by as_aux_lemma => kernel_rfl, ?yl1_9⟩) (by assumption) ?_
      case yl1_9 => (intro w hSw; (try dsimp only at hSw); go_simp; try with_reducible rfl)
      try simp only [Act.put, List.getElem_toArray, List.getElem_cons_succ, List.getElem_cons_zero, List.setIfInBounds_toArray, List.set_cons_zero, List.set_cons_succ]
      refine wpAnyH_take (i := 10) (v := .bool false) rfl (by as_aux_lemma => kernel_rfl) (by as_aux_lemma => kernel_rfl) (by as_aux_lemma => kernel_rfl) (fun _ _ _ h => h) (Or.inl ⟨by as_aux_lemma => kernel_rfl, ?ym1_10⟩) (by assumption) ?_
      case ym1_10 => (intro w hSw; (try dsimp only at hSw); go_simp; try with_reducible rfl)
      refine wpAnyH_take (i := 11) (v := .bool false) rfl (by as_aux_lemma => kernel_rfl) (by as_aux_lemma => kernel_rfl) (by as_aux_lemma => kernel_rfl) (fun _ _ _ h => h) (Or.inl ⟨by as_aux_lemma => kernel_rfl, ?ym1_11⟩) (by assumption) ?_
      case ym1_11 => (intro w hSw; (try dsimp only at hSw); go_simp; try with_reducible rfl)
      try simp only [Act.put, List.getElem_toArray, List.getElem_cons_succ, List.getElem_cons_zero, List.setIfInBounds_toArray, List.set_cons_zero, List.set_cons_succ]
      refine wpAnyH_done (by as_aux_lemma => kernel_rfl) ?_ _
      clear hHeld hrk2 hrk3 hrk4 hlt2
      go_wp2
      go_roundw
      case rel => exact ⟨_, rfl, HJ11.out, .inl ⟨kk - 1, by omega, by omega, rfl, by first | rfl | go_num⟩⟩
      case measure => simp [intOf, boolOf]; omega
theorem fresh_walk (W : World) (kind : Int) (hkind : I64 kind) (q : Option Addr) (cap : Nat) (l : List Dd) (hat : DdsAt W q l) (hin : ∀ d ∈ l, DdI d) (hsh : ShC l.length cap q) :
  Calls Tryz.prog 4 #[.slice q l.length cap, .int .i64 kind] W fun e w' => e = .returned (.bool true) ∧ Below W.heap.size W w' := by
 obtain ⟨N, hN⟩ : ∃ N, W.heap.size = N := ⟨_, rfl⟩
 obtain ⟨n, hn⟩ : ∃ n, l.length = n := ⟨_, rfl⟩
 have HE := Hid.mk examples_in
 have HPk : Hid (∀ w c, I64 c → Calls Tryz.prog 9 #[.int .i64 c, .int .i64 100] w fun e w' => e = .returned (.int .i64 (pickR c 100)) ∧ w' = w) := fun w c hc => pick_in w c 100 hc (by omega) (by omega)
 have HPl : Hid (∀ w (m : Nat), 1 ≤ m → m ≤ 1000 → ∃ j : Nat, j < m ∧ Calls Tryz.prog 9 #[.int .i64 kind, .int .i64 (m : Int)] w fun e w' => e = .returned (.int .i64 (j : Int)) ∧ w' = w) := fun w m h1 h2 => by
  have e1 := pickR_ge kind (m : Int)
  have e2 := pickR_lt kind (m : Int) (by omega)
  refine ⟨(pickR kind m).toNat, by omega, ?_⟩
  rw [show (((pickR kind (m : Int)).toNat : Nat) : Int) = pickR kind m by omega]
  exact pick_in w kind m hkind (by omega) (by omega)
 have HNw : Hid (∀ w, Calls Tryz.prog 8 #[.int .i64 1000] w fun e w' => ∃ C T, e = .returned (.tuple #[pt C, .int .i64 0]) ∧ RCA w w' C T 1000 0 0 []) := fun w => anew_in w 1000 (by omega) (by omega)
 have HD : Hid (∀ i, i < n → ∃ (b off : Nat) (d : Dd) (qd : Option Addr) (cd : Nat) (qg : Option Addr) (cg : Nat), q = some ⟨b, off, none⟩ ∧ Hid (DdI d) ∧ Hid (∀ w, Below N W w → (deLoad (.pointer (some ⟨b, off + i * 11, none⟩))).run Tryz.prog w = .ok (.agg #[.int .i64 d.kd, .string d.s.nm, .int .i64 d.s.ty, .int .i64 d.s.cl, .int .i64 d.s.tl, .slice qd d.s.ds.length cd, .slice qg d.s.sg.length cg, .int .i64 d.rk, .int .i64 d.se, .int .i64 d.ve, .int .i64 d.nw]) w ∧ SvAt w d.s qd cd qg cg)) := fun i hi => by
  obtain ⟨b, off, d, qd, cd, qg, cg, e, _, hd, h⟩ := dd_at hat i (by rw [hn]; exact hi)
  rw [hN] at h
  exact ⟨b, off, d, qd, cd, qg, cg, e, hin d hd, h⟩
 have hnc : n ≤ cap ∧ cap ≤ 9223372036854775807 := by have := hsh.1; have := hsh.2.1; unfold maxLen at *; omega
 have HFP : Hid (∀ w C T k i (d : Dd) v ln, FS W w C T k i d.nw v ln → k ≤ 1000 → SvI d.s → ∀ qd cd qg cg, SvAt w d.s qd cd qg cg → Calls Tryz.prog 11 #[pt C, .agg #[.string d.s.nm, .int .i64 d.s.ty, .int .i64 d.s.cl, .int .i64 d.s.tl, .slice qd d.s.ds.length cd, .slice qg d.s.sg.length cg], .int .i64 d.rk, .int .i64 d.se, .int .i64 d.nw] w fun e w' => FrC w w' ∧ ((e = .returned (.tuple #[.bool false, .int .i64 1]) ∧ FS W w' C T (k + 1) i d.nw v ln) ∨ (e = .returned (.tuple #[.bool true, .int .i64 0]) ∧ FP W w' C T (k + 1) i d v ln) ∨ (e = .returned (.tuple #[.bool false, .int .i64 0]) ∧ (0 < d.s.tl → d.rk ≠ 4) ∧ FP W w' C T (k + 1) i d v ln))) := fun w C T k i d v ln h hk hd qd cd qg cg ha => fs_put h hk hd qd cd qg cg ha
 have HFA : Hid (∀ w C T k i ln v (d : Dd), FP W w C T k i d v ln → i ≤ 500 → ∀ qd cd qg cg, SvAt W d.s qd cd qg cg → ∃ q2 c2 w', (aDe #[v, .slice (some ⟨w.heap.size, 0, none⟩) 1 1]).run Tryz.prog (w.alloc (.cells #[.int .i64 d.kd, .string d.s.nm, .int .i64 d.s.ty, .int .i64 d.s.cl, .int .i64 d.s.tl, .slice qd d.s.ds.length cd, .slice qg d.s.sg.length cg, .int .i64 d.rk, .int .i64 d.se, .int .i64 d.ve, .int .i64 d.nw] 36)) = .ok (.slice q2 (ln + 1) c2) w' ∧ FS W w' C T k (i + 1) d.nw (.slice q2 (ln + 1) c2) (ln + 1) ∧ ln + 1 ≤ c2 ∧ c2 ≤ 9223372036854775807) := fun w C T k i ln v d h hi qd cd qg cg ha => fp_app h hi ha
 have HFG : Hid (∀ w C T k i now ln q0 c0, FS W w C T k i now (.slice q0 ln c0) ln → ∀ j, j < ln → ∃ (g : Nat) (qq : Dd) (qd2 : Option Addr) (cd2 : Nat) (qg2 : Option Addr) (cg2 : Nat), q0 = some ⟨g, 0, none⟩ ∧ SvI qq.s ∧ (∀ i, i < 11 → w.cell? ⟨g, j * 11 + i, none⟩ = (ddC qq qd2 cd2 qg2 cg2)[i]?) ∧
  ∀ u, Below w.heap.size w u → Calls Tryz.prog 13 #[pt C, .string qq.s.nm, .int .i64 qq.s.ty, .int .i64 now] u fun e w' => FrC u w' ∧ ((e = .returned (.tuple #[.agg #[.string ⟨#[]⟩, .int .i64 0, .int .i64 0, .int .i64 0, .slice none 0 0, .slice none 0 0, .int .i64 0, .int .i64 0, .int .i64 0, .int .i64 0], .bool false]) ∧ FS W w' C T k i now (.slice q0 ln c0) ln) ∨ (∃ (x : Ev) (q1 : Option Addr) (c1 : Nat) (q3 : Option Addr) (c3 jj : Nat), e = .returned (.tuple #[.agg #[.string x.s.nm, .int .i64 x.s.ty, .int .i64 x.s.cl, .int .i64 x.s.tl, .slice q1 x.s.ds.length c1, .slice q3 x.s.sg.length c3, .int .i64 x.rk, .int .i64 x.se, .int .i64 x.ve, .int .i64 x.un], .bool true]) ∧ Told w' N x.s q1 c1 q3 c3 ∧ SvI x.s ∧ FT W w' C T k i now (.slice q0 ln c0) ln qq.s x.s x.rk jj))) := fun w C T k i now ln q0 c0 h j hj => by
  have := fs_get h j hj
  rw [hN] at this
  exact this
 have HFT : Hid (∀ w C T k i now ln q0 c0 s x rk jj, FT W w C T k i now (.slice q0 ln c0) ln s x rk jj → ∀ j, j < ln → ∃ (g : Nat) (c : Dd) (qd : Option Addr) (cd : Nat) (qg : Option Addr) (cg : Nat), q0 = some ⟨g, 0, none⟩ ∧ SvI c.s ∧ ((0 ≤ c.nw ∧ c.nw ≤ now) ∧ (0 ≤ c.s.tl ∧ c.s.tl < 2147483648)) ∧ SvAt W c.s qd cd qg cg ∧ (∀ i, i < 11 → w.cell? ⟨g, j * 11 + i, none⟩ = (ddC c qd cd qg cg)[i]?) ∧ (j = jj → (c.s.ty = s.ty ∧ eqF c.s.nm s.nm = true ∧ c.s.tl ≠ 0) ∧ sameS c.s x = true ∧ c.rk = rk ∧ x.tl = min c.s.tl 604800 - (now - c.nw)) ∧ (jj < j → c.s.ty = s.ty → eqF c.s.nm s.nm = true → c.s.tl ≠ 0 → c.rk < rk)) := fun w C T k i now ln q0 c0 s x rk jj h j hj => h.at j hj
 have HVB : Hid (∀ w C T k i now v ln, FS W w C T k i now v ln → Below N W w) := fun w C T k i now v ln h => by have := h.bel; rw [hN] at this; exact this
 have HSt : Hid (∀ w1 w2 C T, Below N W w1 → RCA w1 w2 C T 1000 0 0 [] → FS W w2 C T 0 0 0 (.slice none 0 0) 0) := fun w1 w2 C T hb hr => ⟨0, 0, [], [], hr.base (by rw [hN]; exact hb), DRow.nil _ _, FI.nil, Nat.le_refl _, rfl, Nat.le_refl _, by omega, by omega⟩
 have HSm : Hid (∀ w (x z : Sv), SvI x → SvI z → ∀ q1 c1 q2 c2 q3 c3 q4 c4, SvAt w x q1 c1 q2 c2 → SvAt w z q3 c3 q4 c4 → Calls Tryz.prog 22 #[.agg (svC x q1 c1 q2 c2).toArray, .agg (svC z q3 c3 q4 c4).toArray] w fun e w' => e = .returned (.bool (sameS x z)) ∧ Below w.heap.size w w') := fun w x z hx hz q1 c1 q2 c2 q3 c3 q4 c4 h5 h6 => setSame_in x z hx.sv hz.sv q1 c1 q2 c2 q3 c3 q4 c4 w h5 h6
 have HEq : Hid (∀ w s t, s.size ≤ maxLen → t.size ≤ maxLen → Calls Tryz.prog 21 #[.string s, .string t] w fun e w' => e = .returned (.bool (eqF s t)) ∧ Below w.heap.size w w') := fun w s t h1 h2 => nequal_in s t h1 h2 w
 have HWW : Hid (Below N W W ∧ W.heap.size = N) := ⟨Below.refl _ _, hN⟩
 rw [hn]
 have HNN : Hid (W.heap.size = N) := hN
 exact fresh_core W kind q cap N n HE HPk HPl HNw HD hnc HFP HFA HFG HFT HVB HSt HSm HEq HWW HNN
end
end Go.Proofs.YthionnpohcgoaaaGreatDoor.Rc
