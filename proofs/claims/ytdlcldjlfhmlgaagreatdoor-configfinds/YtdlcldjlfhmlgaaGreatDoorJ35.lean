/- Texts of this proof, joined: LfU. -/
import Derived.Deep.RegionHeld3
import Derived.Test.YtdlcldjlfhmlgaaGreatDoorJ26
import Derived.Test.YtdlcldjlfhmlgaaGreatDoorJ27
import Derived.Test.YtdlcldjlfhmlgaaGreatDoorJ34
set_option linter.unusedVariables false
set_option linter.unusedSimpArgs false
/- Layer 15: ConfigFinds' walk. -/
namespace Go.Proofs.YtdlcldjlfhmlgaaGreatDoor
open Go.RowKit
structure GS (g : Nat) (ty : TypeId) (cur : Array Value) (lo : Nat) (w0 w : World) : Prop where
 blk : ∃ c', w.heap[g]? = some (.cells c' ty (0, 0)) ∧ c'.size = cur.size ∧ ∀ k, lo ≤ k → c'[k]? = cur[k]?
 oth : ∀ b, b ≠ g → w.heap[b]? = w0.heap[b]?
 size : w.heap.size = w0.heap.size
 bel : Below g w0 w
theorem GS.first {g : Nat} {ty : TypeId} {cur : Array Value} {w : World} (h : w.heap[g]? = some (.cells cur ty (0, 0))) : GS g ty cur 0 w w := ⟨⟨cur, h, rfl, fun _ _ => rfl⟩, fun _ _ => rfl, rfl, Below.refl _ _⟩
theorem GS.drew {g : Nat} {ty : TypeId} {cur : Array Value} {lo : Nat} {w0 w : World} (h : GS g ty cur lo w0 w) : GS g ty cur lo w0 w.drew := ⟨h.blk, h.oth, h.size, h.bel.drew⟩
theorem GS.set {g : Nat} {ty : TypeId} {cur : Array Value} {lo : Nat} {w0 w : World} (h : GS g ty cur lo w0 w) {hi k : Nat} (h1 : lo ≤ hi) (h2 : k < hi) (v : Value) : GS g ty cur hi w0 (w.setCell ⟨g, k, none⟩ v) := by
 obtain ⟨c', hc, hs, ht⟩ := h.blk
 refine ⟨⟨c'.setIfInBounds k v, hset hc k v, by rw [Array.size_setIfInBounds]; exact hs, fun x hx => ?_⟩, fun b hb => ?_, by simp [h.size], h.bel.setCell (p := ⟨g, k, none⟩) (Nat.le_refl _) v⟩
 ·rw [Array.getElem?_setIfInBounds_ne (by omega)]
  exact ht x (by omega)
 ·rw [Below.heap_setCell _ _ _ _ (show b ≠ (⟨g, k, none⟩ : Addr).block from hb)]
  exact h.oth b hb
theorem GS.cell {g : Nat} {ty : TypeId} {cur : Array Value} {lo : Nat} {w0 w : World} (h : GS g ty cur lo w0 w) {k : Nat} (hk : lo ≤ k) {v : Value} (hv : cur[k]? = some v) : w.cell? ⟨g, k, none⟩ = some v := by
 obtain ⟨c', hc, _, ht⟩ := h.blk
 rw [So.cell_blk hc, ht k hk, hv]
theorem GS.any {g : Nat} {ty : TypeId} {cur : Array Value} {lo : Nat} {w0 w : World} (h : GS g ty cur lo w0 w) {k : Nat} (hk : k < cur.size) : (∃ v, w.cell? ⟨g, k, none⟩ = some v) ∧ w.frozen? ⟨g, k, none⟩ = false := by
 obtain ⟨c', hc, hs, _⟩ := h.blk
 have hk' : k < c'.size := by omega
 exact ⟨⟨c'[k], by rw [So.cell_blk hc, Array.getElem?_eq_getElem hk']⟩, frozenU hc k⟩
theorem GS.other {g : Nat} {ty : TypeId} {cur : Array Value} {lo : Nat} {w0 w : World} (h : GS g ty cur lo w0 w) {b : Nat} (hb : b ≠ g) (k : Nat) : w.cell? ⟨b, k, none⟩ = w0.cell? ⟨b, k, none⟩ := by
 unfold World.cell?
 rw [show (⟨b, k, none⟩ : Addr).block = b from rfl, h.oth b hb]
noncomputable def ancO (c : Cf) (s : ByteArray) : Option An := (bestN (c.an.map An.nm) s c.an.length).bind fun b => c.an[b]?
noncomputable def ancN (c : Cf) (s : ByteArray) : ByteArray := match ancO c s with | none => ⟨#[]⟩ | some a => a.nm
noncomputable def ancL (c : Cf) (s : ByteArray) : List An := match ancO c s with | none => [] | some a => selA c.an a.nm
noncomputable def ancB (c : Cf) (s : ByteArray) : Bool := (ancO c s).isSome
theorem anc_form {W : World} {c : Cf} {s : ByteArray} {e : Ending} {w' : World} (h : AncP W c s e w') : ∃ v, e = .returned (.tuple #[.string (ancN c s), v, .bool (ancB c s)]) ∧ w'.ownsRow W.heap.size 68 4 v (ancL c s).length (dsC (ancL c s)) ∧ Below W.heap.size W w' := by
 obtain ⟨h1 | ⟨b, hb, h1, v', he, hr⟩, hbel⟩ := h
 ·have ho : ancO c s = none := by unfold ancO; rw [h1.1]; rfl
  refine ⟨.slice none 0 0, ?_, ?_, hbel⟩
  ·rw [h1.2]; unfold ancN ancB; rw [ho]; rfl
  ·unfold ancL; rw [ho]; exact World.ownsRow_nil ..
 ·have ho : ancO c s = some c.an[b] := by unfold ancO; rw [h1]; exact List.getElem?_eq_getElem hb
  refine ⟨v', ?_, ?_, hbel⟩
  ·rw [he]; unfold ancN ancB; rw [ho]; rfl
  ·unfold ancL; rw [ho]; exact hr
theorem own_low15 {w : World} {M N : Nat} {ty : TypeId} {sz n : Nat} {v : Value} {l : List Value} (h : w.ownsRow M ty sz v n l) (hM : N ≤ M) : w.ownsRow N ty sz v n l := by
 obtain ⟨hl, h0 | ⟨g, cap, cur, hv, hg0, r⟩⟩ := h
 ·exact ⟨hl, .inl h0⟩
 ·exact ⟨hl, .inr ⟨g, cap, cur, hv, Nat.le_trans hM hg0, r⟩⟩
structure KF (N : Nat) (W : World) (k : Cq) (c : Cf) (dv : Value) (sel : List An) (w : World) : Prop where
 bel : Below N W w
 nN : N < w.heap.size
 cb : w.heap[N]? = some (.cells (cfC k c) 51 (0, 0))
 row : w.ownsRow N 68 4 dv sel.length (dsC sel)
theorem KF.blk {N : Nat} {W : World} {k : Cq} {c : Cf} {dv : Value} {sel : List An} {w w' : World} (h : KF N W k c dv sel w) (hb : Below w.heap.size w w') : KF N W k c dv sel w' :=
 ⟨h.bel.trans (hb.mono (Nat.le_of_lt h.nN)), Nat.lt_of_lt_of_le h.nN hb.size, (hb.block N h.nN).trans h.cb, own_blk h.row hb⟩
theorem KF.gs {N : Nat} {W : World} {k : Cq} {c : Cf} {dv : Value} {sel : List An} {wa w0 w : World} (ha : KF N W k c dv sel wa) (h : KF N W k c dv sel w0) {g : Nat} {ty : TypeId} {cur : Array Value} {lo : Nat} (hg : wa.heap.size ≤ g) (hs : GS g ty cur lo w0 w) : KF N W k c dv sel w := by
 have hN := ha.nN
 refine ⟨h.bel.trans (hs.bel.mono (by omega)), by rw [hs.size]; exact h.nN, (hs.oth N (by omega)).trans h.cb, own_same h.row fun b c' f hb hc => hs.oth b ?_⟩
 have := (own_lt ha.row hb).1
 omega
theorem adNe_same (v : Bool) (h l : Nat) (W : World) : (A.adNeV (.agg #[.bool v, .int .u64 (h : Int), .int .u64 (l : Int)]) (.agg #[.bool v, .int .u64 (h : Int), .int .u64 (l : Int)])).run Tryz.prog W = .ok (.bool false) W := by
 have := A.adNeV_run W v v h l h l
 have e : ∀ {x : A.Ad} (i : Decidable (x = x)), @decide _ i = true := fun i => decide_eq_true rfl
 rw [e] at this
 exact this
def dsNeV (x y : Value) : Sem Value := binOp .neq 68 x y
theorem bin_dsn (x y : Value) : binOp .neq 68 x y = dsNeV x y := rfl
set_option maxRecDepth 100000 in
theorem dsEq_same (d : Nat) (tg al kd : Int) (dg : ByteArray) (W : World) : (Op.equalIn (d + 3) 68 (.agg #[.int .i64 tg, .int .i64 al, .int .i64 kd, .string dg]) (.agg #[.int .i64 tg, .int .i64 al, .int .i64 kd, .string dg])).run Tryz.prog W = .ok true W := by
 have hu : Tryz.prog.underlying 68 = some (.struct (Tryz.prog.fieldsOf 68)) := by kernel_rfl
 have hst : Tryz.prog.stoodInHeld 68 = false := by kernel_rfl
 obtain ⟨f1, f2, f3, f4, hf, n1, n2, n3, n4, t1, t2, t3, t4, o1, o2, o3, o4⟩ : ∃ f1 f2 f3 f4 : Field, (Tryz.prog.fieldsOf 68).toList = [f1, f2, f3, f4] ∧ f1.name = "Tag" ∧ f2.name = "Alg" ∧ f3.name = "Kind" ∧ f4.name = "Digest" ∧ f1.type = 3 ∧ f2.type = 3 ∧ f3.type = 3 ∧ f4.type = 9 ∧ f1.offset = 0 ∧ f2.offset = 1 ∧ f3.offset = 2 ∧ f4.offset = 3 :=
  ⟨(Tryz.prog.fieldsOf 68)[0]!, (Tryz.prog.fieldsOf 68)[1]!, (Tryz.prog.fieldsOf 68)[2]!, (Tryz.prog.fieldsOf 68)[3]!, by kernel_rfl, by kernel_rfl, by kernel_rfl, by kernel_rfl, by kernel_rfl, by kernel_rfl, by kernel_rfl, by kernel_rfl, by kernel_rfl, by kernel_rfl, by kernel_rfl, by kernel_rfl, by kernel_rfl⟩
 replace n1 : f1.name ≠ "_" := by rw [n1]; simp
 replace n2 : f2.name ≠ "_" := by rw [n2]; simp
 replace n3 : f3.name ≠ "_" := by rw [n3]; simp
 replace n4 : f4.name ≠ "_" := by rw [n4]; simp
 have ui : Tryz.prog.underlying 3 = some (.int .i64) := by kernel_rfl
 have us : Tryz.prog.underlying 9 = some .string := by kernel_rfl
 have pi : Tryz.prog.plainKey 3 = true := by kernel_rfl
 have ps : Tryz.prog.plainKey 9 = true := by kernel_rfl
 have q0 : (part 3 #[.int .i64 tg, .int .i64 al, .int .i64 kd, .string dg] 0).run Tryz.prog W = .ok (.int .i64 tg) W := run_part_plain W pi rfl
 have q1 : (part 3 #[.int .i64 tg, .int .i64 al, .int .i64 kd, .string dg] 1).run Tryz.prog W = .ok (.int .i64 al) W := run_part_plain W pi rfl
 have q2 : (part 3 #[.int .i64 tg, .int .i64 al, .int .i64 kd, .string dg] 2).run Tryz.prog W = .ok (.int .i64 kd) W := run_part_plain W pi rfl
 have q3 : (part 9 #[.int .i64 tg, .int .i64 al, .int .i64 kd, .string dg] 3).run Tryz.prog W = .ok (.string dg) W := run_part_plain W ps rfl
 rw [run_equalIn_struct W (d + 2) _ _ _ hu hst, hf]
 rw [A.eqFields_cons n1, t1, o1, Sem.run_bind, q0, Result.andThen_ok, Sem.run_bind, q0, Result.andThen_ok, Sem.run_bind, run_equalIn_int W (d + 1) _ .i64 .i64 _ _ ui, Result.andThen_ok, beq_self_eq_true, if_neg (by simp)]
 rw [A.eqFields_cons n2, t2, o2, Sem.run_bind, q1, Result.andThen_ok, Sem.run_bind, q1, Result.andThen_ok, Sem.run_bind, run_equalIn_int W (d + 1) _ .i64 .i64 _ _ ui, Result.andThen_ok, beq_self_eq_true, if_neg (by simp)]
 rw [A.eqFields_cons n3, t3, o3, Sem.run_bind, q2, Result.andThen_ok, Sem.run_bind, q2, Result.andThen_ok, Sem.run_bind, run_equalIn_int W (d + 1) _ .i64 .i64 _ _ ui, Result.andThen_ok, beq_self_eq_true, if_neg (by simp)]
 rw [A.eqFields_cons n4, t4, o4, Sem.run_bind, q3, Result.andThen_ok, Sem.run_bind, q3, Result.andThen_ok, Sem.run_bind, run_equalIn_string W (d + 1) _ _ _ us, Result.andThen_ok, beq_self_eq_true, if_neg (by simp), Op.eqFields, Sem.run_pure]
theorem dsNe_same (tg al kd : Int) (dg : ByteArray) (W : World) : (dsNeV (.agg #[.int .i64 tg, .int .i64 al, .int .i64 kd, .string dg]) (.agg #[.int .i64 tg, .int .i64 al, .int .i64 kd, .string dg])).run Tryz.prog W = .ok (.bool false) W := by
 unfold dsNeV
 rw [run_neq_struct, dsEq_same 9997]
 rfl
section
attribute [local go_sem ↓] A.bin_adn bin_dsn
attribute [local go_sem] adNe_same dsNe_same
set_option maxRecDepth 100000 in
set_option maxHeartbeats 16000000 in
theorem finds_walk (W : World) (k : Cq) (c : Cf) (hat : CfAt W k c) (hin : CfIn c) (s : ByteArray) (hs : s.size ≤ maxLen) : Calls Tryz.prog 5 #[cfV k c, .string s] W fun e w' => e = .returned (.bool true) ∧ Below W.heap.size W w' := by
 have HE := Hid.mk examples15_in
 obtain ⟨N, hN⟩ : ∃ N, W.heap.size = N := ⟨_, rfl⟩
 have HNN := Hid.mk hN
 have HRu : Hid (∀ w, Below N W w → Calls Tryz.prog 19 #[cfV k c, .string s] w fun e w' => e = .returned (.int .i64 (plI (bestN (c.up.map Up.nm) s c.up.length))) ∧ Below w.heap.size w w') := fun w hb => rupstream_in w k c (hat.blk (by rw [hN]; exact hb)) hin s hs
 have HRa : Hid (∀ w, Below N W w → Calls Tryz.prog 20 #[cfV k c, .string s] w fun e w' => ∃ v, e = .returned (.tuple #[.string (ancN c s), v, .bool (ancB c s)]) ∧ w'.ownsRow w.heap.size 68 4 v (ancL c s).length (dsC (ancL c s)) ∧ Below w.heap.size w w') := fun w hb => (ranchor_in w k c (hat.blk (by rw [hN]; exact hb)) hin s hs).mono fun e w' h => anc_form h
 have HPu : Hid (∀ w, Below N W w → Calls Tryz.prog 21 #[cfV k c, .string s] w fun e w' => UpP w c s e w') := fun w hb => upstream_in w k c (hat.blk (by rw [hN]; exact hb)) hin s hs
 have HPa : Hid (∀ w, Below N W w → Calls Tryz.prog 22 #[cfV k c, .string s] w fun e w' => ∃ v, e = .returned (.tuple #[.string (ancN c s), v, .bool (ancB c s)]) ∧ w'.ownsRow w.heap.size 68 4 v (ancL c s).length (dsC (ancL c s)) ∧ Below w.heap.size w w') := fun w hb => (anchor_in w k c (hat.blk (by rw [hN]; exact hb)) hin s hs).mono fun e w' h => anc_form h
 have HBL : Hid (∀ i (hi : i < c.up.length), ∃ b off, k.q3 = some ⟨b, off, none⟩ ∧ ∃ (qs : Option Addr) (cs : Nat), Hid (∀ w, Below N W w → A.AdsAt w qs c.up[i].sv) ∧ Hid (∀ w, Below N W w → w.cell? ⟨b, off + i * 3, none⟩ = some (.string c.up[i].nm) ∧ w.cell? ⟨b, off + i * 3 + 1, none⟩ = some (.slice qs c.up[i].sv.length cs) ∧ w.cell? ⟨b, off + i * 3 + 2, none⟩ = some (.bool c.up[i].fw))) := by
  intro i hi
  obtain ⟨b, off, qs, cs, e, hlt, c0, c1, c2, hr, hsx⟩ := hat.up i hi
  have key : ∀ w, Below N W w → ∀ j, w.cell? ⟨b, j, none⟩ = W.cell? ⟨b, j, none⟩ := fun w hb j => by rw [← hN] at hb; exact hb.cell (p := ⟨b, j, none⟩) hlt
  exact ⟨b, off, e, qs, cs, fun w hb => by rw [← hN] at hb; exact hr.blk hb, fun w hb => ⟨(key w hb _).trans c0, (key w hb _).trans c1, (key w hb _).trans c2⟩⟩
 have HSv : Hid (∀ i (hi : i < c.up.length), c.up[i].sv.length ≤ 9223372036854775806) := fun i hi => by
  have := (hin.up _ (List.getElem_mem hi)).2.2
  omega
 have hn3 : c.up.length ≤ 9223372036854775806 := by have := hin.l3; omega
 have hd3 : (ancL c s).length ≤ 9223372036854775806 := by
  have h1 : (ancL c s).length ≤ c.an.length := by
   unfold ancL
   split
   ·simp
   ·exact selA_len _ _
  have := hin.l4
  omega
 obtain ⟨V, hV⟩ : ∃ V, W.alloc (.cells (cfC k c) 51) = V := ⟨_, rfl⟩
 have hbV : Below N W V := by rw [← hN, ← hV]; exact (Below.refl _ _).alloc (Nat.le_refl _) _
 have hxV : V.heap[N]? = some (.cells (cfC k c) 51 (0, 0)) := by rw [← hV, ← hN]; exact heap_alloc_new W _
 have hNV : N < V.heap.size := (Array.getElem?_eq_some_iff.1 hxV).1
 have HK0 : Hid (∀ w, Below V.heap.size V w → Below N W w ∧ CBx w N k c ∧ N < w.heap.size ∧ w.heap[N]? = some (.cells (cfC k c) 51 (0, 0))) := fun w hb => by
  have h1 := (hb.block N hNV).trans hxV
  exact ⟨hbV.trans (hb.mono (Nat.le_of_lt hNV)), cbx_of h1, Nat.lt_of_lt_of_le hNV hb.size, h1⟩
 have HV := Hid.mk hV
 obtain ⟨o, ho⟩ : ∃ o, bestN (c.up.map Up.nm) s c.up.length = o := ⟨_, rfl⟩
 have HO := Hid.mk ho
 rw [ho] at HRu
 obtain ⟨an, han⟩ : ∃ x, ancN c s = x := ⟨_, rfl⟩
 obtain ⟨ab, hab⟩ : ∃ x, ancB c s = x := ⟨_, rfl⟩
 obtain ⟨sel, hsel⟩ : ∃ x, ancL c s = x := ⟨_, rfl⟩
 rw [han, hab, hsel] at HRa HPa
 rw [hsel] at hd3
 obtain ⟨m, hm⟩ : ∃ m, sel.length = m := ⟨_, rfl⟩
 have HM := Hid.mk hm
 rw [hm] at hd3
 have HKC : Hid (∀ (dv : Value) w, KF N W k c dv sel w → CBx w N k c) := fun dv w h => cbx_of h.cb
 obtain ⟨k0, hk0⟩ : ∃ k0, k = k0 := ⟨_, rfl⟩
 have hkk := hk0
 obtain ⟨q0, c0, q1, c1, q2, c2, q3, c3, q4, c4⟩ := k
 simp only [cfV, cfC] at HRu HRa HPu HPa HV ⊢
 simp only [CBx] at HK0 HKC
 simp only at HBL
 rw [hN]
 have HK1 : Hid (∀ w, Below V.heap.size V w → Below N W w ∧ (w.cell? ⟨N, 0, none⟩ = some (.slice q0 c.rt.length c0) ∧ w.cell? ⟨N, 1, none⟩ = some (.slice q1 c.ru.length c1) ∧ w.cell? ⟨N, 2, none⟩ = some (.slice q2 c.lc.length c2) ∧ w.cell? ⟨N, 3, none⟩ = some (.slice q3 c.up.length c3) ∧ w.cell? ⟨N, 4, none⟩ = some (.slice q4 c.an.length c4) ∧ w.cell? ⟨N, 5, none⟩ = some (.int .i64 c.n0) ∧ w.cell? ⟨N, 6, none⟩ = some (.int .i64 c.n1) ∧ w.cell? ⟨N, 7, none⟩ = some (.int .i64 c.n2) ∧ w.cell? ⟨N, 8, none⟩ = some (.int .i64 c.n3)) ∧ N < w.heap.size ∧ w.heap[N]? = some (.cells (cfC k0 c) 51 (0, 0))) := fun w hb => by subst hk0; exact HK0.out w hb
 have HKD : Hid (∀ (dv : Value) w, KF N W k0 c dv sel w → (w.cell? ⟨N, 0, none⟩ = some (.slice q0 c.rt.length c0) ∧ w.cell? ⟨N, 1, none⟩ = some (.slice q1 c.ru.length c1) ∧ w.cell? ⟨N, 2, none⟩ = some (.slice q2 c.lc.length c2) ∧ w.cell? ⟨N, 3, none⟩ = some (.slice q3 c.up.length c3) ∧ w.cell? ⟨N, 4, none⟩ = some (.slice q4 c.an.length c4) ∧ w.cell? ⟨N, 5, none⟩ = some (.int .i64 c.n0) ∧ w.cell? ⟨N, 6, none⟩ = some (.int .i64 c.n1) ∧ w.cell? ⟨N, 7, none⟩ = some (.int .i64 c.n2) ∧ w.cell? ⟨N, 8, none⟩ = some (.int .i64 c.n3))) := fun dv w h => by subst hk0; exact HKC.out dv w h
 clear hat hin hV hbV hxV hNV ho han hab hsel hm HK0 HKC hk0 hkk
 go_enter Tryz.func5, Tryz.ntmps5
 go_upto_region 1 with fail
 rw [HV.out]
 clear hN
 go_wp2_with fail
 refine (HE.out _).mono ?_
 rintro e w1 ⟨rfl, hb1⟩
 have HB1 := Hid.mk hb1
 obtain ⟨k1, ⟨x0, x1, x2, x3, x4, x5, x6, x7, x8⟩, _⟩ := HK1.out _ hb1
 have HC1 := Hid.mk (HRu.out _ k1)
 clear hb1 k1
 go_wp2_with fail
 refine HC1.out.mono ?_
 rintro e w2 ⟨rfl, hb2⟩
 clear x0 x1 x2 x3 x4 x5 x6 x7 x8
 have HB2 := Hid.mk (HB1.out.trans (hb2.mono HB1.out.size))
 obtain ⟨k1, ⟨x0, x1, x2, x3, x4, x5, x6, x7, x8⟩, hn2, _⟩ := HK1.out _ HB2.out
 have HC2 := Hid.mk (HRa.out _ k1)
 clear hb2 k1
 go_wp2_with fail
 refine HC2.out.mono ?_
 rintro e w3 ⟨dv, rfl, hrow, hb3⟩
 clear x0 x1 x2 x3 x4 x5 x6 x7 x8
 have HB3 := Hid.mk (HB2.out.trans (hb3.mono HB2.out.size))
 obtain ⟨k1, _, hn3', hbx⟩ := HK1.out _ HB3.out
 have HK3 : Hid (KF N W k0 c dv sel w3) := ⟨k1, hn3', hbx, own_low15 hrow (Nat.le_of_lt hn2)⟩
 obtain ⟨qd, cd, hdv⟩ := own_form hrow
 rw [HM.out] at hdv
 subst hdv
 clear hb3 k1 hn3' hbx hrow hn2
 go_wp2
 go_loopw [10] (fun tv wr => ∃ (t : Nat) (u : World), u = wr ∧ t ≤ 2 ∧ tv = .int .i64 (t : Int) ∧ Hid (KF N W k0 c (.slice qd m cd) sel u)) (fun tv _ => 2 - (intOf tv).toNat)
 case atStart => exact ⟨0, _, rfl, by omega, rfl, HK3.out⟩
 case round =>
  obtain ⟨t, u, rfl, ht, rfl, HKu⟩ := hrel
  by_cases hlt : t < 2
  ·have htz : (t : Int) < 2 := by omega
   have wt : IntKind.i64.wrap ((t : Int) + 1) = ((t + 1 : Nat) : Int) := by rw [IntKind.wrap_i64]; omega
   obtain ⟨x0, x1, x2, x3, x4, x5, x6, x7, x8⟩ := HKD.out _ _ HKu.out
   have HC3 := Hid.mk (HPu.out _ HKu.out.bel)
   go_wp2_with fail
   refine HC3.out.mono ?_
   rintro e w4 ⟨⟨h1, rfl⟩ | ⟨b, hb, h1, v', rfl, hown⟩, hb4⟩
   ·obtain rfl : o = none := HO.out.symm.trans h1
    have HK4 := Hid.mk (HKu.out.blk hb4)
    have HK5 : Hid (KF N W k0 c (.slice qd m cd) sel (w4.alloc (.cells #[.string ⟨#[]⟩, .slice none 0 0, .bool false] 61))) := HK4.out.blk ((Below.refl _ _).alloc (Nat.le_refl _) _)
    have e1 : plI none = -1 := rfl
    rw [e1]
    clear h1 hb4 x0 x1 x2 x3 x4 x5 x6 x7 x8
    go_upto_region 20 with fail
    generalize w4.alloc (.cells #[.string ⟨#[]⟩, .slice none 0 0, .bool false] 61) = w5 at HK5 ⊢
    obtain ⟨x0, x1, x2, x3, x4, x5, x6, x7, x8⟩ := HKD.out _ _ HK5.out
    have HC4 := Hid.mk (HPa.out _ HK5.out.bel)
    go_wp2_with fail
    refine HC4.out.mono ?_
    rintro e w6 ⟨lv, rfl, hrl, hb6⟩
    clear x0 x1 x2 x3 x4 x5 x6 x7 x8
    have HKl := Hid.mk (HK5.out.blk hb6)
    obtain ⟨ql, cl, hlv⟩ := own_form hrl
    rw [HM.out] at hlv
    subst hlv
    have HRl : Hid (w6.ownsRow w5.heap.size 68 4 (.slice ql m cl) m (dsC sel)) := by rw [HM.out] at hrl; exact hrl
    clear hb6 hrl
    by_cases hm0 : 0 < m
    case neg =>
     obtain rfl : m = 0 := by omega
     go_upto_region 24 with fail
     go_loopw [18] (fun iv wr => ∃ (u3 : World), u3 = wr ∧ iv = .int .i64 0 ∧ Hid (KF N W k0 c (.slice qd 0 cd) sel u3)) (fun _ _ => 0)
     case atStart => exact ⟨_, rfl, rfl, HKl.out⟩
     case round =>
      obtain ⟨u3, rfl, rfl, HK3⟩ := hrel
      go_wp2
      go_roundw
      case rel =>
       (repeat apply Exists.intro)
       refine ⟨?rl, ?fr⟩
       case fr => exact rfl
       case rl => exact ⟨t + 1, _, rfl, by omega, by first | rfl | go_num, HK3.out⟩
      case measure => simp [intOf]; omega
    case pos =>
     obtain ⟨hal, ⟨hv0, h0⟩ | ⟨gl, capl, curl, hv0, hgl0, hgl, hncl, hcml, hcsl, htl⟩⟩ := HRl.out
     ·omega
     cases hv0
     have hrw := HKl.out.row
     rw [HM.out] at hrw
     obtain ⟨_, ⟨hv1, h1'⟩ | ⟨gd, capd, curd, hv1, hgd0, hgd, _, _, _, _⟩⟩ := hrw
     ·omega
     cases hv1
     have hdl : gd < w5.heap.size := (own_lt HK5.out.row (b := gd) rfl).1
     have HGS0 : Hid (GS gl 68 curl (0 * 4) w6 w6) := GS.first hgl
     have HCu : Hid (∀ i, i < m → ∃ (tg al kd : Int) (dg : ByteArray), Hid (∃ hi : i < sel.length, dsL sel[i] = [.int .i64 tg, .int .i64 al, .int .i64 kd, .string dg]) ∧ curl[i * 4]? = some (.int .i64 tg) ∧ curl[i * 4 + 1]? = some (.int .i64 al) ∧ curl[i * 4 + 2]? = some (.int .i64 kd) ∧ curl[i * 4 + 3]? = some (.string dg)) := fun i hi => by
      have hi' : i < sel.length := by rw [HM.out]; exact hi
      have key : ∀ x, x < 4 → curl[i * 4 + x]? = (dsL sel[i])[x]? := fun x hx => by
       have e := dsC_at sel i hi' x hx
       rw [← htl, List.getElem?_take, if_pos (by have : (i + 1) * 4 ≤ m * 4 := Nat.mul_le_mul_right _ hi; omega)] at e
       rw [← e]; simp
      exact ⟨sel[i].tg, sel[i].al, sel[i].kd, sel[i].dg, ⟨hi', rfl⟩, key 0 (by omega), key 1 (by omega), key 2 (by omega), key 3 (by omega)⟩
     clear hal hgl htl hcsl hcml hncl hgd hgd0
     go_upto_region 24 with fail
     go_loopw [18] (fun iv wr => ∃ (i : Nat) (u3 : World), u3 = wr ∧ i ≤ m ∧ iv = .int .i64 (i : Int) ∧ Hid (GS gl 68 curl (i * 4) w6 u3)) (fun iv _ => m - (intOf iv).toNat)
     case atStart => exact ⟨0, _, rfl, Nat.zero_le _, rfl, HGS0.out⟩
     case round =>
      obtain ⟨i, u3, rfl, hi, rfl, HG⟩ := hrel
      have HKc := Hid.mk (HK5.out.gs HKl.out hgl0 HG.out)
      by_cases hlti : i < m
      ·have hiz : (i : Int) < (m : Int) := by omega
       have hiz0 : (0 : Int) ≤ (i : Int) := by omega
       have wi : IntKind.i64.wrap ((i : Int) + 1) = ((i + 1 : Nat) : Int) := by rw [IntKind.wrap_i64]; omega
       obtain ⟨tg, al, kd, dg, HSi, k0', k1', k2', k3'⟩ := HCu.out i hlti
       obtain ⟨hiS, eS⟩ := HSi.out
       have hrd : u3.ownsRow N 68 4 (.slice (some ⟨gd, 0, none⟩) m cd) m (dsC sel) := by have := HKc.out.row; rw [HM.out] at this; exact this
       have kd4 : ∀ x, x < 4 → u3.cell? ⟨gd, i * 4 + x, none⟩ = (dsL sel[i])[x]? := fun x hx => by
        rw [World.ownsRow.cellAt hrd (i * 4 + x) (by have : (i + 1) * 4 ≤ m * 4 := Nat.mul_le_mul_right _ hlti; omega)]
        exact dsC_at sel i hiS x hx
       rw [eS] at kd4
       have a0 := kd4 0 (by omega)
       have a1 := kd4 1 (by omega)
       have a2 := kd4 2 (by omega)
       have a3 := kd4 3 (by omega)
       have y0 := HG.out.cell (Nat.le_refl _) k0'
       have y1 := HG.out.cell (by omega) k1'
       have y2 := HG.out.cell (by omega) k2'
       have y3 := HG.out.cell (by omega) k3'
       have hbS : i * 4 + 3 < curl.size := (Array.getElem?_eq_some_iff.1 k3').1
       have f0 := (HG.out.drew.any (k := i * 4) (by omega)).2
       have f1 := (HG.out.drew.any (k := i * 4 + 1) (by omega)).2
       have f2 := (HG.out.drew.any (k := i * 4 + 2) (by omega)).2
       have f3 := (HG.out.drew.any (k := i * 4 + 3) (by omega)).2
       have HS2 : Hid ((fun w' : World => w'.cell? ⟨gl, i * 4, none⟩ = some (.int .i64 tg) ∧ w'.cell? ⟨gl, i * 4 + 1, none⟩ = some (.int .i64 al) ∧ w'.cell? ⟨gl, i * 4 + 2, none⟩ = some (.int .i64 kd) ∧ w'.cell? ⟨gl, i * 4 + 3, none⟩ = some (.string dg) ∧ w'.cell? ⟨gd, i * 4, none⟩ = some (.int .i64 tg) ∧ w'.cell? ⟨gd, i * 4 + 1, none⟩ = some (.int .i64 al) ∧ w'.cell? ⟨gd, i * 4 + 2, none⟩ = some (.int .i64 kd) ∧ w'.cell? ⟨gd, i * 4 + 3, none⟩ = some (.string dg)) u3.drew) := ⟨y0, y1, y2, y3, a0, a1, a2, a3⟩
       have HS3 : Hid (u3.drew.cell? ⟨gl, i * 4, none⟩ = some (.int .i64 tg) ∧ u3.drew.cell? ⟨gl, i * 4 + 1, none⟩ = some (.int .i64 al) ∧ u3.drew.cell? ⟨gl, i * 4 + 2, none⟩ = some (.int .i64 kd) ∧ u3.drew.cell? ⟨gl, i * 4 + 3, none⟩ = some (.string dg)) := ⟨y0, y1, y2, y3⟩
       have HE3 : Hid (∀ v0 v1 v2 v3, GS gl 68 curl ((i + 1) * 4) w6 ((((u3.setCell ⟨gl, i * 4, none⟩ v0).setCell ⟨gl, i * 4 + 1, none⟩ v1).setCell ⟨gl, i * 4 + 2, none⟩ v2).setCell ⟨gl, i * 4 + 3, none⟩ v3).drew) := fun v0 v1 v2 v3 => ((((HG.out.set (hi := (i + 1) * 4) (by omega) (by omega) _).set (Nat.le_refl _) (by omega) _).set (Nat.le_refl _) (by omega) _).set (Nat.le_refl _) (by omega) _).drew
       clear k0' k1' k2' k3' hiS eS hrd kd4 a0 a1 a2 a3 y0 y1 y2 y3
       go_upto_region 26 with fail
       refine wp_region_held_drew (S := (fun w' : World => w'.cell? ⟨gl, i * 4, none⟩ = some (.int .i64 tg) ∧ w'.cell? ⟨gl, i * 4 + 1, none⟩ = some (.int .i64 al) ∧ w'.cell? ⟨gl, i * 4 + 2, none⟩ = some (.int .i64 kd) ∧ w'.cell? ⟨gl, i * 4 + 3, none⟩ = some (.string dg) ∧ w'.cell? ⟨gd, i * 4, none⟩ = some (.int .i64 tg) ∧ w'.cell? ⟨gd, i * 4 + 1, none⟩ = some (.int .i64 al) ∧ w'.cell? ⟨gd, i * 4 + 2, none⟩ = some (.int .i64 kd) ∧ w'.cell? ⟨gd, i * 4 + 3, none⟩ = some (.string dg))) (by kernel_rfl) HS2.out (fun hHeld => ?_)
       refine wU (i := 0) (v := ?vp_0) rfl ?yp_0 (by assumption) ?_
       case yp_0 => (intro w hSw; (try dsimp only at hSw); go_simp; try with_reducible rfl)
       refine wU (i := 1) (v := ?vp_1) rfl ?yp_1 (by assumption) ?_
       case yp_1 => (intro w hSw; (try dsimp only at hSw); go_simp; try with_reducible rfl)
       refine wU (i := 2) (v := ?vp_2) rfl ?yp_2 (by assumption) ?_
       case yp_2 => (intro w hSw; (try dsimp only at hSw); go_simp; try with_reducible rfl)
       refine wU (i := 3) (v := ?vp_3) rfl ?yp_3 (by assumption) ?_
       case yp_3 => (intro w hSw; (try dsimp only at hSw); go_simp; try with_reducible rfl)
       refine wU (i := 4) (v := ?vp_4) rfl ?yp_4 (by assumption) ?_
       case yp_4 => (intro w hSw; (try dsimp only at hSw); go_simp; try with_reducible rfl)
       refine wU (i := 5) (v := ?vp_5) rfl ?yp_5 (by assumption) ?_
       case yp_5 => (intro w hSw; (try dsimp only at hSw); go_simp; try with_reducible rfl)
       refine wU (i := 6) (v := ?vp_6) rfl ?yp_6 (by assumption) ?_
       case yp_6 => (intro w hSw; (try dsimp only at hSw); go_simp; try with_reducible rfl)
       refine wU (i := 7) (v := ?vp_7) rfl ?yp_7 (by assumption) ?_
       case yp_7 => (intro w hSw; (try dsimp only at hSw); go_simp; try with_reducible rfl)
       refine wU (i := 8) (v := ?vp_8) rfl ?yp_8 (by assumption) ?_
       case yp_8 => (intro w hSw; (try dsimp only at hSw); go_simp; try with_reducible rfl)
       try simp only [Act.put, List.getElem_toArray, List.getElem_cons_succ, List.getElem_cons_zero, List.setIfInBounds_toArray, List.set_cons_zero, List.set_cons_succ]
       refine wpAnyH_done (by kernel_rfl) ?_ _
       clear hHeld
       obtain ⟨y0, y1, y2, y3⟩ := HS3.out
       have z0 : u3.cell? ⟨gl, i * 4, none⟩ = some (.int .i64 tg) := y0
       have z1 : u3.cell? ⟨gl, i * 4 + 1, none⟩ = some (.int .i64 al) := y1
       have z2 : u3.cell? ⟨gl, i * 4 + 2, none⟩ = some (.int .i64 kd) := y2
       have z3 : u3.cell? ⟨gl, i * 4 + 3, none⟩ = some (.string dg) := y3
       have e0 := (HG.out.any (k := i * 4) (by omega)).2
       have e1 := (HG.out.any (k := i * 4 + 1) (by omega)).2
       have e2 := (HG.out.any (k := i * 4 + 2) (by omega)).2
       have e3 := (HG.out.any (k := i * 4 + 3) (by omega)).2
       go_wp2
       refine ⟨⟨i + 1, _, rfl, by omega, by first | rfl | go_num, HE3.out _ _ _ _⟩, by simp [intOf]; omega⟩
      ·have hiz : ¬ (i : Int) < (m : Int) := by omega
       go_wp2
       go_roundw
       case rel =>
        (repeat apply Exists.intro)
        refine ⟨?rl, ?fr⟩
        case fr => exact rfl
        case rl => exact ⟨t + 1, _, rfl, by omega, by first | rfl | go_num, HKc.out⟩
       case measure => simp [intOf]; omega
   ·obtain rfl : o = some b := HO.out.symm.trans h1
    have e1 : plI (some b) = (b : Int) := rfl
    rw [e1]
    have hbz0 : (0 : Int) ≤ (b : Int) := by omega
    have hbz1 : (b : Int) < (c.up.length : Int) := by omega
    obtain ⟨bb, off, rfl, qs, cs, HAd, HCl⟩ := HBL.out b hb
    have hsv := HSv.out b hb
    obtain ⟨⟨nm0, sv, fw⟩, hup⟩ : ∃ x, c.up[b] = x := ⟨_, rfl⟩
    rw [hup] at HAd HCl hown hsv
    rw [hup]
    (try simp only at HAd HCl hown hsv)
    (try simp only)
    obtain ⟨q5, c5, rfl⟩ := own_form hown
    have HKu4 := Hid.mk HKu.out
    have HK4 := Hid.mk (HKu.out.blk hb4)
    obtain ⟨n, hn⟩ : ∃ n, sv.length = n := ⟨_, rfl⟩
    have HNs := Hid.mk hn
    rw [hn] at HCl hown hsv
    rw [hn]
    obtain ⟨V5, hV5⟩ : ∃ V5, w4.alloc (.cells #[.string nm0, .slice q5 n c5, .bool fw] 61) = V5 := ⟨_, rfl⟩
    have X5 : Bx w4 w4.heap.size [.string nm0, .slice q5 n c5, .bool fw] 61 V5 := hV5 ▸ Bx.new w4 _ _
    obtain ⟨B5, hB5⟩ : ∃ B5, w4.heap.size = B5 := ⟨_, rfl⟩
    have HV5 := Hid.mk hV5
    have HB5 := Hid.mk hB5
    rw [hB5] at X5
    have HK5 := Hid.mk (HK4.out.blk X5.bel)
    obtain ⟨d0, d1, d2⟩ := HCl.out _ HK5.out.bel
    have y3 := (HKD.out _ _ HK5.out).2.2.2.1
    obtain ⟨V6, hV6⟩ : ∃ V6, V5.alloc (.cells #[.string nm0, .slice qs n cs, .bool fw] 61) = V6 := ⟨_, rfl⟩
    have X6 : Bx V5 V5.heap.size [.string nm0, .slice qs n cs, .bool fw] 61 V6 := hV6 ▸ Bx.new V5 _ _
    obtain ⟨B6, hB6⟩ : ∃ B6, V5.heap.size = B6 := ⟨_, rfl⟩
    have HV6 := Hid.mk hV6
    have HB6 := Hid.mk hB6
    rw [hB6] at X6
    have X56 := X5.blk X6.bel
    have z0 := X56.cell 0 _ rfl
    have z1 := X56.cell 1 _ rfl
    have z2 := X56.cell 2 _ rfl
    have z3 := X6.cell 0 _ rfl
    have z4 := X6.cell 1 _ rfl
    have z5 := X6.cell 2 _ rfl
    have HK6 := Hid.mk (HK5.out.blk X6.bel)
    have HX56 := Hid.mk X56
    have HX6 := Hid.mk X6
    have hg5 : ∀ a, (Value.slice q5 n c5).ownBlock = some a → w4.heap.size ≤ a ∨ True := fun a _ => .inr trivial
    have HOw : Hid (w4.ownsRow u.heap.size 66 3 (.slice q5 n c5) n (adsC sv)) := hown
    have Hb4 := Hid.mk hb4
    clear h1 hb4 x0 x1 x2 x3 x4 x5 x6 x7 x8 hV5 hB5 X5 hV6 hB6 X6 X56 hown hup hn hg5
    go_upto_region 11 with fail
    rw [HV5.out, HB5.out]
    go_upto_region 12 with fail
    rw [HV6.out, HB6.out]
    clear d0 d1 d2 y3
    by_cases hn0 : 0 < n
    case neg =>
     obtain rfl : n = 0 := by omega
     go_upto_region 15 with fail
     clear z0 z1 z2 z3 z4 z5
     go_loopw [14] (fun iv wr => ∃ (u2 : World), u2 = wr ∧ iv = .int .i64 0 ∧ Hid (u2 = V6)) (fun _ _ => 0)
     case atStart => exact ⟨_, rfl, rfl, rfl⟩
     case round =>
      obtain ⟨u2, rfl, rfl, HE2⟩ := hrel
      have hv6 := HE2.out
      subst hv6
      have z1 := HX56.out.cell 1 _ rfl
      go_upto_region 20 with fail
      obtain ⟨x0, x1, x2, x3, x4, x5, x6, x7, x8⟩ := HKD.out _ _ HK6.out
      have HC4 := Hid.mk (HPa.out _ HK6.out.bel)
      go_wp2_with fail
      refine HC4.out.mono ?_
      rintro e w6 ⟨lv, rfl, hrl, hb6⟩
      clear x0 x1 x2 x3 x4 x5 x6 x7 x8
      have HKl := Hid.mk (HK6.out.blk hb6)
      obtain ⟨ql, cl, hlv⟩ := own_form hrl
      rw [HM.out] at hlv
      subst hlv
      have HRl : Hid (w6.ownsRow u2.heap.size 68 4 (.slice ql m cl) m (dsC sel)) := by rw [HM.out] at hrl; exact hrl
      clear hb6 hrl
      by_cases hm0 : 0 < m
      case neg =>
       obtain rfl : m = 0 := by omega
       go_upto_region 24 with fail
       go_loopw [18] (fun iv wr => ∃ (u3 : World), u3 = wr ∧ iv = .int .i64 0 ∧ Hid (KF N W k0 c (.slice qd 0 cd) sel u3)) (fun _ _ => 0)
       case atStart => exact ⟨_, rfl, rfl, HKl.out⟩
       case round =>
        obtain ⟨u3, rfl, rfl, HK3⟩ := hrel
        go_wp2
        go_roundw
        case rel =>
         (repeat apply Exists.intro)
         refine ⟨?rl, ?fr⟩
         case fr => exact rfl
         case rl => exact ⟨t + 1, _, rfl, by omega, by first | rfl | go_num, HK3.out⟩
        case measure => simp [intOf]; omega
      case pos =>
       obtain ⟨hal, ⟨hv0, h0⟩ | ⟨gl, capl, curl, hv0, hgl0, hgl, hncl, hcml, hcsl, htl⟩⟩ := HRl.out
       ·omega
       cases hv0
       have hrw := HKl.out.row
       rw [HM.out] at hrw
       obtain ⟨_, ⟨hv1, h1'⟩ | ⟨gd, capd, curd, hv1, hgd0, hgd, _, _, _, _⟩⟩ := hrw
       ·omega
       cases hv1
       have hdl : gd < u2.heap.size := (own_lt HK6.out.row (b := gd) rfl).1
       have HGS0 : Hid (GS gl 68 curl (0 * 4) w6 w6) := GS.first hgl
       have HCu : Hid (∀ i, i < m → ∃ (tg al kd : Int) (dg : ByteArray), Hid (∃ hi : i < sel.length, dsL sel[i] = [.int .i64 tg, .int .i64 al, .int .i64 kd, .string dg]) ∧ curl[i * 4]? = some (.int .i64 tg) ∧ curl[i * 4 + 1]? = some (.int .i64 al) ∧ curl[i * 4 + 2]? = some (.int .i64 kd) ∧ curl[i * 4 + 3]? = some (.string dg)) := fun i hi => by
        have hi' : i < sel.length := by rw [HM.out]; exact hi
        have key : ∀ x, x < 4 → curl[i * 4 + x]? = (dsL sel[i])[x]? := fun x hx => by
         have e := dsC_at sel i hi' x hx
         rw [← htl, List.getElem?_take, if_pos (by have : (i + 1) * 4 ≤ m * 4 := Nat.mul_le_mul_right _ hi; omega)] at e
         rw [← e]; simp
        exact ⟨sel[i].tg, sel[i].al, sel[i].kd, sel[i].dg, ⟨hi', rfl⟩, key 0 (by omega), key 1 (by omega), key 2 (by omega), key 3 (by omega)⟩
       clear hal hgl htl hcsl hcml hncl hgd hgd0
       go_upto_region 24 with fail
       go_loopw [18] (fun iv wr => ∃ (i : Nat) (u3 : World), u3 = wr ∧ i ≤ m ∧ iv = .int .i64 (i : Int) ∧ Hid (GS gl 68 curl (i * 4) w6 u3)) (fun iv _ => m - (intOf iv).toNat)
       case atStart => exact ⟨0, _, rfl, Nat.zero_le _, rfl, HGS0.out⟩
       case round =>
        obtain ⟨i, u3, rfl, hi, rfl, HG⟩ := hrel
        have HKc := Hid.mk (HK6.out.gs HKl.out hgl0 HG.out)
        by_cases hlti : i < m
        ·have hiz : (i : Int) < (m : Int) := by omega
         have hiz0 : (0 : Int) ≤ (i : Int) := by omega
         have wi : IntKind.i64.wrap ((i : Int) + 1) = ((i + 1 : Nat) : Int) := by rw [IntKind.wrap_i64]; omega
         obtain ⟨tg, al, kd, dg, HSi, k0', k1', k2', k3'⟩ := HCu.out i hlti
         obtain ⟨hiS, eS⟩ := HSi.out
         have hrd : u3.ownsRow N 68 4 (.slice (some ⟨gd, 0, none⟩) m cd) m (dsC sel) := by have := HKc.out.row; rw [HM.out] at this; exact this
         have kd4 : ∀ x, x < 4 → u3.cell? ⟨gd, i * 4 + x, none⟩ = (dsL sel[i])[x]? := fun x hx => by
          rw [World.ownsRow.cellAt hrd (i * 4 + x) (by have : (i + 1) * 4 ≤ m * 4 := Nat.mul_le_mul_right _ hlti; omega)]
          exact dsC_at sel i hiS x hx
         rw [eS] at kd4
         have a0 := kd4 0 (by omega)
         have a1 := kd4 1 (by omega)
         have a2 := kd4 2 (by omega)
         have a3 := kd4 3 (by omega)
         have y0 := HG.out.cell (Nat.le_refl _) k0'
         have y1 := HG.out.cell (by omega) k1'
         have y2 := HG.out.cell (by omega) k2'
         have y3 := HG.out.cell (by omega) k3'
         have hbS : i * 4 + 3 < curl.size := (Array.getElem?_eq_some_iff.1 k3').1
         have f0 := (HG.out.drew.any (k := i * 4) (by omega)).2
         have f1 := (HG.out.drew.any (k := i * 4 + 1) (by omega)).2
         have f2 := (HG.out.drew.any (k := i * 4 + 2) (by omega)).2
         have f3 := (HG.out.drew.any (k := i * 4 + 3) (by omega)).2
         have HS2 : Hid ((fun w' : World => w'.cell? ⟨gl, i * 4, none⟩ = some (.int .i64 tg) ∧ w'.cell? ⟨gl, i * 4 + 1, none⟩ = some (.int .i64 al) ∧ w'.cell? ⟨gl, i * 4 + 2, none⟩ = some (.int .i64 kd) ∧ w'.cell? ⟨gl, i * 4 + 3, none⟩ = some (.string dg) ∧ w'.cell? ⟨gd, i * 4, none⟩ = some (.int .i64 tg) ∧ w'.cell? ⟨gd, i * 4 + 1, none⟩ = some (.int .i64 al) ∧ w'.cell? ⟨gd, i * 4 + 2, none⟩ = some (.int .i64 kd) ∧ w'.cell? ⟨gd, i * 4 + 3, none⟩ = some (.string dg)) u3.drew) := ⟨y0, y1, y2, y3, a0, a1, a2, a3⟩
         have HS3 : Hid (u3.drew.cell? ⟨gl, i * 4, none⟩ = some (.int .i64 tg) ∧ u3.drew.cell? ⟨gl, i * 4 + 1, none⟩ = some (.int .i64 al) ∧ u3.drew.cell? ⟨gl, i * 4 + 2, none⟩ = some (.int .i64 kd) ∧ u3.drew.cell? ⟨gl, i * 4 + 3, none⟩ = some (.string dg)) := ⟨y0, y1, y2, y3⟩
         have HE3 : Hid (∀ v0 v1 v2 v3, GS gl 68 curl ((i + 1) * 4) w6 ((((u3.setCell ⟨gl, i * 4, none⟩ v0).setCell ⟨gl, i * 4 + 1, none⟩ v1).setCell ⟨gl, i * 4 + 2, none⟩ v2).setCell ⟨gl, i * 4 + 3, none⟩ v3).drew) := fun v0 v1 v2 v3 => ((((HG.out.set (hi := (i + 1) * 4) (by omega) (by omega) _).set (Nat.le_refl _) (by omega) _).set (Nat.le_refl _) (by omega) _).set (Nat.le_refl _) (by omega) _).drew
         clear k0' k1' k2' k3' hiS eS hrd kd4 a0 a1 a2 a3 y0 y1 y2 y3
         go_upto_region 26 with fail
         refine wp_region_held_drew (S := (fun w' : World => w'.cell? ⟨gl, i * 4, none⟩ = some (.int .i64 tg) ∧ w'.cell? ⟨gl, i * 4 + 1, none⟩ = some (.int .i64 al) ∧ w'.cell? ⟨gl, i * 4 + 2, none⟩ = some (.int .i64 kd) ∧ w'.cell? ⟨gl, i * 4 + 3, none⟩ = some (.string dg) ∧ w'.cell? ⟨gd, i * 4, none⟩ = some (.int .i64 tg) ∧ w'.cell? ⟨gd, i * 4 + 1, none⟩ = some (.int .i64 al) ∧ w'.cell? ⟨gd, i * 4 + 2, none⟩ = some (.int .i64 kd) ∧ w'.cell? ⟨gd, i * 4 + 3, none⟩ = some (.string dg))) (by kernel_rfl) HS2.out (fun hHeld => ?_)
         refine wU (i := 0) (v := ?vq_0) rfl ?yq_0 (by assumption) ?_
         case yq_0 => (intro w hSw; (try dsimp only at hSw); go_simp; try with_reducible rfl)
         refine wU (i := 1) (v := ?vq_1) rfl ?yq_1 (by assumption) ?_
         case yq_1 => (intro w hSw; (try dsimp only at hSw); go_simp; try with_reducible rfl)
         refine wU (i := 2) (v := ?vq_2) rfl ?yq_2 (by assumption) ?_
         case yq_2 => (intro w hSw; (try dsimp only at hSw); go_simp; try with_reducible rfl)
         refine wU (i := 3) (v := ?vq_3) rfl ?yq_3 (by assumption) ?_
         case yq_3 => (intro w hSw; (try dsimp only at hSw); go_simp; try with_reducible rfl)
         refine wU (i := 4) (v := ?vq_4) rfl ?yq_4 (by assumption) ?_
         case yq_4 => (intro w hSw; (try dsimp only at hSw); go_simp; try with_reducible rfl)
         refine wU (i := 5) (v := ?vq_5) rfl ?yq_5 (by assumption) ?_
         case yq_5 => (intro w hSw; (try dsimp only at hSw); go_simp; try with_reducible rfl)
         refine wU (i := 6) (v := ?vq_6) rfl ?yq_6 (by assumption) ?_
         case yq_6 => (intro w hSw; (try dsimp only at hSw); go_simp; try with_reducible rfl)
         refine wU (i := 7) (v := ?vq_7) rfl ?yq_7 (by assumption) ?_
         case yq_7 => (intro w hSw; (try dsimp only at hSw); go_simp; try with_reducible rfl)
         refine wU (i := 8) (v := ?vq_8) rfl ?yq_8 (by assumption) ?_
         case yq_8 => (intro w hSw; (try dsimp only at hSw); go_simp; try with_reducible rfl)
         try simp only [Act.put, List.getElem_toArray, List.getElem_cons_succ, List.getElem_cons_zero, List.setIfInBounds_toArray, List.set_cons_zero, List.set_cons_succ]
         refine wpAnyH_done (by kernel_rfl) ?_ _
         clear hHeld
         obtain ⟨y0, y1, y2, y3⟩ := HS3.out
         have z0 : u3.cell? ⟨gl, i * 4, none⟩ = some (.int .i64 tg) := y0
         have z1 : u3.cell? ⟨gl, i * 4 + 1, none⟩ = some (.int .i64 al) := y1
         have z2 : u3.cell? ⟨gl, i * 4 + 2, none⟩ = some (.int .i64 kd) := y2
         have z3 : u3.cell? ⟨gl, i * 4 + 3, none⟩ = some (.string dg) := y3
         have e0 := (HG.out.any (k := i * 4) (by omega)).2
         have e1 := (HG.out.any (k := i * 4 + 1) (by omega)).2
         have e2 := (HG.out.any (k := i * 4 + 2) (by omega)).2
         have e3 := (HG.out.any (k := i * 4 + 3) (by omega)).2
         go_wp2
         refine ⟨⟨i + 1, _, rfl, by omega, by first | rfl | go_num, HE3.out _ _ _ _⟩, by simp [intOf]; omega⟩
        ·have hiz : ¬ (i : Int) < (m : Int) := by omega
         go_wp2
         go_roundw
         case rel =>
          (repeat apply Exists.intro)
          refine ⟨?rl, ?fr⟩
          case fr => exact rfl
          case rl => exact ⟨t + 1, _, rfl, by omega, by first | rfl | go_num, HKc.out⟩
         case measure => simp [intOf]; omega
    case pos =>
     have hrow5 := own_blk (own_blk HOw.out (HV5.out ▸ (Below.refl _ _).alloc (Nat.le_refl _) _)) (HV6.out ▸ (Below.refl _ _).alloc (Nat.le_refl _) _ : Below V5.heap.size V5 V6)
     obtain ⟨hal, ⟨hv0, h0⟩ | ⟨g, cap, cur, hv0, hg0, hg, hnc, hcm, hcs, ht2⟩⟩ := hrow5
     ·omega
     cases hv0
     have hg4 : g < B5 := by
      have := (own_lt HOw.out (b := g) rfl).1
      rw [← HB5.out]; exact this
     have h56 : B5 < B6 := by
      have := HX56.out.lt
      have h2 := HX6.out.le
      rw [← HB6.out]
      have h3 : B5 < V5.heap.size := by rw [← HV5.out, World.size_alloc, HB5.out]; omega
      exact h3
     have HGc : Hid (∀ i, i < n → ∃ (v : Bool) (h lo : Nat), Hid (∃ hi : i < sv.length, sv[i] = ⟨v, h, lo⟩) ∧ cur[i * 3]? = some (.bool v) ∧ cur[i * 3 + 1]? = some (.int .u64 (h : Int)) ∧ cur[i * 3 + 2]? = some (.int .u64 (lo : Int))) := fun i hi => by
      have hi' : i < sv.length := by rw [HNs.out]; exact hi
      have key : ∀ x, x < 3 → cur[i * 3 + x]? = (adL sv[i])[x]? := fun x hx => by
       have e := adsC_at sv i hi' x hx
       rw [← ht2, List.getElem?_take, if_pos (by have : (i + 1) * 3 ≤ n * 3 := Nat.mul_le_mul_right _ hi; omega)] at e
       rw [← e]; simp
      exact ⟨sv[i].v6, sv[i].hi, sv[i].lo, ⟨hi', rfl⟩, key 0 (by omega), key 1 (by omega), key 2 (by omega)⟩
     have HGS0 : Hid (GS g 66 cur (0 * 3) V6 V6) := GS.first hg
     have hgu : u.heap.size ≤ g := hg0
     clear hal hg ht2 hcs hcm hnc hg0
     go_upto_region 15 with fail
     clear z0 z1 z2 z3 z4 z5
     go_loopw [14] (fun iv wr => ∃ (i : Nat) (u2 : World), u2 = wr ∧ i ≤ n ∧ iv = .int .i64 (i : Int) ∧ Hid (GS g 66 cur (i * 3) V6 u2)) (fun iv _ => n - (intOf iv).toNat)
     case atStart => exact ⟨0, _, rfl, Nat.zero_le _, rfl, HGS0.out⟩
     case round =>
      obtain ⟨i, u2, rfl, hi, rfl, HG⟩ := hrel
      have z1 : u2.cell? ⟨B5, 1, none⟩ = some (.slice (some ⟨g, 0, none⟩) n c5) := (HG.out.other (by omega) 1).trans (HX56.out.cell 1 _ rfl)
      have z4 : u2.cell? ⟨B6, 1, none⟩ = some (.slice qs n cs) := (HG.out.other (by omega) 1).trans (HX6.out.cell 1 _ rfl)
      by_cases hlti : i < n
      ·have hiz : (i : Int) < (n : Int) := by omega
       have hiz0 : (0 : Int) ≤ (i : Int) := by omega
       have wi : IntKind.i64.wrap ((i : Int) + 1) = ((i + 1 : Nat) : Int) := by rw [IntKind.wrap_i64]; omega
       obtain ⟨v, h, lo, HSi, k0', k1', k2'⟩ := HGc.out i hlti
       have HKc := Hid.mk (HKu4.out.gs HK6.out hgu HG.out)
       obtain ⟨hiS, eS⟩ := HSi.out
       obtain ⟨bq, oq, eq, _, a0, a1, a2⟩ := HAd.out _ HKc.out.bel i hiS
       rw [eS] at a0 a1 a2
       (try simp only at a0 a1 a2)
       subst eq
       have y0 := HG.out.cell (Nat.le_refl _) k0'
       have y1 := HG.out.cell (by omega) k1'
       have y2 := HG.out.cell (by omega) k2'
       have hbS : i * 3 + 2 < cur.size := (Array.getElem?_eq_some_iff.1 k2').1
       have f0 := (HG.out.drew.any (k := i * 3) (by omega)).2
       have f1 := (HG.out.drew.any (k := i * 3 + 1) (by omega)).2
       have f2 := (HG.out.drew.any (k := i * 3 + 2) (by omega)).2
       have HS2 : Hid ((fun w' : World => w'.cell? ⟨B5, 1, none⟩ = some (.slice (some ⟨g, 0, none⟩) n c5) ∧ w'.cell? ⟨B6, 1, none⟩ = some (.slice (some ⟨bq, oq, none⟩) n cs) ∧ w'.cell? ⟨g, i * 3, none⟩ = some (.bool v) ∧ w'.cell? ⟨g, i * 3 + 1, none⟩ = some (.int .u64 (h : Int)) ∧ w'.cell? ⟨g, i * 3 + 2, none⟩ = some (.int .u64 (lo : Int)) ∧ w'.cell? ⟨bq, oq + i * 3, none⟩ = some (.bool v) ∧ w'.cell? ⟨bq, oq + i * 3 + 1, none⟩ = some (.int .u64 (h : Int)) ∧ w'.cell? ⟨bq, oq + i * 3 + 2, none⟩ = some (.int .u64 (lo : Int))) u2.drew) := ⟨z1, z4, y0, y1, y2, a0, a1, a2⟩
       have HS3 : Hid (u2.drew.cell? ⟨B5, 1, none⟩ = some (.slice (some ⟨g, 0, none⟩) n c5) ∧ u2.drew.cell? ⟨g, i * 3, none⟩ = some (.bool v) ∧ u2.drew.cell? ⟨g, i * 3 + 1, none⟩ = some (.int .u64 (h : Int)) ∧ u2.drew.cell? ⟨g, i * 3 + 2, none⟩ = some (.int .u64 (lo : Int))) := ⟨z1, y0, y1, y2⟩
       have HG1 := Hid.mk HG.out.drew
       clear k0' k1' k2' hiS eS
       go_upto_region 17 with fail
       clear z4 a0 a1 a2 z1 y0 y1 y2
       refine wp_region_held_drew (S := (fun w' : World => w'.cell? ⟨B5, 1, none⟩ = some (.slice (some ⟨g, 0, none⟩) n c5) ∧ w'.cell? ⟨B6, 1, none⟩ = some (.slice (some ⟨bq, oq, none⟩) n cs) ∧ w'.cell? ⟨g, i * 3, none⟩ = some (.bool v) ∧ w'.cell? ⟨g, i * 3 + 1, none⟩ = some (.int .u64 (h : Int)) ∧ w'.cell? ⟨g, i * 3 + 2, none⟩ = some (.int .u64 (lo : Int)) ∧ w'.cell? ⟨bq, oq + i * 3, none⟩ = some (.bool v) ∧ w'.cell? ⟨bq, oq + i * 3 + 1, none⟩ = some (.int .u64 (h : Int)) ∧ w'.cell? ⟨bq, oq + i * 3 + 2, none⟩ = some (.int .u64 (lo : Int)))) (by kernel_rfl) HS2.out (fun hHeld => ?_)
       refine wU (i := 0) (v := ?vu_0) rfl ?yu_0 (by assumption) ?_
       case yu_0 => (intro w hSw; (try dsimp only at hSw); go_simp; try with_reducible rfl)
       refine wU (i := 1) (v := ?vu_1) rfl ?yu_1 (by assumption) ?_
       case yu_1 => (intro w hSw; (try dsimp only at hSw); go_simp; try with_reducible rfl)
       refine wU (i := 2) (v := ?vu_2) rfl ?yu_2 (by assumption) ?_
       case yu_2 => (intro w hSw; (try dsimp only at hSw); go_simp; try with_reducible rfl)
       refine wU (i := 3) (v := ?vu_3) rfl ?yu_3 (by assumption) ?_
       case yu_3 => (intro w hSw; (try dsimp only at hSw); go_simp; try with_reducible rfl)
       refine wU (i := 4) (v := ?vu_4) rfl ?yu_4 (by assumption) ?_
       case yu_4 => (intro w hSw; (try dsimp only at hSw); go_simp; try with_reducible rfl)
       refine wU (i := 5) (v := ?vu_5) rfl ?yu_5 (by assumption) ?_
       case yu_5 => (intro w hSw; (try dsimp only at hSw); go_simp; try with_reducible rfl)
       refine wU (i := 6) (v := ?vu_6) rfl ?yu_6 (by assumption) ?_
       case yu_6 => (intro w hSw; (try dsimp only at hSw); go_simp; try with_reducible rfl)
       refine wU (i := 7) (v := ?vu_7) rfl ?yu_7 (by assumption) ?_
       case yu_7 => (intro w hSw; (try dsimp only at hSw); go_simp; try with_reducible rfl)
       refine wU (i := 8) (v := ?vu_8) rfl ?yu_8 (by assumption) ?_
       case yu_8 => (intro w hSw; (try dsimp only at hSw); go_simp; try with_reducible rfl)
       refine wU (i := 9) (v := ?vu_9) rfl ?yu_9 (by assumption) ?_
       case yu_9 => (intro w hSw; (try dsimp only at hSw); go_simp; try with_reducible rfl)
       refine wU (i := 10) (v := ?vu_10) rfl ?yu_10 (by assumption) ?_
       case yu_10 => (intro w hSw; (try dsimp only at hSw); go_simp; try with_reducible rfl)
       try simp only [Act.put, List.getElem_toArray, List.getElem_cons_succ, List.getElem_cons_zero, List.setIfInBounds_toArray, List.set_cons_zero, List.set_cons_succ]
       refine wpAnyH_done (by kernel_rfl) ?_ _
       clear hHeld
       obtain ⟨D2, hD2⟩ : ∃ D2, u2.drew = D2 := ⟨_, rfl⟩
       rw [hD2] at f0 f1 f2 HS3 HG1 ⊢
       have HS4 : Hid ((fun w' : World => w'.cell? ⟨B5, 1, none⟩ = some (.slice (some ⟨g, 0, none⟩) n c5) ∧ w'.cell? ⟨g, i * 3, none⟩ = some (.bool v) ∧ w'.cell? ⟨g, i * 3 + 1, none⟩ = some (.int .u64 (h : Int)) ∧ w'.cell? ⟨g, i * 3 + 2, none⟩ = some (.int .u64 (lo : Int))) D2.drew) := HS3.out
       have HG3 : Hid (∀ v0 v1 v2, GS g 66 cur ((i + 1) * 3) V6 (((D2.setCell ⟨g, i * 3, none⟩ v0).setCell ⟨g, i * 3 + 1, none⟩ v1).setCell ⟨g, i * 3 + 2, none⟩ v2).drew) := fun v0 v1 v2 => (((HG1.out.set (hi := (i + 1) * 3) (by omega) (by omega) _).set (Nat.le_refl _) (by omega) _).set (Nat.le_refl _) (by omega) _).drew
       clear hD2
       go_upto_region 19 with fail
       refine wp_region_held_drew (S := fun w' : World => w'.cell? ⟨B5, 1, none⟩ = some (.slice (some ⟨g, 0, none⟩) n c5)) (by kernel_rfl) HS4.out.1 (fun hHeld => ?_)
       refine wU (i := 0) (v := ?vm_0) rfl ?ym_0 (by assumption) ?_
       case ym_0 => (intro w hSw; (try dsimp only at hSw); go_simp; try with_reducible rfl)
       refine wU (i := 1) (v := ?vm_1) rfl ?ym_1 (by assumption) ?_
       case ym_1 => (intro w hSw; (try dsimp only at hSw); go_simp; try with_reducible rfl)
       refine wU (i := 2) (v := ?vm_2) rfl ?ym_2 (by assumption) ?_
       case ym_2 => (intro w hSw; (try dsimp only at hSw); go_simp; try with_reducible rfl)
       refine wU (i := 3) (v := ?vm_3) rfl ?ym_3 (by assumption) ?_
       case ym_3 => (intro w hSw; (try dsimp only at hSw); go_simp; try with_reducible rfl)
       refine wU (i := 4) (v := ?vm_4) rfl ?ym_4 (by assumption) ?_
       case ym_4 => (intro w hSw; (try dsimp only at hSw); go_simp; try with_reducible rfl)
       refine wU (i := 5) (v := ?vm_5) rfl ?ym_5 (by assumption) ?_
       case ym_5 => (intro w hSw; (try dsimp only at hSw); go_simp; try with_reducible rfl)
       refine wU (i := 6) (v := ?vm_6) rfl ?ym_6 (by assumption) ?_
       case ym_6 => (intro w hSw; (try dsimp only at hSw); go_simp; try with_reducible rfl)
       refine wU (i := 7) (v := ?vm_7) rfl ?ym_7 (by assumption) ?_
       case ym_7 => (intro w hSw; (try dsimp only at hSw); go_simp; try with_reducible rfl)
       try simp only [Act.put, List.getElem_toArray, List.getElem_cons_succ, List.getElem_cons_zero, List.setIfInBounds_toArray, List.set_cons_zero, List.set_cons_succ]
       refine wpAnyH_ready (rs := [8]) (by kernel_rfl) (by simp) ?_
       refine AllReadyH.cons rfl (fun K hK => ?_) AllReadyH.nil
       clear hHeld
       obtain ⟨z1, y0, y1, y2⟩ := HS4.out
       go_simp
       refine hK.out _ _ z1 (fun hHeld => ?_)
       clear hK K z1 y0 y1 y2
       refine wU (i := 9) (v := ?vn_9) rfl ?yn_9 (by assumption) ?_
       case yn_9 => (intro w hSw; (try dsimp only at hSw); go_simp; try with_reducible rfl)
       refine wU (i := 10) (v := ?vn_10) rfl ?yn_10 (by assumption) ?_
       case yn_10 => (intro w hSw; (try dsimp only at hSw); go_simp; try with_reducible rfl)
       refine wU (i := 11) (v := ?vn_11) rfl ?yn_11 (by assumption) ?_
       case yn_11 => (intro w hSw; (try dsimp only at hSw); go_simp; try with_reducible rfl)
       try simp only [Act.put, List.getElem_toArray, List.getElem_cons_succ, List.getElem_cons_zero, List.setIfInBounds_toArray, List.set_cons_zero, List.set_cons_succ]
       refine wpAnyH_ready (rs := [12]) (by kernel_rfl) (by simp) ?_
       refine AllReadyH.cons rfl (fun K hK => ?_) AllReadyH.nil
       obtain ⟨z1, y0, y1, y2⟩ := HS4.out
       have p0 : D2.cell? ⟨g, i * 3, none⟩ = some (.bool v) := y0
       have p1 : D2.cell? ⟨g, i * 3 + 1, none⟩ = some (.int .u64 (h : Int)) := y1
       have p2 : D2.cell? ⟨g, i * 3 + 2, none⟩ = some (.int .u64 (lo : Int)) := y2
       go_simp
       refine hK.out _ _ (((HG3.out _ _ _).other (by omega) 1).trans (HX56.out.cell 1 _ rfl)) (fun hHeld => ?_)
       clear hK K z1 y0 y1 y2 p0 p1 p2 hHeld
       try simp only [Act.put, List.getElem_toArray, List.getElem_cons_succ, List.getElem_cons_zero, List.setIfInBounds_toArray, List.set_cons_zero, List.set_cons_succ]
       refine wpAnyH_done (by kernel_rfl) ?_ _
       go_wp2
       go_roundw
       case rel => exact ⟨i + 1, _, rfl, by omega, by first | rfl | go_num, HG3.out _ _ _⟩
       case measure => simp [intOf]; omega
      ·have hiz : ¬ (i : Int) < (n : Int) := by omega
       have HKz := Hid.mk (HKu4.out.gs HK6.out hgu HG.out)
       clear hi
       go_upto_region 20 with fail
       clear z1 z4
       obtain ⟨x0, x1, x2, x3, x4, x5, x6, x7, x8⟩ := HKD.out _ _ HKz.out
       have HC4 := Hid.mk (HPa.out _ HKz.out.bel)
       go_wp2_with fail
       refine HC4.out.mono ?_
       rintro e w6 ⟨lv, rfl, hrl, hb6⟩
       clear x0 x1 x2 x3 x4 x5 x6 x7 x8
       have HKl := Hid.mk (HKz.out.blk hb6)
       obtain ⟨ql, cl, hlv⟩ := own_form hrl
       rw [HM.out] at hlv
       subst hlv
       have HRl : Hid (w6.ownsRow u2.heap.size 68 4 (.slice ql m cl) m (dsC sel)) := by rw [HM.out] at hrl; exact hrl
       clear hb6 hrl
       by_cases hm0 : 0 < m
       case neg =>
        obtain rfl : m = 0 := by omega
        go_upto_region 24 with fail
        go_loopw [18] (fun iv wr => ∃ (u3 : World), u3 = wr ∧ iv = .int .i64 0 ∧ Hid (KF N W k0 c (.slice qd 0 cd) sel u3)) (fun _ _ => 0)
        case atStart => exact ⟨_, rfl, rfl, HKl.out⟩
        case round =>
         obtain ⟨u3, rfl, rfl, HK3⟩ := hrel
         go_wp2
         go_roundw
         case rel =>
          (repeat apply Exists.intro)
          refine ⟨?rl, ?fr⟩
          case fr => exact rfl
          case rl => exact ⟨t + 1, _, rfl, by omega, by first | rfl | go_num, HK3.out⟩
         case measure => simp [intOf]; omega
       case pos =>
        obtain ⟨hal, ⟨hv0, h0⟩ | ⟨gl, capl, curl, hv0, hgl0, hgl, hncl, hcml, hcsl, htl⟩⟩ := HRl.out
        ·omega
        cases hv0
        have hrw := HKl.out.row
        rw [HM.out] at hrw
        obtain ⟨_, ⟨hv1, h1'⟩ | ⟨gd, capd, curd, hv1, hgd0, hgd, _, _, _, _⟩⟩ := hrw
        ·omega
        cases hv1
        have hdl : gd < u2.heap.size := (own_lt HKz.out.row (b := gd) rfl).1
        have HGS0 : Hid (GS gl 68 curl (0 * 4) w6 w6) := GS.first hgl
        have HCu : Hid (∀ i, i < m → ∃ (tg al kd : Int) (dg : ByteArray), Hid (∃ hi : i < sel.length, dsL sel[i] = [.int .i64 tg, .int .i64 al, .int .i64 kd, .string dg]) ∧ curl[i * 4]? = some (.int .i64 tg) ∧ curl[i * 4 + 1]? = some (.int .i64 al) ∧ curl[i * 4 + 2]? = some (.int .i64 kd) ∧ curl[i * 4 + 3]? = some (.string dg)) := fun i hi => by
         have hi' : i < sel.length := by rw [HM.out]; exact hi
         have key : ∀ x, x < 4 → curl[i * 4 + x]? = (dsL sel[i])[x]? := fun x hx => by
          have e := dsC_at sel i hi' x hx
          rw [← htl, List.getElem?_take, if_pos (by have : (i + 1) * 4 ≤ m * 4 := Nat.mul_le_mul_right _ hi; omega)] at e
          rw [← e]; simp
         exact ⟨sel[i].tg, sel[i].al, sel[i].kd, sel[i].dg, ⟨hi', rfl⟩, key 0 (by omega), key 1 (by omega), key 2 (by omega), key 3 (by omega)⟩
        clear hal hgl htl hcsl hcml hncl hgd hgd0
        go_upto_region 24 with fail
        go_loopw [18] (fun iv wr => ∃ (i : Nat) (u3 : World), u3 = wr ∧ i ≤ m ∧ iv = .int .i64 (i : Int) ∧ Hid (GS gl 68 curl (i * 4) w6 u3)) (fun iv _ => m - (intOf iv).toNat)
        case atStart => exact ⟨0, _, rfl, Nat.zero_le _, rfl, HGS0.out⟩
        case round =>
         obtain ⟨i, u3, rfl, hi, rfl, HG⟩ := hrel
         have HKc := Hid.mk (HKz.out.gs HKl.out hgl0 HG.out)
         by_cases hlti : i < m
         ·have hiz : (i : Int) < (m : Int) := by omega
          have hiz0 : (0 : Int) ≤ (i : Int) := by omega
          have wi : IntKind.i64.wrap ((i : Int) + 1) = ((i + 1 : Nat) : Int) := by rw [IntKind.wrap_i64]; omega
          obtain ⟨tg, al, kd, dg, HSi, k0', k1', k2', k3'⟩ := HCu.out i hlti
          obtain ⟨hiS, eS⟩ := HSi.out
          have hrd : u3.ownsRow N 68 4 (.slice (some ⟨gd, 0, none⟩) m cd) m (dsC sel) := by have := HKc.out.row; rw [HM.out] at this; exact this
          have kd4 : ∀ x, x < 4 → u3.cell? ⟨gd, i * 4 + x, none⟩ = (dsL sel[i])[x]? := fun x hx => by
           rw [World.ownsRow.cellAt hrd (i * 4 + x) (by have : (i + 1) * 4 ≤ m * 4 := Nat.mul_le_mul_right _ hlti; omega)]
           exact dsC_at sel i hiS x hx
          rw [eS] at kd4
          have a0 := kd4 0 (by omega)
          have a1 := kd4 1 (by omega)
          have a2 := kd4 2 (by omega)
          have a3 := kd4 3 (by omega)
          have y0 := HG.out.cell (Nat.le_refl _) k0'
          have y1 := HG.out.cell (by omega) k1'
          have y2 := HG.out.cell (by omega) k2'
          have y3 := HG.out.cell (by omega) k3'
          have hbS : i * 4 + 3 < curl.size := (Array.getElem?_eq_some_iff.1 k3').1
          have f0 := (HG.out.drew.any (k := i * 4) (by omega)).2
          have f1 := (HG.out.drew.any (k := i * 4 + 1) (by omega)).2
          have f2 := (HG.out.drew.any (k := i * 4 + 2) (by omega)).2
          have f3 := (HG.out.drew.any (k := i * 4 + 3) (by omega)).2
          have HS2 : Hid ((fun w' : World => w'.cell? ⟨gl, i * 4, none⟩ = some (.int .i64 tg) ∧ w'.cell? ⟨gl, i * 4 + 1, none⟩ = some (.int .i64 al) ∧ w'.cell? ⟨gl, i * 4 + 2, none⟩ = some (.int .i64 kd) ∧ w'.cell? ⟨gl, i * 4 + 3, none⟩ = some (.string dg) ∧ w'.cell? ⟨gd, i * 4, none⟩ = some (.int .i64 tg) ∧ w'.cell? ⟨gd, i * 4 + 1, none⟩ = some (.int .i64 al) ∧ w'.cell? ⟨gd, i * 4 + 2, none⟩ = some (.int .i64 kd) ∧ w'.cell? ⟨gd, i * 4 + 3, none⟩ = some (.string dg)) u3.drew) := ⟨y0, y1, y2, y3, a0, a1, a2, a3⟩
          have HS3 : Hid (u3.drew.cell? ⟨gl, i * 4, none⟩ = some (.int .i64 tg) ∧ u3.drew.cell? ⟨gl, i * 4 + 1, none⟩ = some (.int .i64 al) ∧ u3.drew.cell? ⟨gl, i * 4 + 2, none⟩ = some (.int .i64 kd) ∧ u3.drew.cell? ⟨gl, i * 4 + 3, none⟩ = some (.string dg)) := ⟨y0, y1, y2, y3⟩
          have HE3 : Hid (∀ v0 v1 v2 v3, GS gl 68 curl ((i + 1) * 4) w6 ((((u3.setCell ⟨gl, i * 4, none⟩ v0).setCell ⟨gl, i * 4 + 1, none⟩ v1).setCell ⟨gl, i * 4 + 2, none⟩ v2).setCell ⟨gl, i * 4 + 3, none⟩ v3).drew) := fun v0 v1 v2 v3 => ((((HG.out.set (hi := (i + 1) * 4) (by omega) (by omega) _).set (Nat.le_refl _) (by omega) _).set (Nat.le_refl _) (by omega) _).set (Nat.le_refl _) (by omega) _).drew
          clear k0' k1' k2' k3' hiS eS hrd kd4 a0 a1 a2 a3 y0 y1 y2 y3
          go_upto_region 26 with fail
          refine wp_region_held_drew (S := (fun w' : World => w'.cell? ⟨gl, i * 4, none⟩ = some (.int .i64 tg) ∧ w'.cell? ⟨gl, i * 4 + 1, none⟩ = some (.int .i64 al) ∧ w'.cell? ⟨gl, i * 4 + 2, none⟩ = some (.int .i64 kd) ∧ w'.cell? ⟨gl, i * 4 + 3, none⟩ = some (.string dg) ∧ w'.cell? ⟨gd, i * 4, none⟩ = some (.int .i64 tg) ∧ w'.cell? ⟨gd, i * 4 + 1, none⟩ = some (.int .i64 al) ∧ w'.cell? ⟨gd, i * 4 + 2, none⟩ = some (.int .i64 kd) ∧ w'.cell? ⟨gd, i * 4 + 3, none⟩ = some (.string dg))) (by kernel_rfl) HS2.out (fun hHeld => ?_)
          refine wU (i := 0) (v := ?vr_0) rfl ?yr_0 (by assumption) ?_
          case yr_0 => (intro w hSw; (try dsimp only at hSw); go_simp; try with_reducible rfl)
          refine wU (i := 1) (v := ?vr_1) rfl ?yr_1 (by assumption) ?_
          case yr_1 => (intro w hSw; (try dsimp only at hSw); go_simp; try with_reducible rfl)
          refine wU (i := 2) (v := ?vr_2) rfl ?yr_2 (by assumption) ?_
          case yr_2 => (intro w hSw; (try dsimp only at hSw); go_simp; try with_reducible rfl)
          refine wU (i := 3) (v := ?vr_3) rfl ?yr_3 (by assumption) ?_
          case yr_3 => (intro w hSw; (try dsimp only at hSw); go_simp; try with_reducible rfl)
          refine wU (i := 4) (v := ?vr_4) rfl ?yr_4 (by assumption) ?_
          case yr_4 => (intro w hSw; (try dsimp only at hSw); go_simp; try with_reducible rfl)
          refine wU (i := 5) (v := ?vr_5) rfl ?yr_5 (by assumption) ?_
          case yr_5 => (intro w hSw; (try dsimp only at hSw); go_simp; try with_reducible rfl)
          refine wU (i := 6) (v := ?vr_6) rfl ?yr_6 (by assumption) ?_
          case yr_6 => (intro w hSw; (try dsimp only at hSw); go_simp; try with_reducible rfl)
          refine wU (i := 7) (v := ?vr_7) rfl ?yr_7 (by assumption) ?_
          case yr_7 => (intro w hSw; (try dsimp only at hSw); go_simp; try with_reducible rfl)
          refine wU (i := 8) (v := ?vr_8) rfl ?yr_8 (by assumption) ?_
          case yr_8 => (intro w hSw; (try dsimp only at hSw); go_simp; try with_reducible rfl)
          try simp only [Act.put, List.getElem_toArray, List.getElem_cons_succ, List.getElem_cons_zero, List.setIfInBounds_toArray, List.set_cons_zero, List.set_cons_succ]
          refine wpAnyH_done (by kernel_rfl) ?_ _
          clear hHeld
          obtain ⟨y0, y1, y2, y3⟩ := HS3.out
          have z0 : u3.cell? ⟨gl, i * 4, none⟩ = some (.int .i64 tg) := y0
          have z1 : u3.cell? ⟨gl, i * 4 + 1, none⟩ = some (.int .i64 al) := y1
          have z2 : u3.cell? ⟨gl, i * 4 + 2, none⟩ = some (.int .i64 kd) := y2
          have z3 : u3.cell? ⟨gl, i * 4 + 3, none⟩ = some (.string dg) := y3
          have e0 := (HG.out.any (k := i * 4) (by omega)).2
          have e1 := (HG.out.any (k := i * 4 + 1) (by omega)).2
          have e2 := (HG.out.any (k := i * 4 + 2) (by omega)).2
          have e3 := (HG.out.any (k := i * 4 + 3) (by omega)).2
          go_wp2
          refine ⟨⟨i + 1, _, rfl, by omega, by first | rfl | go_num, HE3.out _ _ _ _⟩, by simp [intOf]; omega⟩
         ·have hiz : ¬ (i : Int) < (m : Int) := by omega
          go_wp2
          go_roundw
          case rel =>
           (repeat apply Exists.intro)
           refine ⟨?rl, ?fr⟩
           case fr => exact rfl
           case rl => exact ⟨t + 1, _, rfl, by omega, by first | rfl | go_num, HKc.out⟩
          case measure => simp [intOf]; omega
  ·have htz : ¬ (t : Int) < 2 := by omega
   have HF := Hid.mk HKu.out.bel
   go_wp2
   go_ret
   exact ⟨rfl, HF.out⟩
end
end Go.Proofs.YtdlcldjlfhmlgaaGreatDoor
