/- Texts of this proof, joined: ZWay, ZCalls, GBase, GLeaf, GWord, GSha. -/
import Derived.Test.YtnchoogjjnjikaaGreatDoorJ13
import Derived.WalkKit
import Derived.WalkSpells
import Derived.WalkLawsBesides
import Derived.BigQuiet
import Derived.Deep.WholeRow
import Derived.Deep.Cut
import Derived.Laws.BitsAllLaws
import Derived.Test.YtnchoogjjnjikaaGreatDoorRows
/- wayOf, Name, Type, Wild by NSEC. -/
namespace Go.Proofs.YtnchoogjjnjikaaGreatDoor
set_option linter.unusedVariables false
set_option linter.unusedSimpArgs false
open Go.RowKit
attribute [local go_sem ↓] storeAt_lk loadAt_lk
def wyStore (a x : Value) : Sem Unit := Instr.storeAt 55 a x
theorem storeAt_wy (a x : Value) : Instr.storeAt 55 a x = wyStore a x := rfl
theorem sizeWy : (Tryz.prog.info? 55).map (·.size) = some 4 := by kernel_rfl
theorem wyStore_run {W : World} {b : Nat} {x0 x1 x2 x3 y0 y1 y2 y3 : Value} (h : W.heap[b]? = some (.cells #[y0, y1, y2, y3] 55 (0, 0))) (h0 : x0.oneCell' = true) (h1 : x1.oneCell' = true) (h2 : x2.oneCell' = true) (h3 : x3.oneCell' = true) : (wyStore (.pointer (some ⟨b, 0, none⟩)) (.agg #[x0, x1, x2, x3])).run Tryz.prog W = .ok () (W.setRow b #[x0, x1, x2, x3]) := by
  unfold wyStore
  simp only [Instr.storeAt, Instr.sureAddr, Sem.run_bind, Sem.run_pure, Result.andThen]
  exact run_storeVar_row W b _ _ _ _ h sizeWy rfl (by simp [h0, h1, h2, h3])
theorem wy_loadV {W : World} {b : Nat} {x y z t : Value} (h : W.heap[b]? = some (.cells #[x, y, z, t] 55 (0, 0))) : (loadVar 55 ⟨b, 0, none⟩).run Tryz.prog W = .ok (.agg #[x, y, z, t]) W :=
  run_loadVar_row W b _ _ _ (0, 0) _ h Tryz.underlying55 rfl sizeWy
theorem results_wy {fn : Func} {p : Tmp} (h : fn.results = #[.cell p 55]) {tmps : Array Value} {W : World} {b : Nat} {x y z t : Value} (hp : tmps.getD p undef = .pointer (some ⟨b, 0, none⟩)) (hb : W.heap[b]? = some (.cells #[x, y, z, t] 55 (0, 0))) : (results fn tmps).run Tryz.prog W = .ok (.agg #[x, y, z, t]) W := by
  have hp' : tmps[p]?.getD undef = .pointer (some ⟨b, 0, none⟩) := by simpa using hp
  simp only [results, h]
  simp [hp', asAddr, wy_loadV hb]
attribute [local go_sem ↓] storeAt_wy
set_option maxRecDepth 100000 in
set_option maxHeartbeats 2000000 in
theorem wayOf_in (l : List Gd) (ap : List (List UInt8)) (hap : OkN ap) (hl : l.length ≤ 100000) (h0 : l ≠ []) (hok : ∀ g ∈ l, g.Ok) (hun : ∀ g ∈ l, undB g.k.o ap = true) (v : Value) (W : World) (h : StAt W v l) : Calls Tryz.prog 22 #[v, .string (nm ap)] W fun e w' => (∃ cv, e = .returned (.agg #[.func (.func 40) #[cv] #[], .func (.func 41) #[cv] #[], .func (.func 42) #[cv] #[], .func (.func 43) #[cv] #[]]) ∧ ChT w' cv (l.map (·.k))) ∧ Below W.heap.size W w' := by
  have HN : Hid (∀ w, Below W.heap.size W w → Calls Tryz.prog 39 #[v, .string (nm ap)] w fun e w' => (∃ cv, e = .returned cv ∧ ChT w' cv (l.map (·.k))) ∧ Below w.heap.size w w') := fun w hb => nsecs_in l ap hap hl hok hun v w (h.blk hb)
  have hlen : 0 < (l.map (·.k)).length := by rw [List.length_map]; exact List.length_pos_iff.2 h0
  generalize l.map (·.k) = ks at HN hlen ⊢
  obtain ⟨q, cap, hv, _⟩ := id h
  clear hl h0 hok hun h hap
  subst hv
  generalize l.length = m at HN ⊢
  obtain ⟨V, hV, F⟩ : ∃ V, W.alloc (Obj.cells #[Value.nilFunc, Value.nilFunc, Value.nilFunc, Value.nilFunc] 55 (0, 0)) = V ∧ Fm W [(W.heap.size, Obj.cells #[Value.nilFunc, Value.nilFunc, Value.nilFunc, Value.nilFunc] 55 (0, 0))] V := ⟨_, rfl, Fm.box1 W _⟩
  have mf := mkf
  go_enter Tryz.func22, Tryz.ntmps22
  go_upto_region 1 with fail
  clear hV
  go_wp2_with fail
  refine (HN.out _ F.bel).mono ?_
  rintro e w1 ⟨⟨cv, rfl, hch⟩, hb⟩
  replace F := F.blk hb
  clear hb
  obtain ⟨q2, c2, hcv, _⟩ := id hch.at
  obtain ⟨m2, hm2⟩ : ∃ m2, ks.length = m2 := ⟨_, rfl⟩
  rw [hm2] at hlen hcv
  have HCH := Hid.mk hch
  have hm0 : (0 : Int) < (m2 : Int) := by omega
  have hd0 : decide ((0 : Int) < (m2 : Int)) = true := decide_eq_true hm0
  have hlen2 : decide (0 < m2) = true := decide_eq_true hlen
  clear hm2 hch
  subst hcv
  have s4 := wyStore_run (x0 := .func (.func 40) #[.slice q2 m2 c2] #[]) (x1 := .func (.func 41) #[.slice q2 m2 c2] #[]) (x2 := .func (.func 42) #[.slice q2 m2 c2] #[]) (x3 := .func (.func 43) #[.slice q2 m2 c2] #[]) (F.get 0 rfl) rfl rfl rfl rfl
  have F4 := F.put 0 #[.func (.func 40) #[.slice q2 m2 c2] #[], .func (.func 41) #[.slice q2 m2 c2] #[], .func (.func 42) #[.slice q2 m2 c2] #[], .func (.func 43) #[.slice q2 m2 c2] #[]] rfl
  go_wp2
  refine bodyPost_ret (results_wy Tryz.results22 rfl (F4.get 0 rfl)) rfl ⟨⟨_, rfl, ?_⟩, F4.bel⟩
  exact HCH.out.row (F.get 0 rfl) (by decide) (by decide)
end Go.Proofs.YtnchoogjjnjikaaGreatDoor
/- Name, Type, Wild by NSEC. -/
namespace Go.Proofs.YtnchoogjjnjikaaGreatDoor
set_option linter.unusedVariables false
set_option linter.unusedSimpArgs false
open Go.RowKit
attribute [local go_sem ↓] storeAt_lk loadAt_lk
theorem chOk_of {l : List Gd} (hl : l.length ≤ 100000) (hok : ∀ g ∈ l, g.Ok) : ChOk (l.map (·.k)) := ⟨by rw [List.length_map]; exact hl, fun k hk => by
  obtain ⟨g, hg, rfl⟩ := List.mem_map.1 hk
  exact (hok g hg).1⟩
theorem way_f0 (a b c d : Value) (w : World) : (Instr.field 55 (.agg #[a, b, c, d]) 0).run Tryz.prog w = .ok a w := by kernel_rfl
theorem way_f1 (a b c d : Value) (w : World) : (Instr.field 55 (.agg #[a, b, c, d]) 1).run Tryz.prog w = .ok b w := by kernel_rfl
theorem way_f2 (a b c d : Value) (w : World) : (Instr.field 55 (.agg #[a, b, c, d]) 2).run Tryz.prog w = .ok c w := by kernel_rfl
set_option maxRecDepth 100000 in
set_option maxHeartbeats 2000000 in
theorem name_in (ap n : List (List UInt8)) (hn : OkN n) (hu : undB n ap = true) (l : List Gd) (hap : OkN ap) (hl : l.length ≤ 100000) (h0 : l ≠ []) (hok : ∀ g ∈ l, g.Ok) (hun : ∀ g ∈ l, undB g.k.o ap = true) (v : Value) (W : World) (h : StAt W v l) : Calls Tryz.prog 8 #[v, .string (nm n), .string (nm ap)] W fun e w' => e = .returned (.int .i64 (nameR (l.map (·.k)) n)) ∧ Below W.heap.size W w' := by
  have HW : Hid (∀ w, Below W.heap.size W w → Calls Tryz.prog 22 #[v, .string (nm ap)] w fun e w' => (∃ cv, e = .returned (.agg #[.func (.func 40) #[cv] #[], .func (.func 41) #[cv] #[], .func (.func 42) #[cv] #[], .func (.func 43) #[cv] #[]]) ∧ ChT w' cv (l.map (·.k))) ∧ Below w.heap.size w w') := fun w hb => wayOf_in l ap hap hl h0 hok hun v w (h.blk hb)
  have hko := chOk_of hl hok
  have HU : Hid (∀ w, Calls Tryz.prog 21 #[.string (nm n), .string (nm ap)] w fun e w' => e = .returned (.bool true) ∧ Below w.heap.size w w') := fun w => by have := under_yes n ap hn hap w; rwa [hu] at this
  have g0 := way_f0
  have g1 := way_f1
  have g2 := way_f2
  obtain ⟨q, cap, hv, _⟩ := id h
  clear hl h0 hok hun h
  subst hv
  generalize l.map (·.k) = ks at *
  generalize l.length = m at HW ⊢
  have F := Fm.start W
  have HN : Hid (∀ w cv, ChT w cv ks → Calls Tryz.prog 40 #[cv, .string (nm n)] w fun e w' => e = .returned (.int .i64 (nameR ks n)) ∧ Below w.heap.size w w') := fun w cv hc => noName_in ks n hko hn cv w hc.at
  generalize nameR ks n = R at HN ⊢
  generalize nm n = sn at HU HN ⊢
  generalize nm ap = sa at HU HW ⊢
  go_enter Tryz.func8, Tryz.ntmps8
  go_wp2_with fail
  refine (HU.out _).mono ?_
  rintro e u1 ⟨rfl, hb⟩
  replace F := F.blk hb
  clear hb
  go_wp2_with fail
  refine (HW.out _ F.bel).mono ?_
  rintro e u2 ⟨⟨cv, rfl, hch⟩, hb⟩
  replace F := F.blk hb
  clear hb
  go_wp2_with fail
  refine (HN.out _ _ hch).mono ?_
  rintro e u3 ⟨rfl, hb⟩
  replace F := F.blk hb
  clear hb
  go_wp2
  go_ret
  exact ⟨rfl, F.bel⟩
set_option maxRecDepth 100000 in
set_option maxHeartbeats 2000000 in
theorem type_in (ap n : List (List UInt8)) (kind : Int) (hk : 0 ≤ kind ∧ kind ≤ 65535) (hn : OkN n) (hu : undB n ap = true) (l : List Gd) (hap : OkN ap) (hl : l.length ≤ 100000) (h0 : l ≠ []) (hok : ∀ g ∈ l, g.Ok) (hun : ∀ g ∈ l, undB g.k.o ap = true) (v : Value) (W : World) (h : StAt W v l) : Calls Tryz.prog 10 #[v, .string (nm n), .int .i64 kind, .string (nm ap)] W fun e w' => e = .returned (.int .i64 (typeR (l.map (·.k)) n kind)) ∧ Below W.heap.size W w' := by
  have HW : Hid (∀ w, Below W.heap.size W w → Calls Tryz.prog 22 #[v, .string (nm ap)] w fun e w' => (∃ cv, e = .returned (.agg #[.func (.func 40) #[cv] #[], .func (.func 41) #[cv] #[], .func (.func 42) #[cv] #[], .func (.func 43) #[cv] #[]]) ∧ ChT w' cv (l.map (·.k))) ∧ Below w.heap.size w w') := fun w hb => wayOf_in l ap hap hl h0 hok hun v w (h.blk hb)
  have hko := chOk_of hl hok
  have HU : Hid (∀ w, Calls Tryz.prog 21 #[.string (nm n), .string (nm ap)] w fun e w' => e = .returned (.bool true) ∧ Below w.heap.size w w') := fun w => by have := under_yes n ap hn hap w; rwa [hu] at this
  have g0 := way_f0
  have g1 := way_f1
  have g2 := way_f2
  obtain ⟨q, cap, hv, _⟩ := id h
  clear hl h0 hok hun h
  subst hv
  generalize l.map (·.k) = ks at *
  generalize l.length = m at HW ⊢
  have F := Fm.start W
  have HN : Hid (∀ w cv, ChT w cv ks → Calls Tryz.prog 41 #[cv, .string (nm n), .int .i64 kind] w fun e w' => e = .returned (.int .i64 (typeR ks n kind)) ∧ Below w.heap.size w w') := fun w cv hc => noType_in ks n kind hko hn cv w hc.at
  have hd1 : decide (kind < 0) = false := decide_eq_false (by omega)
  have hd2 : decide (65535 < kind) = false := decide_eq_false (by omega)
  clear hk
  generalize typeR ks n kind = R at HN ⊢
  generalize nm n = sn at HU HN ⊢
  generalize nm ap = sa at HU HW ⊢
  go_enter Tryz.func10, Tryz.ntmps10
  go_wp2_with fail
  refine (HU.out _).mono ?_
  rintro e u1 ⟨rfl, hb⟩
  replace F := F.blk hb
  clear hb
  go_wp2_with fail
  refine (HW.out _ F.bel).mono ?_
  rintro e u2 ⟨⟨cv, rfl, hch⟩, hb⟩
  replace F := F.blk hb
  clear hb
  go_wp2_with fail
  refine (HN.out _ _ hch).mono ?_
  rintro e u3 ⟨rfl, hb⟩
  replace F := F.blk hb
  clear hb
  go_wp2
  go_ret
  exact ⟨rfl, F.bel⟩
set_option maxRecDepth 100000 in
set_option maxHeartbeats 2000000 in
theorem below_in (n e : List (List UInt8)) (hn : OkN n) (he : OkN e) (hu : undB n e = true) (hq : eqB n e = false) (W : World) : Calls Tryz.prog 23 #[.string (nm n), .string (nm e)] W fun e w' => e = .returned (.bool true) ∧ Below W.heap.size W w' := by
  have HU : Hid (∀ w, Calls Tryz.prog 21 #[.string (nm n), .string (nm e)] w fun e w' => e = .returned (.bool true) ∧ Below w.heap.size w w') := fun w => by have := under_yes n e hn he w; rwa [hu] at this
  have HE : Hid (∀ w, Calls Tryz.prog 7 #[.string (nm n), .string (nm e)] w fun e w' => e = .returned (.bool false) ∧ Below w.heap.size w w') := fun w => by have := equal_yes n e hn he w; rwa [hq] at this
  generalize nm n = sn at HU HE ⊢
  generalize nm e = se at HU HE ⊢
  have F := Fm.start W
  go_enter Tryz.func23, Tryz.ntmps23
  go_wp2_with fail
  refine (HU.out _).mono ?_
  rintro e u1 ⟨rfl, hb⟩
  replace F := F.blk hb
  clear hb
  go_wp2_with fail
  refine (HE.out _).mono ?_
  rintro e u2 ⟨rfl, hb⟩
  replace F := F.blk hb
  clear hb
  go_wp2
  go_ret
  exact ⟨rfl, F.bel⟩
set_option maxRecDepth 100000 in
set_option maxHeartbeats 2000000 in
theorem wild_in (ap n en : List (List UInt8)) (hn : OkN n) (hen : OkN en) (hu : undB n en = true) (hq : eqB n en = false) (hue : undB en ap = true) (l : List Gd) (hap : OkN ap) (hl : l.length ≤ 100000) (h0 : l ≠ []) (hok : ∀ g ∈ l, g.Ok) (hun : ∀ g ∈ l, undB g.k.o ap = true) (v : Value) (W : World) (h : StAt W v l) : Calls Tryz.prog 15 #[v, .string (nm n), .string (nm en), .string (nm ap)] W fun e w' => e = .returned (.int .i64 (nearR (l.map (·.k)) n en)) ∧ Below W.heap.size W w' := by
  have HW : Hid (∀ w, Below W.heap.size W w → Calls Tryz.prog 22 #[v, .string (nm ap)] w fun e w' => (∃ cv, e = .returned (.agg #[.func (.func 40) #[cv] #[], .func (.func 41) #[cv] #[], .func (.func 42) #[cv] #[], .func (.func 43) #[cv] #[]]) ∧ ChT w' cv (l.map (·.k))) ∧ Below w.heap.size w w') := fun w hb => wayOf_in l ap hap hl h0 hok hun v w (h.blk hb)
  have hko := chOk_of hl hok
  have HB := Hid.mk (below_in n en hn hen hu hq)
  have HU : Hid (∀ w, Calls Tryz.prog 21 #[.string (nm en), .string (nm ap)] w fun e w' => e = .returned (.bool true) ∧ Below w.heap.size w w') := fun w => by have := under_yes en ap hen hap w; rwa [hue] at this
  have g0 := way_f0
  have g1 := way_f1
  have g2 := way_f2
  obtain ⟨q, cap, hv, _⟩ := id h
  clear hl h0 hok hun h
  subst hv
  generalize l.map (·.k) = ks at *
  generalize l.length = m at HW ⊢
  have F := Fm.start W
  have HN : Hid (∀ w cv, ChT w cv ks → Calls Tryz.prog 42 #[cv, .string (nm n), .string (nm en)] w fun e w' => e = .returned (.int .i64 (nearR ks n en)) ∧ Below w.heap.size w w') := fun w cv hc => noNear_in ks n en hko hn hen cv w hc.at
  generalize nearR ks n en = R at HN ⊢
  generalize nm n = sn at HB HN ⊢
  generalize nm en = se at HB HU HN ⊢
  generalize nm ap = sa at HU HW ⊢
  go_enter Tryz.func15, Tryz.ntmps15
  go_wp2_with fail
  refine (HB.out _).mono ?_
  rintro e u1 ⟨rfl, hb⟩
  replace F := F.blk hb
  clear hb
  go_wp2_with fail
  refine (HU.out _).mono ?_
  rintro e u1' ⟨rfl, hb⟩
  replace F := F.blk hb
  clear hb
  go_wp2_with fail
  refine (HW.out _ F.bel).mono ?_
  rintro e u2 ⟨⟨cv, rfl, hch⟩, hb⟩
  replace F := F.blk hb
  clear hb
  go_wp2_with fail
  refine (HN.out _ _ hch).mono ?_
  rintro e u3 ⟨rfl, hb⟩
  replace F := F.blk hb
  clear hb
  go_wp2
  go_ret
  exact ⟨rfl, F.bel⟩
end Go.Proofs.YtnchoogjjnjikaaGreatDoor
/- Layer 4's ground: words of 32 bits as the program's numbers; the small functions. -/
namespace Go.Proofs.YtnchoogjjnjikaaGreatDoor.G
set_option linter.unusedVariables false
open Go.RowKit
theorem size_list (s : ByteArray) : s.data.toList.length = s.size := rfl
theorem ba_ext {s t : ByteArray} (h : s.data.toList = t.data.toList) : s = t := by
  cases s; cases t; congr; exact Array.toList_inj.1 h
theorem ba_size (l : List UInt8) : (ByteArray.mk l.toArray).size = l.length := rfl
theorem getElem_list (s : ByteArray) (k : Nat) (h : k < s.size) : s.data.toList[k]'(by rw [size_list]; exact h) = s[k] := rfl
theorem heap_new (w : World) (o : Obj) : (w.alloc o).heap[w.heap.size]? = some o := by
  show (w.heap.push o)[w.heap.size]? = some o
  simp
theorem box_lt {W : World} {b : Nat} {o : Obj} (h : W.heap[b]? = some o) : b < W.heap.size := (Array.getElem?_eq_some_iff.1 h).1
theorem bthen {w w1 w2 : World} (h : Below w.heap.size w w1) (k : Below w1.heap.size w1 w2) : Below w.heap.size w w2 := h.trans (k.mono h.size)
theorem ret_int {k : IntKind} {a b : Int} (h : a = b) : Ending.returned (.int k a) = .returned (.int k b) := by rw [h]
theorem cell_block {w : World} {a : Addr} {v : Value} (h : w.cell? a = some v) : a.block < w.heap.size := by
  apply Classical.byContradiction
  intro hn
  have : w.heap[a.block]? = none := by simp; omega
  simp [World.cell?, this] at h
def rol (x : BitVec 32) (n : Nat) : BitVec 32 := x <<< n ||| x >>> (32 - n)
def cho (e x y : BitVec 32) : BitVec 32 := (e &&& x) ||| (~~~e &&& y)
def maj (x y z : BitVec 32) : BitVec 32 := (x &&& y) ||| (x &&& z) ||| (y &&& z)
theorem Hid.mk {p : Prop} (h : p) : Hid p := h
theorem Hid.out {p : Prop} (h : Hid p) : p := h
theorem bv_lt (x : BitVec 32) : x.toNat < 4294967296 := x.isLt
theorem bv_or (x y : BitVec 32) : bits .or .u32 (x.toNat : Int) (y.toNat : Int) = ((x ||| y).toNat : Int) := by
  rw [u32_or_nat _ _ (bv_lt x) (bv_lt y), BitVec.toNat_or]
theorem bv_and (x y : BitVec 32) : bits .and .u32 (x.toNat : Int) (y.toNat : Int) = ((x &&& y).toNat : Int) := by
  rw [u32_and_nat _ _ (bv_lt x) (bv_lt y), BitVec.toNat_and]
theorem bv_xor (x y : BitVec 32) : bits .xor .u32 (x.toNat : Int) (y.toNat : Int) = ((x ^^^ y).toNat : Int) := by
  rw [u32_xor_nat _ _ (bv_lt x) (bv_lt y), BitVec.toNat_xor]
theorem bv_not (x : BitVec 32) : bits .xor .u32 4294967295 (x.toNat : Int) = ((~~~x).toNat : Int) := by
  have : ((4294967295#32).toNat : Int) = 4294967295 := rfl
  rw [← this, bv_xor]
  congr 2
theorem bv_shl (x : BitVec 32) (n : Nat) (h : n < 32) : IntKind.u32.wrap ((x.toNat : Int) * 2 ^ n) = ((x <<< n).toNat : Int) := by
  rw [IntKind.wrap_u32, BitVec.toNat_shiftLeft, Nat.shiftLeft_eq, show ((x.toNat : Int) * 2 ^ n) = ((x.toNat * 2 ^ n : Nat) : Int) by rw [Int.natCast_mul, Int.natCast_pow]; rfl]
  generalize x.toNat * 2 ^ n = m
  omega
theorem bv_shr (x : BitVec 32) (n : Nat) : (x.toNat : Int) / 2 ^ n = ((x >>> n).toNat : Int) := by
  rw [BitVec.toNat_ushiftRight, Nat.shiftRight_eq_div_pow, Int.natCast_ediv, Int.natCast_pow]
  rfl
theorem bm_add (x y : BitVec 32) : ((x.toNat : Int) + (y.toNat : Int)) % 4294967296 = ((x + y).toNat : Int) := by
  rw [BitVec.toNat_add]
  omega
theorem bm_shl (x : BitVec 32) (n : Nat) (h : n < 32) : (x.toNat : Int) * 2 ^ n % 4294967296 = ((x <<< n).toNat : Int) := by
  rw [← bv_shl x n h, IntKind.wrap_u32]
theorem u32max : IntKind.u32.max = 4294967295 := by decide
theorem cells_put {W : World} {b j : Nat} {cs : Array Value} {t : TypeId} (h : W.heap[b]? = some (.cells cs t (0, 0))) (u : Value) : (W.setCell ⟨b, j, none⟩ u).heap[b]? = some (.cells (cs.setIfInBounds j u) t (0, 0)) := by
  simp only [World.setCell, Array.getElem?_modify, h]
  rfl
theorem cells_at {W : World} {b j : Nat} {cs : Array Value} {t : TypeId} {v : Value} (h : W.heap[b]? = some (.cells cs t (0, 0))) (hj : cs[j]? = some v) : W.cell? ⟨b, j, none⟩ = some v ∧ W.frozen? ⟨b, j, none⟩ = false := by
  simp [World.cell?, World.frozen?, h, hj]
theorem below_dn (w : World) (j : Nat) : Below w.heap.size w (w.drewN j) := ⟨rfl, rfl, rfl, Nat.le_refl _, fun _ _ => rfl⟩
end Go.Proofs.YtnchoogjjnjikaaGreatDoor.G
/- left, right, choice, majority, round1. -/
namespace Go.Proofs.YtnchoogjjnjikaaGreatDoor.G
set_option linter.unusedVariables false
open Go.RowKit
theorem left_in (x : BitVec 32) (n : Nat) (h1 : 1 ≤ n) (h2 : n ≤ 31) (w : World) :
    Calls Tryz.prog 108 #[.int .u32 (x.toNat : Int), .int .i64 (n : Int)] w fun e w' => e = .returned (.int .u32 ((rol x n).toNat : Int)) ∧ ∃ j, w' = w.drewN j := by
  go_enter Tryz.func108, Tryz.ntmps108
  go_wp2
  go_quiet (fail)
  go_wp2
  go_ret
  exact ⟨ret_int (by rw [bm_shl x _ (by omega), bv_shr, bv_or]; rfl), _, rfl⟩
theorem choice_in (x y z : BitVec 32) (w : World) :
    Calls Tryz.prog 133 #[.int .u32 (x.toNat : Int), .int .u32 (y.toNat : Int), .int .u32 (z.toNat : Int)] w fun e w' => e = .returned (.int .u32 ((cho x y z).toNat : Int)) ∧ w' = w := by
  go_enter Tryz.func133, Tryz.ntmps133
  go_wp2
  go_ret
  exact ⟨ret_int (by rw [u32max, bv_not, bv_and, bv_and, bv_or]; rfl), rfl⟩
theorem majority_in (x y z : BitVec 32) (w : World) :
    Calls Tryz.prog 134 #[.int .u32 (x.toNat : Int), .int .u32 (y.toNat : Int), .int .u32 (z.toNat : Int)] w fun e w' => e = .returned (.int .u32 ((maj x y z).toNat : Int)) ∧ w' = w := by
  go_enter Tryz.func134, Tryz.ntmps134
  go_wp2
  go_ret
  exact ⟨ret_int (by rw [bv_and, bv_and, bv_and, bv_or, bv_or]; rfl), rfl⟩
def f1 (i : Nat) (b c d : BitVec 32) : BitVec 32 := if i < 20 then cho b c d else if i < 40 then b ^^^ c ^^^ d else if i < 60 then maj b c d else b ^^^ c ^^^ d
def k1 (i : Nat) : BitVec 32 := if i < 20 then 0x5a827999#32 else if i < 40 then 0x6ed9eba1#32 else if i < 60 then 0x8f1bbcdc#32 else 0xca62c1d6#32
set_option maxRecDepth 100000 in
theorem round1_in (i : Nat) (hi : i < 80) (b c d : BitVec 32) (w : World) :
    Calls Tryz.prog 107 #[.int .i64 (i : Int), .int .u32 (b.toNat : Int), .int .u32 (c.toNat : Int), .int .u32 (d.toNat : Int)] w fun e w' => e = .returned (.tuple #[.int .u32 ((f1 i b c d).toNat : Int), .int .u32 ((k1 i).toNat : Int)]) ∧ w' = w := by
  unfold f1 k1
  by_cases h1 : i < 20
  · have hd : (i : Int) / 20 = 0 := by omega
    have hd' : (i : Int).tdiv 20 = 0 := by rw [Int.tdiv_eq_ediv_of_nonneg (by omega)]; exact hd
    rw [if_pos h1, if_pos h1]
    go_enter Tryz.func107, Tryz.ntmps107
    go_wp2_with fail
    refine (choice_in _ _ _ _).mono ?_
    rintro e w1 ⟨rfl, rfl⟩
    go_wp2
    go_ret2
    exact ⟨rfl, rfl⟩
  · by_cases h2 : i < 40
    · have hd : (i : Int) / 20 = 1 := by omega
      have hd' : (i : Int).tdiv 20 = 1 := by rw [Int.tdiv_eq_ediv_of_nonneg (by omega)]; exact hd
      rw [if_neg h1, if_neg h1, if_pos h2, if_pos h2]
      go_enter Tryz.func107, Tryz.ntmps107
      go_wp2
      go_ret2
      exact ⟨by rw [bv_xor, bv_xor]; rfl, rfl⟩
    · by_cases h3 : i < 60
      · have hd : (i : Int) / 20 = 2 := by omega
        have hd' : (i : Int).tdiv 20 = 2 := by rw [Int.tdiv_eq_ediv_of_nonneg (by omega)]; exact hd
        rw [if_neg h1, if_neg h1, if_neg h2, if_neg h2, if_pos h3, if_pos h3]
        go_enter Tryz.func107, Tryz.ntmps107
        go_wp2_with fail
        refine (majority_in _ _ _ _).mono ?_
        rintro e w1 ⟨rfl, rfl⟩
        go_wp2
        go_ret2
        exact ⟨rfl, rfl⟩
      · have hd : (i : Int) / 20 = 3 := by omega
        have hd' : (i : Int).tdiv 20 = 3 := by rw [Int.tdiv_eq_ediv_of_nonneg (by omega)]; exact hd
        rw [if_neg h1, if_neg h1, if_neg h2, if_neg h2, if_neg h3, if_neg h3]
        go_enter Tryz.func107, Tryz.ntmps107
        go_wp2
        go_ret2
        exact ⟨by rw [bv_xor, bv_xor]; rfl, rfl⟩
def nb (n : Nat) : Nat := (n + 8) / 64 + 1
theorem blocks_in (n : Nat) (hn : n ≤ 140737488355328) (w : World) :
    Calls Tryz.prog 80 #[.int .i64 (n : Int)] w fun e w' => e = .returned (.int .i64 ((nb n : Nat) : Int)) ∧ w' = w := by
  have hd : ((n : Int) + 8).tdiv 64 = ((n : Int) + 8) / 64 := Int.tdiv_eq_ediv_of_nonneg (by omega)
  go_enter Tryz.func80, Tryz.ntmps80
  go_wp2
  go_ret
  exact ⟨ret_int (by unfold nb; first | omega | (simp; omega)), rfl⟩
end Go.Proofs.YtnchoogjjnjikaaGreatDoor.G
/- A block's words. -/
namespace Go.Proofs.YtnchoogjjnjikaaGreatDoor.G
set_option linter.unusedVariables false
open Go.RowKit
def bc (l : List UInt8) : Array Value := (l.map fun c => Value.int .u8 (c.toNat : Int)).toArray
def wc (l : List (BitVec 32)) : Array Value := (l.map fun x => Value.int .u32 (x.toNat : Int)).toArray
theorem bc_size (l : List UInt8) : (bc l).size = l.length := by simp [bc]
theorem wc_size (l : List (BitVec 32)) : (wc l).size = l.length := by simp [wc]
theorem bc_at (l : List UInt8) (k : Nat) : (bc l)[k]? = l[k]?.map fun c => Value.int .u8 (c.toNat : Int) := by simp [bc]
theorem wc_at (l : List (BitVec 32)) (k : Nat) : (wc l)[k]? = l[k]?.map fun x => Value.int .u32 (x.toNat : Int) := by simp [wc]
def w4 (a b c d : UInt8) : BitVec 32 := BitVec.ofNat 32 (a.toNat * 16777216 + b.toNat * 65536 + c.toNat * 256 + d.toNat)
def wd (l : List UInt8) (i : Nat) : BitVec 32 := w4 (l[4 * i]?.getD 0) (l[4 * i + 1]?.getD 0) (l[4 * i + 2]?.getD 0) (l[4 * i + 3]?.getD 0)
theorem or_sum (i a b : Nat) (h : b < 2 ^ i) : 2 ^ i * a ||| b = 2 ^ i * a + b := (Nat.two_pow_add_eq_or_of_lt h a).symm
theorem or4 (a b c d : Nat) (ha : a < 256) (hb : b < 256) (hc : c < 256) (hd : d < 256) :
    bits .or .u32 (bits .or .u32 (bits .or .u32 ((a : Int) * 16777216) ((b : Int) * 65536)) ((c : Int) * 256)) (d : Int) = ((a * 16777216 + b * 65536 + c * 256 + d : Nat) : Int) := by
  have e1 : a * 16777216 ||| b * 65536 = a * 16777216 + b * 65536 := by
    have := or_sum 24 a (b * 65536) (by omega); simp only [Nat.reducePow] at this; rw [Nat.mul_comm a]; exact this
  have e2 : (a * 16777216 + b * 65536) ||| c * 256 = a * 16777216 + b * 65536 + c * 256 := by
    have := or_sum 16 (a * 256 + b) (c * 256) (by omega); simp only [Nat.reducePow] at this
    rwa [show 65536 * (a * 256 + b) = a * 16777216 + b * 65536 by omega] at this
  have e3 : (a * 16777216 + b * 65536 + c * 256) ||| d = a * 16777216 + b * 65536 + c * 256 + d := by
    have := or_sum 8 (a * 65536 + b * 256 + c) d (by omega); simp only [Nat.reducePow] at this
    rwa [show 256 * (a * 65536 + b * 256 + c) = a * 16777216 + b * 65536 + c * 256 by omega] at this
  rw [show ((a : Int) * 16777216) = ((a * 16777216 : Nat) : Int) by omega, show ((b : Int) * 65536) = ((b * 65536 : Nat) : Int) by omega, show ((c : Int) * 256) = ((c * 256 : Nat) : Int) by omega]
  rw [u32_or_nat _ _ (by omega) (by omega), e1, u32_or_nat _ _ (by omega) (by omega), e2, u32_or_nat _ _ (by omega) (by omega), e3]
theorem w4_nat (a b c d : UInt8) : (w4 a b c d).toNat = a.toNat * 16777216 + b.toNat * 65536 + c.toNat * 256 + d.toNat := by
  have := a.toNat_lt
  have := b.toNat_lt
  have := c.toNat_lt
  have := d.toNat_lt
  unfold w4
  rw [BitVec.toNat_ofNat]
  omega
theorem word_in (W : World) (b : Nat) (l : List UInt8) (hl : l.length = 64) (h : W.heap[b]? = some (.cells (bc l) 121 (0, 0))) (i : Nat) (hi : i < 16) :
    Calls Tryz.prog 132 #[.pointer (some ⟨b, 0, none⟩), .int .i64 (i : Int)] W fun e w' => e = .returned (.int .u32 ((wd l i).toNat : Int)) ∧ ∃ j, w' = W.drewN j := by
  have get : ∀ k, k < 64 → W.cell? ⟨b, k, none⟩ = some (.int .u8 ((l[k]?.getD 0).toNat : Int)) := fun k hk =>
    (cells_at h (by rw [bc_at, List.getElem?_eq_getElem (by omega)]; rfl)).1
  have c0 := get (4 * i) (by omega)
  have c1 := get (4 * i + 1) (by omega)
  have c2 := get (4 * i + 2) (by omega)
  have c3 := get (4 * i + 3) (by omega)
  unfold wd
  generalize l[4 * i]?.getD 0 = x0 at c0 ⊢
  generalize l[4 * i + 1]?.getD 0 = x1 at c1 ⊢
  generalize l[4 * i + 2]?.getD 0 = x2 at c2 ⊢
  generalize l[4 * i + 3]?.getD 0 = x3 at c3 ⊢
  clear get h hl
  have p0 := x0.toNat_lt
  have p1 := x1.toNat_lt
  have p2 := x2.toNat_lt
  have p3 := x3.toNat_lt
  go_enter Tryz.func132, Tryz.ntmps132
  go_wp2
  go_quiet (fail)
  go_wp2
  go_ret
  exact ⟨ret_int (by rw [w4_nat]; exact or4 _ _ _ _ p0 p1 p2 p3), _, rfl⟩
end Go.Proofs.YtnchoogjjnjikaaGreatDoor.G
/- SHA-1 and SHA-256 as plain functions. Nothing here speaks of the program. -/
namespace Go.Proofs.YtnchoogjjnjikaaGreatDoor.G
set_option linter.unusedVariables false
def bt (m k : Nat) : UInt8 := UInt8.ofNat (m / 2 ^ (8 * k))
def padAt (s : List UInt8) (p : Nat) : UInt8 := if p < s.length then s[p]?.getD 0 else if p = s.length then 128 else if p < 64 * nb s.length - 8 then 0 else bt (8 * s.length) (64 * nb s.length - 1 - p)
def blk (s : List UInt8) (k : Nat) : List UInt8 := (List.range 64).map fun j => padAt s (64 * k + j)
theorem blk_len (s : List UInt8) (k : Nat) : (blk s k).length = 64 := by simp [blk]
def nx1 (l : List UInt8) (p : List (BitVec 32)) (i : Nat) : BitVec 32 := if i < 16 then wd l i else rol (p[i - 3]?.getD 0 ^^^ p[i - 8]?.getD 0 ^^^ p[i - 14]?.getD 0 ^^^ p[i - 16]?.getD 0) 1
def sch1 (l : List UInt8) : Nat → List (BitVec 32)
  | 0 => []
  | i + 1 => sch1 l i ++ [nx1 l (sch1 l i) i]
theorem sch1_len (l : List UInt8) : ∀ n, (sch1 l n).length = n
  | 0 => rfl
  | n + 1 => by rw [sch1, List.length_append, sch1_len l n]; rfl
structure S5 where (a b c d e : BitVec 32)
def st1 (x : BitVec 32) (i : Nat) (s : S5) : S5 := ⟨rol s.a 5 + f1 i s.b s.c s.d + s.e + k1 i + x, s.a, rol s.b 30, s.c, s.d⟩
def rn1 (ws : List (BitVec 32)) : Nat → S5 → S5
  | 0, s => s
  | i + 1, s => st1 (ws[i]?.getD 0) i (rn1 ws i s)
def add5 (s t : S5) : S5 := ⟨s.a + t.a, s.b + t.b, s.c + t.c, s.d + t.d, s.e + t.e⟩
def stir1 (s : S5) (l : List UInt8) : S5 := add5 s (rn1 (sch1 l 80) 80 s)
def go1 (s : List UInt8) : Nat → S5
  | 0 => ⟨0x67452301#32, 0xefcdab89#32, 0x98badcfe#32, 0x10325476#32, 0xc3d2e1f0#32⟩
  | k + 1 => stir1 (go1 s k) (blk s k)
def b4 (x : BitVec 32) : List UInt8 := [bt x.toNat 3, bt x.toNat 2, bt x.toNat 1, bt x.toNat 0]
def S5.l (s : S5) : List (BitVec 32) := [s.a, s.b, s.c, s.d, s.e]
def sha1 (s : List UInt8) : List UInt8 := (go1 s (nb s.length)).l.flatMap b4
structure S8 where (a b c d e f g h : BitVec 32)
def S8.l (s : S8) : List (BitVec 32) := [s.a, s.b, s.c, s.d, s.e, s.f, s.g, s.h]
theorem sha1_len (s : List UInt8) : (sha1 s).length = 20 := rfl
end Go.Proofs.YtnchoogjjnjikaaGreatDoor.G