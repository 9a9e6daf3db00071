/- Texts of this proof, joined: DSplit2, DOther, Shelf, DTold, Draft, DHex. -/
import Derived.Test.YtdlcldjlfhmlgaaGreatDoorJ3
import Derived.Shelf.Strings.Builder1
import Derived.Shelf.Strings.Builder2
import Derived.Shelf.Strings.OnBuilder
import Derived.Shelf.Small.Strs
import Derived.Shelf.Small.Wraps
import Derived.Shelf.Strings.BuilderF
import Derived.Shelf.Strconv.Itoa0
import Derived.Shelf.Strconv.Itoa1
import Derived.Shelf.LaysM
import Derived.Shelf.Strconv.Itoa2
import Derived.Shelf.Strconv.Itoa3
import Derived.Shelf.Strconv.Itoa4
import Derived.Shelf.Strconv.ParseIntEmpty
import Derived.Shelf.Strconv.Clone
import Derived.Shelf.Strconv.SyntaxError
import Derived.Shelf.LaysC
import Derived.Shelf.Strconv.ToError
import Derived.Shelf.Strconv.Lower
import Derived.Shelf.Strconv.ParseUint10
import Derived.Shelf.Strconv.ParseUint10Empty
import Derived.Shelf.Strconv.ParseUint10Any
import Derived.Shelf.Strconv.ParseInt10
import Derived.Shelf.Strconv.RangeError
import Derived.Shelf.Strconv.ToErrorRange
import Derived.Shelf.Strconv.ParseUintEmpty
import Derived.Shelf.Strconv.ParseUint10b64
import Derived.Shelf.Strconv.ParseUint10b32
import Derived.Shelf.Strconv.ParseUint10b16
import Derived.Shelf.Strconv.ParseUint10b8
import Derived.Shelf.Strconv.ParseUint10At
import Derived.Shelf.Strconv.ParseInt10At64
import Derived.Shelf.Strconv.ParseInt10At32
import Derived.Shelf.Strconv.ParseInt10At16
import Derived.Shelf.Strconv.ParseInt10At8
import Derived.Shelf.Strconv.ParseInt10All
import Derived.Shelf.Strconv.ParseIntPublic10
import Derived.Shelf.Strings.Search1
import Derived.Shelf.Strings.Search2
import Derived.Shelf.Strings.Search3
import Derived.Shelf.Strings.Cut
import Derived.Shelf.Strings.Count
import Derived.Shelf.Strings.Shaped
import Derived.Shelf.Strings.Prefix
import Derived.Shelf.Strings.Split
import Derived.Shelf.Strings.SplitShaped
import Derived.Shelf.Unicode.DecodeSlow
import Derived.Test.YtdlcldjlfhmlgaaGreatDoorProg
import Derived.Lib.AppendStr
import Derived.Maps.AppendAt
import Derived.RangeFuncBox
import Derived.Test.YtdlcldjlfhmlgaaGreatDoorJ2
import Derived.Deep.RegionLaw
set_option linter.unusedVariables false
set_option linter.unusedSimpArgs false
/- split, with sound around its work; Right. -/
namespace Go.Proofs.YtdlcldjlfhmlgaaGreatDoor
open Go.RowKit
def SoundPost (R : Option (List ByteArray)) (b : Nat) (W : World) (e : Ending) (w' : World) : Prop := (match R with
 | some ps => e = .returned (.bool true) ∧ ∃ v, w'.ownsRow W.heap.size 9 1 v ps.length (baV ps) ∧ w'.heap[b]? = some (.cells #[v] 42 (0, 0))
 | none => e = .returned (.bool false) ∧ w'.heap[b]? = W.heap[b]?) ∧ Kept b W w'
theorem alloc_old (W : World) (o : Obj) (b : Nat) (hb : b < W.heap.size) : (W.alloc o).heap[b]? = W.heap[b]? := ((Below.refl W.heap.size W).alloc (Nat.le_refl _) o).block b hb
theorem kept_box {bp : Nat} {W w1 : World} {o : Obj} (h : Kept bp (W.alloc o) w1) (v : Value) : Kept bp W (w1.setCell ⟨W.heap.size, 0, none⟩ v) := by
 have hs := h.size
 simp at hs
 refine ⟨h.os, h.tape, h.output, by simp [World.setCell]; omega, fun b hb hd => ?_⟩
 rw [Below.heap_setCell w1 ⟨W.heap.size, 0, none⟩ v b (show b ≠ W.heap.size by omega), h.same b (by simp; omega) hd, alloc_old W o b hb]
set_option maxRecDepth 100000 in
set_option maxHeartbeats 2000000 in
theorem soundSplit_in (W : World) (bk bd bp n : Nat) (hn : n ≤ 20) (k : Int) (s : ByteArray) (hs : s.size ≤ 2000) (v0 : Value) (pf : Nat → ByteArray → Option Nat)
  (hk : W.heap[bk]? = some (.cells #[.int .i64 k] 3 (0, 0))) (hd : W.heap[bd]? = some (.cells #[.string s] 9 (0, 0))) (hp : W.heap[bp]? = some (.cells #[v0] 42 (0, 0)))
  (hparts : ∀ w, Calls Tryz.prog 145 #[.int .i64 k] w fun e w' => PartsPost n pf w e w') :
  Calls Tryz.prog 157 #[fnV 158 #[boxV bk, boxV bd, boxV bp]] W fun e w' => SoundPost (fin pf n s) bp W e w' := by
 have hmf := mkf
 have hal : ∀ o, Below W.heap.size W (W.alloc o) := fun o => (Below.refl _ _).alloc (Nat.le_refl _) o
 have HW := Hid.mk (fun (o : Obj) => split1_in (W.alloc o) bk bd bp n hn k s hs v0 pf (((hal o).block bk (box_lt hk)).trans hk) (((hal o).block bd (box_lt hd)).trans hd) (((hal o).block bp (box_lt hp)).trans hp) hparts)
 clear hparts
 obtain ⟨R, hR⟩ : ∃ R, fin pf n s = R := ⟨_, rfl⟩
 rw [hR] at HW ⊢
 clear hR
 cases R with
 | none =>
  go_enter_defers Tryz.func157, Tryz.ntmps157
  go_wp2_with fail
  refine (HW.out _).mono ?_
  rintro e w1 ⟨⟨rfl, hb⟩, hkp⟩
  have hbox : w1.heap[W.heap.size]? = some (.cells #[.bool false] 4 (0, 0)) := (hkp.same _ (by simp) (by have := box_lt hp; omega)).trans (heap_new _ _)
  go_wp2
  refine leaves_cons (f := 175) (args := #[boxV W.heap.size]) (by simp) (by simp [go_sem]) ?_
  refine (catch_panic W.heap.size w1 false hbox []).mono ?_
  rintro e u' w2 ⟨rfl, rfl, rfl⟩
  have hbp := box_lt hp
  have hs2 := box_cell (box_set hbox (.bool false))
  simp [Leaves, settle, results, Tryz.results157, go_sem, hs2]
  refine ⟨⟨rfl, ?_⟩, kept_box hkp _⟩
  rw [Below.heap_setCell w1 ⟨W.heap.size, 0, none⟩ _ bp (show bp ≠ W.heap.size by omega), hb, alloc_old W _ bp hbp]
 | some ps =>
  go_enter_defers Tryz.func157, Tryz.ntmps157
  go_wp2_with fail
  refine (HW.out _).mono ?_
  rintro e w1 ⟨⟨rfl, v, hrow, hb⟩, hkp⟩
  have hbox : w1.heap[W.heap.size]? = some (.cells #[.bool false] 4 (0, 0)) := (hkp.same _ (by simp) (by have := box_lt hp; omega)).trans (heap_new _ _)
  have hbc := box_cell hbox
  have hbf := box_frozen hbox
  go_wp2
  refine leaves_cons (f := 175) (args := #[boxV W.heap.size]) (by simp) (by simp [go_sem]) ?_
  refine (catch_idle W.heap.size _).mono ?_
  rintro e u' w2 ⟨rfl, rfl, rfl⟩
  have hbp := box_lt hp
  have hs2 := box_cell (box_set hbox (.bool true))
  simp [Leaves, settle, results, Tryz.results157, go_sem, hs2]
  refine ⟨⟨rfl, v, ?_, ?_⟩, kept_box hkp _⟩
  ·refine row_down (n₁ := (W.alloc (.cells #[.bool false] 4)).heap.size) (row_kept' hrow (Kept.set _ _ _ _) (by simp)) (by simp)
  ·rw [Below.heap_setCell w1 ⟨W.heap.size, 0, none⟩ _ bp (show bp ≠ W.heap.size by omega)]; exact hb
def SplitPost (R : Option (List ByteArray)) (W : World) (e : Ending) (w' : World) : Prop := (match R with
 | some ps => ∃ v, e = .returned (.tuple #[v, .bool true]) ∧ w'.ownsRow W.heap.size 9 1 v ps.length (baV ps)
 | none => e = .returned (.tuple #[.slice none 0 0, .bool false])) ∧ Below W.heap.size W w'
set_option maxRecDepth 100000 in
theorem split_long (W : World) (k : Int) (s : ByteArray) (hm : s.size ≤ maxLen) (h : decide (0 ≤ k ∧ k ≤ 65535) = false ∨ 2000 < s.size) :
  Calls Tryz.prog 143 #[.int .i64 k, .string s] W fun e w' => SplitPost none W e w' := by
 unfold maxLen at hm
 cases hd : decide (0 ≤ k ∧ k ≤ 65535) with
 | false =>
  go_enter Tryz.func143, Tryz.ntmps143
  go_wp2_with fail
  refine (isType_in k _).mono ?_
  rintro e w1 ⟨rfl, rfl⟩
  rw [hd]
  go_wp2
  refine bodyPost_ret (v := .tuple #[.slice none 0 0, .bool false]) (by simp [results, Tryz.results143, go_sem]) rfl ⟨rfl, ?_⟩
  exact (((Below.refl _ _).alloc (Nat.le_refl _) _).alloc (by simp) _).alloc (by simp; omega) _
 | true =>
  have hl : 2000 < s.size := by
   rcases h with h | h
   ·rw [hd] at h; cases h
   ·exact h
  clear h
  go_enter Tryz.func143, Tryz.ntmps143
  go_wp2_with fail
  refine (isType_in k _).mono ?_
  rintro e w1 ⟨rfl, rfl⟩
  rw [hd]
  go_wp2
  refine bodyPost_ret (v := .tuple #[.slice none 0 0, .bool false]) (by simp [results, Tryz.results143, go_sem]) rfl ⟨rfl, ?_⟩
  exact (((Below.refl _ _).alloc (Nat.le_refl _) _).alloc (by simp) _).alloc (by simp; omega) _
set_option maxRecDepth 100000 in
set_option maxHeartbeats 2000000 in
theorem split_in (W : World) (n : Nat) (hn : n ≤ 20) (k : Int) (hk : 0 ≤ k ∧ k ≤ 65535) (s : ByteArray) (hs : s.size ≤ 2000) (pf : Nat → ByteArray → Option Nat)
  (hparts : ∀ w, Calls Tryz.prog 145 #[.int .i64 k] w fun e w' => PartsPost n pf w e w') :
  Calls Tryz.prog 143 #[.int .i64 k, .string s] W fun e w' => SplitPost (fin pf n s) W e w' := by
 have hmf := mkf
 have hd : decide (0 ≤ k ∧ k ≤ 65535) = true := by simp [hk]
 obtain ⟨W3, hW3⟩ : ∃ W3, W3 = (((W.alloc (.cells #[.int .i64 k] 3)).alloc (.cells #[.string s] 9)).alloc (.cells #[.slice none 0 0] 42)) := ⟨_, rfl⟩
 have hk3 : W3.heap[W.heap.size]? = some (.cells #[.int .i64 k] 3 (0, 0)) := by
  rw [hW3, alloc_old _ _ _ (by simp; omega), alloc_old _ _ _ (by simp)]; exact heap_new _ _
 have hd3 : W3.heap[W.heap.size + 1]? = some (.cells #[.string s] 9 (0, 0)) := by
  rw [hW3, alloc_old _ _ _ (by simp)]
  have := heap_new (W.alloc (.cells #[.int .i64 k] 3)) (.cells #[.string s] 9)
  rwa [World.size_alloc] at this
 have hp3 : W3.heap[W.heap.size + 1 + 1]? = some (.cells #[.slice none 0 0] 42 (0, 0)) := by
  rw [hW3]
  have := heap_new ((W.alloc (.cells #[.int .i64 k] 3)).alloc (.cells #[.string s] 9)) (.cells #[.slice none 0 0] 42)
  rwa [World.size_alloc, World.size_alloc] at this
 have hsz3 : W3.heap.size = W.heap.size + 3 := by rw [hW3]; simp
 have hbl3 : Below W.heap.size W W3 := by
  rw [hW3]; exact (((Below.refl _ _).alloc (Nat.le_refl _) _).alloc (by simp) _).alloc (by simp; omega) _
 have HS := Hid.mk (soundSplit_in W3 W.heap.size (W.heap.size + 1) (W.heap.size + 1 + 1) n hn k s hs _ pf hk3 hd3 hp3 hparts)
 obtain ⟨R, hR⟩ : ∃ R, fin pf n s = R := ⟨_, rfl⟩
 rw [hR] at HS ⊢
 have HP3 := Hid.mk hp3
 clear hR hk3 hd3 hparts hp3
 have HW3 := Hid.mk hW3
 cases R with
 | none =>
  go_enter Tryz.func143, Tryz.ntmps143
  go_wp2_with fail
  refine (isType_in k _).mono ?_
  rintro e w1 ⟨rfl, rfl⟩
  rw [hd]
  go_wp2_with fail
  rw [← HW3.out]
  refine HS.out.mono ?_
  rintro e w2 ⟨⟨rfl, hb⟩, hkp⟩
  have hb2 := hb.trans HP3.out
  have hc2 := box_cell hb2
  have hf2 := box_frozen hb2
  clear hW3
  go_wp2
  have hc4 := box_cell (box_set hb2 (.slice none 0 0))
  refine bodyPost_ret (v := .tuple #[.slice none 0 0, .bool false]) (by simp [results, Tryz.results143, go_sem, hc4]) rfl ⟨rfl, ?_⟩
  exact (hbl3.trans (hkp.below (n := W.heap.size) (by omega) (by omega))).setCell (p := ⟨W.heap.size + 1 + 1, 0, none⟩) (show W.heap.size ≤ W.heap.size + 1 + 1 by omega) _
 | some ps =>
  go_enter Tryz.func143, Tryz.ntmps143
  go_wp2_with fail
  refine (isType_in k _).mono ?_
  rintro e w1 ⟨rfl, rfl⟩
  rw [hd]
  go_wp2_with fail
  rw [← HW3.out]
  refine HS.out.mono ?_
  rintro e w2 ⟨⟨rfl, v, hrow, hb2⟩, hkp⟩
  obtain ⟨q, c, hv⟩ := row_as hrow
  subst hv
  have hc2 := box_cell hb2
  have hf2 := box_frozen hb2
  clear hW3
  go_wp2
  have hc4 := box_cell (box_set hb2 (.slice q ps.length c))
  refine bodyPost_ret (v := .tuple #[.slice q ps.length c, .bool true]) (by simp [results, Tryz.results143, go_sem, hc4]) rfl ⟨⟨_, rfl, ?_⟩, ?_⟩
  ·exact row_down (row_kept' hrow (Kept.set (W.heap.size + 1 + 1) 0 _ _) (by omega)) (by omega)
  ·exact (hbl3.trans (hkp.below (n := W.heap.size) (by omega) (by omega))).setCell (p := ⟨W.heap.size + 1 + 1, 0, none⟩) (show W.heap.size ≤ W.heap.size + 1 + 1 by omega) _
theorem right_of {k : Int} {s : ByteArray} {R : Option (List ByteArray)} (h : ∀ W, Calls Tryz.prog 143 #[.int .i64 k, .string s] W fun e w' => SplitPost R W e w') (W : World) :
  Calls Tryz.prog 113 #[.int .i64 k, .string s] W fun e w' => e = .returned (.bool R.isSome) ∧ Below W.heap.size W w' := by
 have H := Hid.mk h
 clear h
 cases R with
 | none =>
  go_enter Tryz.func113, Tryz.ntmps113
  go_wp2_with fail
  refine (H.out _).mono ?_
  rintro e w1 ⟨rfl, hb⟩
  go_wp2
  go_ret
  exact ⟨rfl, hb⟩
 | some ps =>
  go_enter Tryz.func113, Tryz.ntmps113
  go_wp2_with fail
  refine (H.out _).mono ?_
  rintro e w1 ⟨⟨v, rfl, _⟩, hb⟩
  go_wp2
  go_ret
  exact ⟨rfl, hb⟩
end Go.Proofs.YtdlcldjlfhmlgaaGreatDoor
/- Types that are none of the table: any bytes. -/
namespace Go.Proofs.YtdlcldjlfhmlgaaGreatDoor
open Go.RowKit
theorem enters_by {f : Nat} {fn : Func} {c : Code} (hf : Tryz.prog.funcs[f]? = some fn) (hname : (fn.name == "runtime.NumGoroutine") = false) (hb : fn.body = some c) : Enters f := by
 intro args w
 have h1 : fn.name ≠ "runtime.NumGoroutine" := by simpa using hname
 simp [callFunc, hf, h1, hb]
theorem anyPass_in (W : World) (d : Nat) (s : ByteArray) (hs : s.size ≤ 2000) (h : Rd W d s) :
  Calls Tryz.prog 219 #[boxV d] W fun e w' => PassPost (some s.size) s d W w' e := by
 go_enter Tryz.func219, Tryz.ntmps219
 go_wp2_with fail
 refine (all_in W d s (by unfold maxLen; omega) h).mono ?_
 rintro e w1 ⟨rfl, rfl⟩
 go_wp2
 have e2 : s.extract s.size s.size = ⟨#[]⟩ := by apply ByteArray.ext; simp
 refine bodyPost_end (results_none rfl _ _ _) rfl ⟨Nat.le_refl _, rfl, ?_, Kept.set _ _ _ _⟩
 rw [e2]; exact h.set _
def otherPart : Part := ⟨219, #[], 220, #[], 222, #[], false⟩
end Go.Proofs.YtdlcldjlfhmlgaaGreatDoor
/- The library's contracts, laid by program for this dump. -/
namespace Go.Proofs
open Go.Shelf
def Tryz.lays156_ren : Go.Shelf.Ren := ⟨fun | 156 => 146 | 165 => 170 | 166 => 171 | 169 => 172 | 240 => 223 | 241 => 224 | 276 => 240 | 277 => 241 | n => n, fun | 31 => 42 | 9 => 9 | 3 => 3 | 4 => 4 | 0 => 0 | 20 => 20 | 72 => 236 | 76 => 240 | 70 => 234 | 37 => 143 | 75 => 239 | 127 => 162 | 164 => 263 | 5 => 5 | 80 => 150 | n => n, fun | n => n⟩
theorem Tryz.lays156 : Go.Proofs.Lays.n156 Tryz.prog Tryz.lays156_ren := {
 mixed := by kernel_rfl
 f156 := Tryz.func146.trans (congrArg some (by kernel_rfl))
 f165 := Tryz.func170.trans (congrArg some (by kernel_rfl))
 f166 := Tryz.func171.trans (congrArg some (by kernel_rfl))
 f169 := Tryz.func172.trans (congrArg some (by kernel_rfl))
 f240 := Tryz.func223.trans (congrArg some (by kernel_rfl))
 f241 := Tryz.func224.trans (congrArg some (by kernel_rfl))
 f276 := Tryz.func240.trans (congrArg some (by kernel_rfl))
 f277 := Tryz.func241.trans (congrArg some (by kernel_rfl))
 t0 := Tryz.underlying0
 a0 := Tryz.isAgg0
 z0 := Tryz.sizeOf0
 v0 := Tryz.zeroValue0
 t3 := Tryz.underlying3
 a3 := Tryz.isAgg3
 z3 := Tryz.sizeOf3
 v3 := Tryz.zeroValue3
 t4 := Tryz.underlying4
 a4 := Tryz.isAgg4
 z4 := Tryz.sizeOf4
 v4 := Tryz.zeroValue4
 t9 := Tryz.underlying9
 a9 := Tryz.isAgg9
 z9 := Tryz.sizeOf9
 v9 := Tryz.zeroValue9
 t20 := Tryz.underlying20
 a20 := Tryz.isAgg20
 z20 := Tryz.sizeOf20
 v20 := Tryz.zeroValue20
 t31 := Tryz.underlying42
 a31 := Tryz.isAgg42
 z31 := Tryz.sizeOf42
 v31 := Tryz.zeroValue42
 t37 := Tryz.underlying143
 a37 := Tryz.isAgg143
 z37 := Tryz.sizeOf143
 v37 := Tryz.zeroValue143
 t70 := Tryz.underlying234
 a70 := Tryz.isAgg234
 z70 := Tryz.sizeOf234
 v70 := Tryz.zeroValue234
 t72 := Tryz.underlying236
 a72 := Tryz.isAgg236
 z72 := Tryz.sizeOf236
 v72 := Tryz.zeroValue236
 t75 := Tryz.underlying239
 a75 := Tryz.isAgg239
 z75 := Tryz.sizeOf239
 v75 := Tryz.zeroValue239
 t76 := Tryz.underlying240
 a76 := Tryz.isAgg240
 z76 := Tryz.sizeOf240
 v76 := Tryz.zeroValue240
 t127 := Tryz.underlying162
 a127 := Tryz.isAgg162
 z127 := Tryz.sizeOf162
 v127 := Tryz.zeroValue162
 t164 := Tryz.underlying263
 a164 := Tryz.isAgg263
 z164 := Tryz.sizeOf263
 v164 := Tryz.zeroValue263 }
theorem Tryz.Builder_Extra_156 : Builder.Extra Tryz.prog Tryz.lays156_ren := {
 sizeBuilder := by kernel_rfl
 liesBuilder := by kernel_rfl
 t5 := Tryz.underlying5
 a5 := Tryz.isAgg5
 z5 := Tryz.sizeOf5
 v5 := Tryz.zeroValue5
 infoByte := by kernel_rfl
 cellsByte := by kernel_rfl
 sizeByte := by kernel_rfl
 neB5 := by decide }
open Go.RowKit in
theorem Tryz.strings_Join_none (a : Option Addr) (c : Nat) (sep : ByteArray) (w : World) :
  Calls Tryz.prog 146 #[.slice a 0 c, .string sep] w fun e w' => e = .returned (.string ⟨#[]⟩) ∧ w' = w := Any.strings_Join_none Tryz.lays156 Tryz.Builder_Extra_156 a c sep w
open Go.RowKit in
theorem Tryz.strings_Join (bk o c : Nat) (xs : List ByteArray) (sep : ByteArray) (w : World) (hcells : ∀ (j : Nat) x, xs[j]? = some x → w.cell? ⟨bk, o + j, none⟩ = some (.string x)) (hbk : bk < w.heap.size) (hN : xs.length ≤ 140737488355328) (hcap : xs.length ≤ c) (hlen : (Lib.join (xs.map (·.data.toList)) sep.data.toList).length ≤ 140737488355328) :
  Calls Tryz.prog 146 #[.slice (some ⟨bk, o, none⟩) xs.length c, .string sep] w fun e w' => e = .returned (.string ⟨(Lib.join (xs.map (·.data.toList)) sep.data.toList).toArray⟩) ∧ Below w.heap.size w w' := Any.strings_Join Tryz.lays156 Tryz.Builder_Extra_156 bk o c xs sep w hcells hbk hN hcap hlen
end Go.Proofs
/- told: data as a text. -/
namespace Go.Proofs.YtdlcldjlfhmlgaaGreatDoor
open Go.RowKit
theorem row_bel {W W' : World} {n₀ n : Nat} {e : TypeId} {v : Value} {xs : List Value} (h : W.ownsRow n₀ e 1 v n xs) (hb : Below W.heap.size W W') : W'.ownsRow n₀ e 1 v n xs := by
 refine ⟨h.1, ?_⟩
 rcases h.2 with h' | ⟨g, cap, cur, hv, hb', hg, hr⟩
 ·exact .inl h'
 ·exact .inr ⟨g, cap, cur, hv, hb', (hb.block g (box_lt hg)).trans hg, hr⟩
theorem rowBaseB {W : World} {n₀ n : Nat} {e : TypeId} {v : Value} {xs : List Value} (h : W.ownsRow n₀ e 1 v n xs) : ∀ k, v.ownBlock = some k → n₀ ≤ k := by
 intro k e
 rcases h.2 with ⟨rfl, _⟩ | ⟨g, cap, cur, rfl, hb, _⟩
 ·simp [Value.ownBlock] at e
 ·obtain rfl : g = k := by simpa [Value.ownBlock] using e
  exact hb
theorem row_cell {W : World} {n₀ n c : Nat} {e : TypeId} {q : Option Addr} {ps : List ByteArray} (h : W.ownsRow n₀ e 1 (.slice q n c) n (baV ps)) (j : Nat) (hj : j < ps.length) : ∃ g, q = some ⟨g, 0, none⟩ ∧ g < W.heap.size ∧ W.cell? ⟨g, j, none⟩ = some (.string ps[j]) := by
 have hn : ps.length = n := by have := h.1; simpa [baV] using this
 rcases h.2 with ⟨_, h0⟩ | ⟨g, cap, cur, hv, _, hg, _, _, _, ht⟩
 ·omega
 ·cases hv
  refine ⟨g, rfl, box_lt hg, ?_⟩
  have := Lib.cells_of_row (w := W) hg n j (.string ps[j]) (by rw [Nat.mul_one] at ht; rw [ht]; simp [baV, hj])
  rwa [add_at] at this
theorem join_row {W : World} {n₀ : Nat} {v : Value} {ws : List ByteArray} (sep : ByteArray) (h : W.ownsRow n₀ 9 1 v ws.length (baV ws)) (hl : ws.length ≤ 1000000) (hj : (Lib.join (ws.map (·.data.toList)) sep.data.toList).length ≤ 140737488355328) :
  Calls Tryz.prog 146 #[v, .string sep] W fun e w' => e = .returned (.string ⟨(Lib.join (ws.map (·.data.toList)) sep.data.toList).toArray⟩) ∧ Below W.heap.size W w' := by
 rcases h.2 with ⟨rfl, h0⟩ | ⟨g, cap, cur, rfl, _, hg, hc, _, _, ht⟩
 ·obtain rfl : ws = [] := List.length_eq_zero_iff.1 h0
  refine (Tryz.strings_Join_none none 0 sep W).mono ?_
  rintro e w' ⟨rfl, rfl⟩
  exact ⟨rfl, Below.refl _ _⟩
 ·refine Tryz.strings_Join g 0 cap ws sep W (fun j x hx => ?_) (box_lt hg) (by omega) hc hj
  obtain ⟨hjl, he⟩ := List.getElem?_eq_some_iff.1 hx
  have := Lib.cells_of_row (w := W) hg ws.length j (.string x) (by rw [Nat.mul_one] at ht; rw [ht]; simp [baV, hx])
  rw [add_at] at this
  rw [Nat.zero_add]; exact this
end Go.Proofs.YtdlcldjlfhmlgaaGreatDoor
/- The draft of a name: newDraft, add, name. -/
namespace Go.Proofs.YtdlcldjlfhmlgaaGreatDoor
open Go.RowKit
end Go.Proofs.YtdlcldjlfhmlgaaGreatDoor
/- hex: bytes as digits of four bits. -/
namespace Go.Proofs.YtdlcldjlfhmlgaaGreatDoor
open Go.RowKit
end Go.Proofs.YtdlcldjlfhmlgaaGreatDoor
