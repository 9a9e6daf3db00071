/- Texts of this proof, joined: DTxtTell3, DExA, DTxtForm, DPartsA, DPartsB, DPartsC. -/
import Derived.Test.YtikjepodmdaknaaGreatDoorJ7
import Derived.Test.YtikjepodmdaknaaGreatDoorJ6
import Derived.Deep.RegionHeld3
set_option linter.unusedVariables false
set_option linter.unusedSimpArgs false
/- TXT: how it is told, whole. -/
namespace Go.Proofs.YtikjepodmdaknaaGreatDoor
open Go.RowKit
end Go.Proofs.YtikjepodmdaknaaGreatDoor
/- The chapter's two readings of A. -/
namespace Go.Proofs.YtikjepodmdaknaaGreatDoor
open Go.RowKit
end Go.Proofs.YtikjepodmdaknaaGreatDoor
/- The form of TXT: split, told, read. -/
namespace Go.Proofs.YtikjepodmdaknaaGreatDoor
open Go.RowKit
abbrev txtP : Array Value := #[fnV 220 #[], fnV 221 #[], fnV 222 #[], .bool false]
theorem stringsPart_in (w : World) : Calls Tryz.prog 183 #[] w fun e w' => e = .returned (.agg txtP) ∧ Below w.heap.size w w' := by
 have hmf := mkf
 go_enter Tryz.func183, Tryz.ntmps183
 go_wp2
 exact bodyPost_ret (v := .agg txtP) (by simp [results, Tryz.results183, go_sem]) rfl ⟨rfl, by first | exact (Below.refl _ _).alloc (Nat.le_refl _) _ | exact Below.refl _ _⟩
set_option maxRecDepth 100000 in
theorem partsOf_T (w : World) : Calls Tryz.prog 161 #[.int .i64 16] w fun e w' => ∃ g, w.heap.size ≤ g ∧
  e = .returned (.slice (some ⟨g, 0, none⟩) 1 1) ∧ w'.heap[g]? = some (.cells txtP 262 (0, 0)) ∧ Below w.heap.size w w' := by
 have hmf := mkf
 go_enter Tryz.func161, Tryz.ntmps161
 go_wp2_with fail
 refine (numberPart_in _ _).mono ?_
 rintro e w1 ⟨rfl, ho1, hb1⟩
 go_wp2_with fail
 refine (numberPart_in _ _).mono ?_
 rintro e w2 ⟨rfl, ho2, hb2⟩
 go_wp2_with fail
 refine (numberPart_in _ _).mono ?_
 rintro e w3 ⟨rfl, ho3, hb3⟩
 clear ho1 ho2 ho3
 go_wp2_with fail
 refine (stringsPart_in _).mono ?_
 rintro e w4 ⟨rfl, hb4⟩
 have k3 : Below w.heap.size w w3 := bth (bth hb1 hb2 hb1.size) hb3 (Nat.le_trans hb1.size hb2.size)
 have s3 := k3.size
 have k6 : Below w.heap.size w w4 := (((k3.alloc s3 _).alloc (by simp; omega) _).alloc (by simp; omega) _).trans (hb4.mono (by simp; omega))
 clear hb1 hb2 hb3 hb4
 go_wp2
 go_ret
 exact ⟨w4.heap.size, k6.size, rfl, heap_new _ _, k6.alloc k6.size _⟩
def txtPart : Part := ⟨220, #[], 221, #[], 222, #[], false⟩
end Go.Proofs.YtikjepodmdaknaaGreatDoor
/- partsOf: the form of every type. -/
namespace Go.Proofs.YtikjepodmdaknaaGreatDoor
open Go.RowKit
instance : Inhabited Part := ⟨⟨0, #[], 0, #[], 0, #[], false⟩⟩
def partCells (p : Part) : List Value := [fnV p.pass p.passC, fnV p.tell p.tellC, fnV p.read p.readC, .bool p.name]
structure GrpB (W : World) (b c wd bs : Nat) (sp : UInt8) : Prop where
 cnt : W.heap[b]? = some (.cells #[.int .i64 c] 3 (0, 0))
 wid : W.heap[b + 1]? = some (.cells #[.int .i64 wd] 3 (0, 0))
 bas : W.heap[b + 2]? = some (.cells #[.int .i64 bs] 3 (0, 0))
 btw : W.heap[b + 3]? = some (.cells #[.string ⟨#[sp]⟩] 9 (0, 0))
def numPt (b : Nat) : Part := ⟨206, #[boxV b], 208, #[], 210, #[boxV b], false⟩
def namePt : Part := ⟨217, #[], 218, #[], 219, #[], true⟩
def typePt : Part := ⟨228, #[], 229, #[], 231, #[], false⟩
def hexPt : Part := ⟨223, #[], 225, #[], 226, #[], false⟩
def saltPt : Part := ⟨237, #[], 239, #[], 240, #[], false⟩
def hashPt : Part := ⟨242, #[], 243, #[], 245, #[], false⟩
def typesPt : Part := ⟨233, #[], 235, #[], 236, #[], false⟩
def PartIs (n₀ : Nat) (W : World) (p : Part) : PK → Prop
 | .num n => ∃ b, n₀ ≤ b ∧ p = numPt b ∧ n ≤ 100 ∧ W.heap[b]? = some (.cells #[.int .i64 n] 3 (0, 0))
 | .grp c w b s => ∃ x, n₀ ≤ x ∧ p = aPart x ∧ c * w ≤ 100 ∧ GrpB W x c w b s
 | .name => p = namePt
 | .type => p = typePt
 | .hex => p = hexPt
 | .salt => p = saltPt
 | .hash => p = hashPt
 | .types => p = typesPt
 | .any => p = otherPart
 | .strs => p = txtPart
def ArePts (n₀ : Nat) (W : World) : List Part → List PK → Prop
 | [], [] => True
 | p :: ps, k :: F => PartIs n₀ W p k ∧ ArePts n₀ W ps F
 | _, _ => False
theorem ArePts.len {n₀ : Nat} {W : World} : ∀ {ps : List Part} {F : List PK}, ArePts n₀ W ps F → ps.length = F.length
 | [], [], _ => rfl
 | p :: ps, k :: F, h => by have := ArePts.len h.2; simp [this]
 | [], _ :: _, h => h.elim
 | _ :: _, [], h => h.elim
theorem ArePts.at {n₀ : Nat} {W : World} : ∀ {ps : List Part} {F : List PK}, ArePts n₀ W ps F → ∀ (j : Nat) (k : PK), F[j]? = some k → PartIs n₀ W (ps.getD j default) k
 | [], [], _, j, k, h => by simp at h
 | p :: ps, q :: F, h, 0, k, hk => by simp at hk; subst hk; exact h.1
 | p :: ps, q :: F, h, j + 1, k, hk => by
  have := ArePts.at h.2 j k (by simpa using hk)
  simpa using this
 | [], _ :: _, h, _, _, _ => h.elim
 | _ :: _, [], h, _, _, _ => h.elim
theorem flat_at : ∀ (ps : List Part) (k j : Nat), k < ps.length → j < 4 → (ps.flatMap partCells)[k * 4 + j]? = (partCells (ps.getD k default))[j]?
 | [], k, j, h, _ => by simp at h
 | p :: ps, 0, j, _, hj => by
  rw [List.flatMap_cons, List.getElem?_append_left (by simp [partCells]; omega)]
  simp
 | p :: ps, k + 1, j, h, hj => by
  rw [List.flatMap_cons, List.getElem?_append_right (by simp [partCells]; omega)]
  have := flat_at ps k j (by simpa using h) hj
  rw [show (k + 1) * 4 + j - (partCells p).length = k * 4 + j by simp [partCells]; omega, this]
  simp
theorem parts_in {W : World} {g : Nat} {ps : List Part} (h : W.heap[g]? = some (.cells (ps.flatMap partCells).toArray 262 (0, 0))) : PartsIn W g ps.length (fun k => ps.getD k default) := by
 have key : ∀ k j, k < ps.length → j < 4 → W.cell? ⟨g, k * 4 + j, none⟩ = (partCells (ps.getD k default))[j]? := by
  intro k j hk hj
  rw [← flat_at ps k j hk hj]
  simp [World.cell?, h]
 refine ⟨fun _ => box_lt h, fun k hk => ?_, fun k hk => ?_, fun k hk => ?_, fun k hk => ?_⟩
 ·exact key k 0 hk (by omega)
 ·exact key k 1 hk (by omega)
 ·exact key k 2 hk (by omega)
 ·exact key k 3 hk (by omega)
def RawPost (F : List PK) (w : World) (e : Ending) (w' : World) : Prop :=
 ∃ g ps, e = .returned (.slice (some ⟨g, 0, none⟩) F.length F.length) ∧ w.heap.size ≤ g ∧ w'.heap[g]? = some (.cells (ps.flatMap partCells).toArray 262 (0, 0)) ∧ ArePts w.heap.size w' ps F ∧ Below w.heap.size w w'
abbrev namePa : Array Value := #[fnV 217 #[], fnV 218 #[], fnV 219 #[], .bool true]
abbrev typePa : Array Value := #[fnV 228 #[], fnV 229 #[], fnV 231 #[], .bool false]
abbrev hexPa : Array Value := #[fnV 223 #[], fnV 225 #[], fnV 226 #[], .bool false]
abbrev saltPa : Array Value := #[fnV 237 #[], fnV 239 #[], fnV 240 #[], .bool false]
abbrev hashPa : Array Value := #[fnV 242 #[], fnV 243 #[], fnV 245 #[], .bool false]
abbrev typesPa : Array Value := #[fnV 233 #[], fnV 235 #[], fnV 236 #[], .bool false]
theorem namePart_in (w : World) : Calls Tryz.prog 182 #[] w fun e w' => e = .returned (.agg namePa) ∧ Below w.heap.size w w' := by
 have hmf := mkf
 go_enter Tryz.func182, Tryz.ntmps182
 go_wp2
 exact bodyPost_ret (v := .agg namePa) (by simp [results, Tryz.results182, go_sem]) rfl ⟨rfl, by first | exact (Below.refl _ _).alloc (Nat.le_refl _) _ | exact Below.refl _ _⟩
theorem typePart_in (w : World) : Calls Tryz.prog 185 #[] w fun e w' => e = .returned (.agg typePa) ∧ Below w.heap.size w w' := by
 have hmf := mkf
 go_enter Tryz.func185, Tryz.ntmps185
 go_wp2
 exact bodyPost_ret (v := .agg typePa) (by simp [results, Tryz.results185, go_sem]) rfl ⟨rfl, by first | exact (Below.refl _ _).alloc (Nat.le_refl _) _ | exact Below.refl _ _⟩
theorem hexPart_in (w : World) : Calls Tryz.prog 184 #[] w fun e w' => e = .returned (.agg hexPa) ∧ Below w.heap.size w w' := by
 have hmf := mkf
 go_enter Tryz.func184, Tryz.ntmps184
 go_wp2
 exact bodyPost_ret (v := .agg hexPa) (by simp [results, Tryz.results184, go_sem]) rfl ⟨rfl, by first | exact (Below.refl _ _).alloc (Nat.le_refl _) _ | exact Below.refl _ _⟩
theorem saltPart_in (w : World) : Calls Tryz.prog 187 #[] w fun e w' => e = .returned (.agg saltPa) ∧ Below w.heap.size w w' := by
 have hmf := mkf
 go_enter Tryz.func187, Tryz.ntmps187
 go_wp2
 exact bodyPost_ret (v := .agg saltPa) (by simp [results, Tryz.results187, go_sem]) rfl ⟨rfl, by first | exact (Below.refl _ _).alloc (Nat.le_refl _) _ | exact Below.refl _ _⟩
theorem hashPart_in (w : World) : Calls Tryz.prog 188 #[] w fun e w' => e = .returned (.agg hashPa) ∧ Below w.heap.size w w' := by
 have hmf := mkf
 go_enter Tryz.func188, Tryz.ntmps188
 go_wp2
 exact bodyPost_ret (v := .agg hashPa) (by simp [results, Tryz.results188, go_sem]) rfl ⟨rfl, by first | exact (Below.refl _ _).alloc (Nat.le_refl _) _ | exact Below.refl _ _⟩
theorem typesPart_in (w : World) : Calls Tryz.prog 186 #[] w fun e w' => e = .returned (.agg typesPa) ∧ Below w.heap.size w w' := by
 have hmf := mkf
 go_enter Tryz.func186, Tryz.ntmps186
 go_wp2
 exact bodyPost_ret (v := .agg typesPa) (by simp [results, Tryz.results186, go_sem]) rfl ⟨rfl, by first | exact (Below.refl _ _).alloc (Nat.le_refl _) _ | exact Below.refl _ _⟩
structure Three (w W : World) (n : Nat) (b1 b2 b3 : Nat) : Prop where
 l1 : w.heap.size ≤ b1
 l2 : w.heap.size ≤ b2
 l3 : w.heap.size ≤ b3
 o1 : W.heap[b1]? = some (.cells #[.int .i64 1] 3 (0, 0))
 o2 : W.heap[b2]? = some (.cells #[.int .i64 2] 3 (0, 0))
 o3 : W.heap[b3]? = some (.cells #[.int .i64 4] 3 (0, 0))
 p1 : W.heap[n]? = some (.cells (numP b1) 262 (0, 0))
 p2 : W.heap[n + 1]? = some (.cells (numP b2) 262 (0, 0))
 p3 : W.heap[n + 1 + 1]? = some (.cells (numP b3) 262 (0, 0))
 bl : Below w.heap.size w W
theorem Three.below {w W W' : World} {n b1 b2 b3 : Nat} (h : Three w W n b1 b2 b3) (hb : Below W.heap.size W W') : Three w W' n b1 b2 b3 :=
 ⟨h.l1, h.l2, h.l3, (hb.block _ (box_lt h.o1)).trans h.o1, (hb.block _ (box_lt h.o2)).trans h.o2, (hb.block _ (box_lt h.o3)).trans h.o3, (hb.block _ (box_lt h.p1)).trans h.p1, (hb.block _ (box_lt h.p2)).trans h.p2, (hb.block _ (box_lt h.p3)).trans h.p3, h.bl.trans (hb.mono h.bl.size)⟩
theorem cells4 {W : World} {g b : Nat} (h : W.heap[g]? = some (.cells (numP b) 262 (0, 0))) : W.cell? ⟨g, 0, none⟩ = some (fnV 206 #[boxV b]) ∧ W.cell? ⟨g, 1, none⟩ = some (fnV 208 #[]) ∧ W.cell? ⟨g, 2, none⟩ = some (fnV 210 #[boxV b]) ∧ W.cell? ⟨g, 3, none⟩ = some (.bool false) := by
 simp [World.cell?, h]
theorem three_of {w w1 w2 w3 : World} (h1 : w1.heap[w.heap.size]? = some (.cells #[.int .i64 1] 3 (0, 0))) (hb1 : Below w.heap.size w w1) (h2 : w2.heap[w1.heap.size]? = some (.cells #[.int .i64 2] 3 (0, 0))) (hb2 : Below w1.heap.size w1 w2)
  (h3 : w3.heap[w2.heap.size]? = some (.cells #[.int .i64 4] 3 (0, 0))) (hb3 : Below w2.heap.size w2 w3) :
  Three w (((w3.alloc (.cells (numP w.heap.size) 262)).alloc (.cells (numP w1.heap.size) 262)).alloc (.cells (numP w2.heap.size) 262)) w3.heap.size w.heap.size w1.heap.size w2.heap.size := by
 have q3 : Below w3.heap.size w3 (((w3.alloc (.cells (numP w.heap.size) 262)).alloc (.cells (numP w1.heap.size) 262)).alloc (.cells (numP w2.heap.size) 262)) := (((Below.refl _ _).alloc (Nat.le_refl _) _).alloc (by simp) _).alloc (by simp; omega) _
 have k3 : Below w.heap.size w w3 := bth (bth hb1 hb2 hb1.size) hb3 (Nat.le_trans hb1.size hb2.size)
 have e1 := (hb3.block _ (Nat.lt_of_lt_of_le (box_lt h1) hb2.size)).trans ((hb2.block _ (box_lt h1)).trans h1)
 have e2 := (hb3.block _ (box_lt h2)).trans h2
 refine ⟨Nat.le_refl _, hb1.size, Nat.le_trans hb1.size hb2.size, (q3.block _ (box_lt e1)).trans e1, (q3.block _ (box_lt e2)).trans e2, (q3.block _ (box_lt h3)).trans h3, ?_, ?_, ?_, k3.trans (q3.mono k3.size)⟩
 ·rw [alloc_old _ _ _ (by simp; omega), alloc_old _ _ _ (by simp)]; exact heap_new _ _
 ·rw [alloc_old _ _ _ (by simp)]
  have := heap_new (w3.alloc (.cells (numP w.heap.size) 262)) (.cells (numP w1.heap.size) 262)
  rwa [World.size_alloc] at this
 ·have := heap_new ((w3.alloc (.cells (numP w.heap.size) 262)).alloc (.cells (numP w1.heap.size) 262)) (.cells (numP w2.heap.size) 262)
  rwa [World.size_alloc, World.size_alloc] at this
set_option maxRecDepth 100000 in
theorem raw_name (k : Int) (hk : k = 2 ∨ k = 5 ∨ k = 39) (w : World) : Calls Tryz.prog 161 #[.int .i64 k] w fun e w' => RawPost [.name] w e w' := by
 have hmf := mkf
 rcases hk with rfl | rfl | rfl
 all_goals
  go_enter Tryz.func161, Tryz.ntmps161
  go_wp2_with fail
  refine (numberPart_in _ _).mono ?_
  rintro e w1 ⟨rfl, ho1, hb1⟩
  go_wp2_with fail
  refine (numberPart_in _ _).mono ?_
  rintro e w2 ⟨rfl, ho2, hb2⟩
  go_wp2_with fail
  refine (numberPart_in _ _).mono ?_
  rintro e w3 ⟨rfl, ho3, hb3⟩
  have HT := Hid.mk (three_of ho1 hb1 ho2 hb2 ho3 hb3)
  clear ho1 ho2 ho3 hb1 hb2 hb3
  go_wp2_with fail
  refine (namePart_in _).mono ?_
  rintro e w4 ⟨rfl, hb4⟩
  have h4 := HT.out.below hb4
  have hs4 := h4.bl.size
  go_wp2
  go_ret
  exact ⟨w4.heap.size, [namePt], rfl, hs4, heap_new _ _, ⟨rfl, trivial⟩, h4.bl.alloc hs4 _⟩
theorem Three.drew {w W : World} {n b1 b2 b3 : Nat} (h : Three w W n b1 b2 b3) : Three w W.drew n b1 b2 b3 := ⟨h.l1, h.l2, h.l3, h.o1, h.o2, h.o3, h.p1, h.p2, h.p3, h.bl.drew⟩
theorem Three.num1 {w W : World} {n b1 b2 b3 : Nat} (h : Three w W n b1 b2 b3) (o : Obj) : PartIs w.heap.size (W.alloc o) (numPt b1) (.num 1) := ⟨b1, h.l1, rfl, by omega, (alloc_old _ _ _ (box_lt h.o1)).trans h.o1⟩
theorem Three.num2 {w W : World} {n b1 b2 b3 : Nat} (h : Three w W n b1 b2 b3) (o : Obj) : PartIs w.heap.size (W.alloc o) (numPt b2) (.num 2) := ⟨b2, h.l2, rfl, by omega, (alloc_old _ _ _ (box_lt h.o2)).trans h.o2⟩
theorem Three.num4 {w W : World} {n b1 b2 b3 : Nat} (h : Three w W n b1 b2 b3) (o : Obj) : PartIs w.heap.size (W.alloc o) (numPt b3) (.num 4) := ⟨b3, h.l3, rfl, by omega, (alloc_old _ _ _ (box_lt h.o3)).trans h.o3⟩
set_option maxRecDepth 100000 in
set_option maxHeartbeats 4000000 in
theorem raw_MX (w : World) : Calls Tryz.prog 161 #[.int .i64 15] w fun e w' => RawPost [.num 2, .name] w e w' := by
 have hmf := mkf
 have hmo : Tryz.prog.follows Departure.mixedOrders = true := by kernel_rfl
 go_enter Tryz.func161, Tryz.ntmps161
 go_wp2_with fail
 refine (numberPart_in _ _).mono ?_
 rintro e w1 ⟨rfl, ho1, hb1⟩
 go_wp2_with fail
 refine (numberPart_in _ _).mono ?_
 rintro e w2 ⟨rfl, ho2, hb2⟩
 go_wp2_with fail
 refine (numberPart_in _ _).mono ?_
 rintro e w3 ⟨rfl, ho3, hb3⟩
 have T := three_of ho1 hb1 ho2 hb2 ho3 hb3
 clear ho1 ho2 ho3 hb1 hb2 hb3
 go_wp2
 obtain ⟨WB, hWB⟩ : ∃ WB, WB = (((w3.alloc (.cells (numP w.heap.size) 262)).alloc (.cells (numP w1.heap.size) 262)).alloc (.cells (numP w2.heap.size) 262)) := ⟨_, rfl⟩
 rw [← hWB] at T
 rw [← hWB]
 clear hWB
 have HL : Hid (∀ (G : Prop) (A B : World), Three w A w3.heap.size w.heap.size w1.heap.size w2.heap.size → Below A.heap.size A B → (Three w B w3.heap.size w.heap.size w1.heap.size w2.heap.size → B.cell? ⟨w3.heap.size + 1, 0, none⟩ = some (fnV 206 #[boxV (w1.heap.size)]) → B.cell? ⟨w3.heap.size + 1, 1, none⟩ = some (fnV 208 #[]) → B.cell? ⟨w3.heap.size + 1, 2, none⟩ = some (fnV 210 #[boxV (w1.heap.size)]) → B.cell? ⟨w3.heap.size + 1, 3, none⟩ = some (.bool false) → G) → G) := by
  intro G A B hT hB hG
  have hT' := hT.below hB
  exact hG hT' (cells4 hT'.p2).1 (cells4 hT'.p2).2.1 (cells4 hT'.p2).2.2.1 (cells4 hT'.p2).2.2.2
 obtain ⟨a20, a21, a22, a23⟩ := cells4 T.p2
 have T0 := T.drew
 go_region_held3 (fun w' => w'.cell? ⟨w3.heap.size + 1, 0, none⟩ = some (fnV 206 #[boxV (w1.heap.size)]) ∧ w'.cell? ⟨w3.heap.size + 1, 1, none⟩ = some (fnV 208 #[]) ∧ w'.cell? ⟨w3.heap.size + 1, 2, none⟩ = some (fnV 210 #[boxV (w1.heap.size)]) ∧ w'.cell? ⟨w3.heap.size + 1, 3, none⟩ = some (.bool false)) (first | ((repeat' apply And.intro) <;> assumption) | go_keep)
  (first | (go_at_call 182; refine (namePart_in _).mono ?_; rintro e x1 ⟨rfl, hx1⟩; refine HL.out _ _ x1 T0 hx1 ?_; intro T1 d20_1 d21_1 d22_1 d23_1))
 have hs1 := T1.bl.size
 go_wp2
 go_ret
 refine ⟨x1.heap.size, [numPt w1.heap.size, namePt], rfl, hs1, ?_, ⟨T1.num2 _, rfl, trivial⟩, T1.bl.alloc hs1 _⟩
 simp only [List.flatMap_cons, List.flatMap_nil, partCells, namePt, numPt, typePt, hexPt, saltPt, hashPt, typesPt, List.cons_append, List.nil_append, List.append_nil]
 exact heap_new _ _
end Go.Proofs.YtikjepodmdaknaaGreatDoor
/- partsOf: the form of SOA. -/
namespace Go.Proofs.YtikjepodmdaknaaGreatDoor
open Go.RowKit
set_option maxRecDepth 100000 in
set_option maxHeartbeats 4000000 in
theorem raw_SOA (w : World) : Calls Tryz.prog 161 #[.int .i64 6] w fun e w' => RawPost [.name, .name, .num 4, .num 4, .num 4, .num 4, .num 4] w e w' := by
 have hmf := mkf
 have hmo : Tryz.prog.follows Departure.mixedOrders = true := by kernel_rfl
 go_enter Tryz.func161, Tryz.ntmps161
 go_wp2_with fail
 refine (numberPart_in _ _).mono ?_
 rintro e w1 ⟨rfl, ho1, hb1⟩
 go_wp2_with fail
 refine (numberPart_in _ _).mono ?_
 rintro e w2 ⟨rfl, ho2, hb2⟩
 go_wp2_with fail
 refine (numberPart_in _ _).mono ?_
 rintro e w3 ⟨rfl, ho3, hb3⟩
 have T := three_of ho1 hb1 ho2 hb2 ho3 hb3
 clear ho1 ho2 ho3 hb1 hb2 hb3
 go_wp2
 obtain ⟨WB, hWB⟩ : ∃ WB, WB = (((w3.alloc (.cells (numP w.heap.size) 262)).alloc (.cells (numP w1.heap.size) 262)).alloc (.cells (numP w2.heap.size) 262)) := ⟨_, rfl⟩
 rw [← hWB] at T
 rw [← hWB]
 clear hWB
 have HL : Hid (∀ (G : Prop) (A B : World), Three w A w3.heap.size w.heap.size w1.heap.size w2.heap.size → Below A.heap.size A B → (Three w B w3.heap.size w.heap.size w1.heap.size w2.heap.size → B.cell? ⟨w3.heap.size + 1 + 1, 0, none⟩ = some (fnV 206 #[boxV (w2.heap.size)]) → B.cell? ⟨w3.heap.size + 1 + 1, 1, none⟩ = some (fnV 208 #[]) → B.cell? ⟨w3.heap.size + 1 + 1, 2, none⟩ = some (fnV 210 #[boxV (w2.heap.size)]) → B.cell? ⟨w3.heap.size + 1 + 1, 3, none⟩ = some (.bool false) → G) → G) := by
  intro G A B hT hB hG
  have hT' := hT.below hB
  exact hG hT' (cells4 hT'.p3).1 (cells4 hT'.p3).2.1 (cells4 hT'.p3).2.2.1 (cells4 hT'.p3).2.2.2
 obtain ⟨a30, a31, a32, a33⟩ := cells4 T.p3
 have T0 := T.drew
 go_region_held3 (fun w' => w'.cell? ⟨w3.heap.size + 1 + 1, 0, none⟩ = some (fnV 206 #[boxV (w2.heap.size)]) ∧ w'.cell? ⟨w3.heap.size + 1 + 1, 1, none⟩ = some (fnV 208 #[]) ∧ w'.cell? ⟨w3.heap.size + 1 + 1, 2, none⟩ = some (fnV 210 #[boxV (w2.heap.size)]) ∧ w'.cell? ⟨w3.heap.size + 1 + 1, 3, none⟩ = some (.bool false)) (first | ((repeat' apply And.intro) <;> assumption) | go_keep)
  (first | (go_at_call 182; refine (namePart_in _).mono ?_; rintro e x2 ⟨rfl, hx2⟩; refine HL.out _ _ x2 T1 hx2 ?_; intro T2 d30_2 d31_2 d32_2 d33_2) | (go_at_call 182; refine (namePart_in _).mono ?_; rintro e x1 ⟨rfl, hx1⟩; refine HL.out _ _ x1 T0 hx1 ?_; intro T1 d30_1 d31_1 d32_1 d33_1))
 have hs2 := T2.bl.size
 go_wp2
 go_ret
 refine ⟨x2.heap.size, [namePt, namePt, numPt w2.heap.size, numPt w2.heap.size, numPt w2.heap.size, numPt w2.heap.size, numPt w2.heap.size], rfl, hs2, ?_, ⟨rfl, rfl, T2.num4 _, T2.num4 _, T2.num4 _, T2.num4 _, T2.num4 _, trivial⟩, T2.bl.alloc hs2 _⟩
 simp only [List.flatMap_cons, List.flatMap_nil, partCells, namePt, numPt, typePt, hexPt, saltPt, hashPt, typesPt, List.cons_append, List.nil_append, List.append_nil]
 exact heap_new _ _
end Go.Proofs.YtikjepodmdaknaaGreatDoor
/- partsOf: the forms of DS and DNSKEY. -/
namespace Go.Proofs.YtikjepodmdaknaaGreatDoor
open Go.RowKit
set_option maxRecDepth 100000 in
set_option maxHeartbeats 4000000 in
theorem raw_DS (w : World) : Calls Tryz.prog 161 #[.int .i64 43] w fun e w' => RawPost [.num 2, .num 1, .num 1, .hex] w e w' := by
 have hmf := mkf
 have hmo : Tryz.prog.follows Departure.mixedOrders = true := by kernel_rfl
 go_enter Tryz.func161, Tryz.ntmps161
 go_wp2_with fail
 refine (numberPart_in _ _).mono ?_
 rintro e w1 ⟨rfl, ho1, hb1⟩
 go_wp2_with fail
 refine (numberPart_in _ _).mono ?_
 rintro e w2 ⟨rfl, ho2, hb2⟩
 go_wp2_with fail
 refine (numberPart_in _ _).mono ?_
 rintro e w3 ⟨rfl, ho3, hb3⟩
 have T := three_of ho1 hb1 ho2 hb2 ho3 hb3
 clear ho1 ho2 ho3 hb1 hb2 hb3
 go_wp2
 obtain ⟨WB, hWB⟩ : ∃ WB, WB = (((w3.alloc (.cells (numP w.heap.size) 262)).alloc (.cells (numP w1.heap.size) 262)).alloc (.cells (numP w2.heap.size) 262)) := ⟨_, rfl⟩
 rw [← hWB] at T
 rw [← hWB]
 clear hWB
 have HL : Hid (∀ (G : Prop) (A B : World), Three w A w3.heap.size w.heap.size w1.heap.size w2.heap.size → Below A.heap.size A B → (Three w B w3.heap.size w.heap.size w1.heap.size w2.heap.size → B.cell? ⟨w3.heap.size, 0, none⟩ = some (fnV 206 #[boxV (w.heap.size)]) → B.cell? ⟨w3.heap.size, 1, none⟩ = some (fnV 208 #[]) → B.cell? ⟨w3.heap.size, 2, none⟩ = some (fnV 210 #[boxV (w.heap.size)]) → B.cell? ⟨w3.heap.size, 3, none⟩ = some (.bool false) → B.cell? ⟨w3.heap.size + 1, 0, none⟩ = some (fnV 206 #[boxV (w1.heap.size)]) → B.cell? ⟨w3.heap.size + 1, 1, none⟩ = some (fnV 208 #[]) → B.cell? ⟨w3.heap.size + 1, 2, none⟩ = some (fnV 210 #[boxV (w1.heap.size)]) → B.cell? ⟨w3.heap.size + 1, 3, none⟩ = some (.bool false) → G) → G) := by
  intro G A B hT hB hG
  have hT' := hT.below hB
  exact hG hT' (cells4 hT'.p1).1 (cells4 hT'.p1).2.1 (cells4 hT'.p1).2.2.1 (cells4 hT'.p1).2.2.2 (cells4 hT'.p2).1 (cells4 hT'.p2).2.1 (cells4 hT'.p2).2.2.1 (cells4 hT'.p2).2.2.2
 obtain ⟨a10, a11, a12, a13⟩ := cells4 T.p1
 obtain ⟨a20, a21, a22, a23⟩ := cells4 T.p2
 have T0 := T.drew
 go_region_held3 (fun w' => w'.cell? ⟨w3.heap.size, 0, none⟩ = some (fnV 206 #[boxV (w.heap.size)]) ∧ w'.cell? ⟨w3.heap.size, 1, none⟩ = some (fnV 208 #[]) ∧ w'.cell? ⟨w3.heap.size, 2, none⟩ = some (fnV 210 #[boxV (w.heap.size)]) ∧ w'.cell? ⟨w3.heap.size, 3, none⟩ = some (.bool false) ∧ w'.cell? ⟨w3.heap.size + 1, 0, none⟩ = some (fnV 206 #[boxV (w1.heap.size)]) ∧ w'.cell? ⟨w3.heap.size + 1, 1, none⟩ = some (fnV 208 #[]) ∧ w'.cell? ⟨w3.heap.size + 1, 2, none⟩ = some (fnV 210 #[boxV (w1.heap.size)]) ∧ w'.cell? ⟨w3.heap.size + 1, 3, none⟩ = some (.bool false)) (first | ((repeat' apply And.intro) <;> assumption) | go_keep)
  (first | (go_at_call 184; refine (hexPart_in _).mono ?_; rintro e x1 ⟨rfl, hx1⟩; refine HL.out _ _ x1 T0 hx1 ?_; intro T1 d10_1 d11_1 d12_1 d13_1 d20_1 d21_1 d22_1 d23_1))
 have hs1 := T1.bl.size
 go_wp2
 go_ret
 refine ⟨x1.heap.size, [numPt w1.heap.size, numPt w.heap.size, numPt w.heap.size, hexPt], rfl, hs1, ?_, ⟨T1.num2 _, T1.num1 _, T1.num1 _, rfl, trivial⟩, T1.bl.alloc hs1 _⟩
 simp only [List.flatMap_cons, List.flatMap_nil, partCells, namePt, numPt, typePt, hexPt, saltPt, hashPt, typesPt, List.cons_append, List.nil_append, List.append_nil]
 exact heap_new _ _
set_option maxRecDepth 100000 in
set_option maxHeartbeats 4000000 in
theorem raw_KEY (w : World) : Calls Tryz.prog 161 #[.int .i64 48] w fun e w' => RawPost [.num 2, .num 1, .num 1, .hex] w e w' := by
 have hmf := mkf
 have hmo : Tryz.prog.follows Departure.mixedOrders = true := by kernel_rfl
 go_enter Tryz.func161, Tryz.ntmps161
 go_wp2_with fail
 refine (numberPart_in _ _).mono ?_
 rintro e w1 ⟨rfl, ho1, hb1⟩
 go_wp2_with fail
 refine (numberPart_in _ _).mono ?_
 rintro e w2 ⟨rfl, ho2, hb2⟩
 go_wp2_with fail
 refine (numberPart_in _ _).mono ?_
 rintro e w3 ⟨rfl, ho3, hb3⟩
 have T := three_of ho1 hb1 ho2 hb2 ho3 hb3
 clear ho1 ho2 ho3 hb1 hb2 hb3
 go_wp2
 obtain ⟨WB, hWB⟩ : ∃ WB, WB = (((w3.alloc (.cells (numP w.heap.size) 262)).alloc (.cells (numP w1.heap.size) 262)).alloc (.cells (numP w2.heap.size) 262)) := ⟨_, rfl⟩
 rw [← hWB] at T
 rw [← hWB]
 clear hWB
 have HL : Hid (∀ (G : Prop) (A B : World), Three w A w3.heap.size w.heap.size w1.heap.size w2.heap.size → Below A.heap.size A B → (Three w B w3.heap.size w.heap.size w1.heap.size w2.heap.size → B.cell? ⟨w3.heap.size, 0, none⟩ = some (fnV 206 #[boxV (w.heap.size)]) → B.cell? ⟨w3.heap.size, 1, none⟩ = some (fnV 208 #[]) → B.cell? ⟨w3.heap.size, 2, none⟩ = some (fnV 210 #[boxV (w.heap.size)]) → B.cell? ⟨w3.heap.size, 3, none⟩ = some (.bool false) → B.cell? ⟨w3.heap.size + 1, 0, none⟩ = some (fnV 206 #[boxV (w1.heap.size)]) → B.cell? ⟨w3.heap.size + 1, 1, none⟩ = some (fnV 208 #[]) → B.cell? ⟨w3.heap.size + 1, 2, none⟩ = some (fnV 210 #[boxV (w1.heap.size)]) → B.cell? ⟨w3.heap.size + 1, 3, none⟩ = some (.bool false) → G) → G) := by
  intro G A B hT hB hG
  have hT' := hT.below hB
  exact hG hT' (cells4 hT'.p1).1 (cells4 hT'.p1).2.1 (cells4 hT'.p1).2.2.1 (cells4 hT'.p1).2.2.2 (cells4 hT'.p2).1 (cells4 hT'.p2).2.1 (cells4 hT'.p2).2.2.1 (cells4 hT'.p2).2.2.2
 obtain ⟨a10, a11, a12, a13⟩ := cells4 T.p1
 obtain ⟨a20, a21, a22, a23⟩ := cells4 T.p2
 have T0 := T.drew
 go_region_held3 (fun w' => w'.cell? ⟨w3.heap.size, 0, none⟩ = some (fnV 206 #[boxV (w.heap.size)]) ∧ w'.cell? ⟨w3.heap.size, 1, none⟩ = some (fnV 208 #[]) ∧ w'.cell? ⟨w3.heap.size, 2, none⟩ = some (fnV 210 #[boxV (w.heap.size)]) ∧ w'.cell? ⟨w3.heap.size, 3, none⟩ = some (.bool false) ∧ w'.cell? ⟨w3.heap.size + 1, 0, none⟩ = some (fnV 206 #[boxV (w1.heap.size)]) ∧ w'.cell? ⟨w3.heap.size + 1, 1, none⟩ = some (fnV 208 #[]) ∧ w'.cell? ⟨w3.heap.size + 1, 2, none⟩ = some (fnV 210 #[boxV (w1.heap.size)]) ∧ w'.cell? ⟨w3.heap.size + 1, 3, none⟩ = some (.bool false)) (first | ((repeat' apply And.intro) <;> assumption) | go_keep)
  (first | (go_at_call 184; refine (hexPart_in _).mono ?_; rintro e x1 ⟨rfl, hx1⟩; refine HL.out _ _ x1 T0 hx1 ?_; intro T1 d10_1 d11_1 d12_1 d13_1 d20_1 d21_1 d22_1 d23_1))
 have hs1 := T1.bl.size
 go_wp2
 go_ret
 refine ⟨x1.heap.size, [numPt w1.heap.size, numPt w.heap.size, numPt w.heap.size, hexPt], rfl, hs1, ?_, ⟨T1.num2 _, T1.num1 _, T1.num1 _, rfl, trivial⟩, T1.bl.alloc hs1 _⟩
 simp only [List.flatMap_cons, List.flatMap_nil, partCells, namePt, numPt, typePt, hexPt, saltPt, hashPt, typesPt, List.cons_append, List.nil_append, List.append_nil]
 exact heap_new _ _
end Go.Proofs.YtikjepodmdaknaaGreatDoor
