/- Texts of this proof, joined: DOther, KRight, GEnd, GBlk, GSum1. -/
import Derived.Test.YtlcjagkfeakinaaGreatDoorJ4
import Derived.Deep.RegionHeld3
import Derived.Laws.EntriesVeiled
import Derived.Test.YtlcjagkfeakinaaGreatDoorJ1
import Derived.Deep.RegionLaw
import Derived.Laws.CopyOwn
import Derived.Test.YtlcjagkfeakinaaGreatDoorJ2
/- Types that are none of the table: any bytes. -/
namespace Go.Proofs.YtlcjagkfeakinaaGreatDoor
set_option linter.unusedVariables false
open Go.RowKit

theorem enters_by {f : Nat} {fn : Func} {c : Code} (hf : Tryz.prog.funcs[f]? = some fn) (hname : (fn.name == "runtime.NumGoroutine") = false) (hb : fn.body = some c) : Enters f := by
  intro args w
  have h1 : fn.name ≠ "runtime.NumGoroutine" := by simpa using hname
  simp [callFunc, hf, h1, hb]

theorem anyPass_in (W : World) (d : Nat) (s : ByteArray) (hs : s.size ≤ 2000) (h : Rd W d s) :
    Calls Tryz.prog 187 #[boxV d] W fun e w' => PassPost (some s.size) s d W w' e := by
  go_enter Tryz.func187, Tryz.ntmps187
  go_wp2_with fail
  refine (all_in W d s (by unfold maxLen; omega) h).mono ?_
  rintro e w1 ⟨rfl, rfl⟩
  go_wp2
  have e2 : s.extract s.size s.size = ⟨#[]⟩ := by apply ByteArray.ext; simp
  refine bodyPost_end (results_none rfl _ _ _) rfl ⟨Nat.le_refl _, rfl, ?_, Kept.set _ _ _ _⟩
  rw [e2]; exact h.set _

def otherPart : Part := ⟨187, #[], 188, #[], 190, #[], false⟩
def otherPf : Nat → ByteArray → Option Nat := fun _ s => some s.size

theorem one_part {W : World} {g : Nat} {p : Part} (h : W.heap[g]? = some (.cells #[fnV p.pass p.passC, fnV p.tell p.tellC, fnV p.read p.readC, .bool p.name] 168 (0, 0))) : PartsIn W g 1 (fun _ => p) := by
  refine ⟨fun _ => box_lt h, fun k hk => ?_, fun k hk => ?_, fun k hk => ?_, fun k hk => ?_⟩ <;> obtain rfl : k = 0 := by omega
  all_goals simp [World.cell?, h]

theorem parts_other (k : Int) (hk : tabled k = false) (w : World) : Calls Tryz.prog 86 #[.int .i64 k] w fun e w' => PartsPost 1 otherPf w e w' := by
  refine (partsOf_other k hk w).mono ?_
  rintro e w1 ⟨g, hg, rfl, hc, hb⟩
  refine ⟨g, fun _ => otherPart, rfl, one_part hc, fun _ _ => enters_by Tryz.func187 (by kernel_rfl) rfl, ?_, hb⟩
  intro k _ W' d s' _ _ hr hs
  exact anyPass_in W' d s' hs hr

theorem fin_other (s : ByteArray) : fin otherPf 1 s = some [s] := by
  have e1 : s.extract 0 s.size = s := by simp
  simp [fin, cutP, otherPf, e1]

theorem split_other (k : Int) (hk : 0 ≤ k ∧ k ≤ 65535) (ht : tabled k = false) (s : ByteArray) (hs : s.size ≤ 2000) (W : World) :
    Calls Tryz.prog 52 #[.int .i64 k, .string s] W fun e w' => SplitPost (some [s]) W e w' := by
  have := split_in W 1 (by omega) k hk s hs otherPf (parts_other k ht)
  rwa [fin_other] at this
end Go.Proofs.YtlcjagkfeakinaaGreatDoor

/- split, Right and Key of DNSKEY alone. -/
namespace Go.Proofs.YtlcjagkfeakinaaGreatDoor.K48
set_option linter.unusedVariables false
set_option linter.unusedSimpArgs false
open Go.RowKit

theorem ba_empty (s : ByteArray) (h : s.size = 0) : s = ⟨#[]⟩ := by
  apply ba_ext
  have : s.data.toList.length = 0 := by rw [size_list]; exact h
  rw [List.length_eq_zero_iff.1 this]
theorem end_cut (s : ByteArray) : s.extract s.size s.size = ⟨#[]⟩ := ba_empty _ (by rw [ByteArray.size_extract]; omega)
theorem ne_text (s : ByteArray) (h : 0 < s.size) : (s.toList == []) = false ∧ (!s.toList.isEmpty) = true := by
  rw [ByteArray.toList_eq]
  have : s.data.toList ≠ [] := fun e => by
    have : s.data.toList.length = 0 := by rw [e]; rfl
    rw [size_list] at this; omega
  cases hl : s.data.toList with
  | nil => exact absurd hl this
  | cons a l => exact ⟨rfl, rfl⟩
/-- so many bytes. -/
def takeK (n : Nat) (s : ByteArray) : Option Nat := if n ≤ s.size then some n else none
theorem take_post (W : World) (d n : Nat) (s : ByteArray) (hs : s.size ≤ 2000) (hn : n ≤ 100) (h : Rd W d s) :
    Calls Tryz.prog 145 #[boxV d, .int .i64 n] W fun e w' => match takeK n s with
      | some m => m ≤ s.size ∧ e = .returned (.string (s.extract 0 n)) ∧ Rd w' d (s.extract m s.size) ∧ Kept d W w'
      | none => e = .panicked mustV ∧ Kept d W w' := by
  unfold takeK
  by_cases hl : n ≤ s.size
  · rw [if_pos hl]
    refine (take_yes W d n s (by unfold maxLen; omega) h hl).mono ?_
    rintro e w' ⟨rfl, rfl⟩
    exact ⟨hl, rfl, h.set _, Kept.set _ _ _ _⟩
  · rw [if_neg hl]
    refine (take_no W d n s (by unfold maxLen; omega) h (by omega) (by unfold maxLen; omega)).mono ?_
    rintro e w' ⟨rfl, rfl⟩
    exact ⟨rfl, Kept.refl _ _⟩
theorem numPass_in (W : World) (b d n : Nat) (hn : n ≤ 100) (hb : W.heap[b]? = some (.cells #[.int .i64 n] 3 (0, 0))) (s : ByteArray) (hs : s.size ≤ 2000) (h : Rd W d s) :
    Calls Tryz.prog 144 #[boxV d, boxV b] W fun e w' => PassPost (takeK n s) s d W w' e := by
  have c0 := box_cell hb
  have T := Hid.mk (take_post W d n s hs hn h)
  cases hr : takeK n s with
  | some m =>
    rw [hr] at T
    go_enter Tryz.func144, Tryz.ntmps144
    go_wp2_with fail
    refine T.out.mono ?_
    rintro e w1 ⟨hm, rfl, hr1, hk1⟩
    go_wp2
    exact bodyPost_end (results_none rfl _ _ _) rfl ⟨hm, rfl, hr1, hk1⟩
  | none =>
    rw [hr] at T
    go_enter Tryz.func144, Tryz.ntmps144
    go_wp2_with fail
    refine T.out.mono ?_
    rintro e w1 ⟨rfl, hk1⟩
    go_wp2
    exact ⟨rfl, rfl, hk1⟩
theorem ne_bne (s : ByteArray) (h : 0 < s.size) : (s.toList != []) = true := by
  have := (ne_text s h).1
  simp only [bne, this, Bool.not_false]
theorem hexPass_in (W : World) (d : Nat) (s : ByteArray) (hs : s.size ≤ 2000) (h : Rd W d s) :
    Calls Tryz.prog 162 #[boxV d] W fun e w' => PassPost (if 0 < s.size then some s.size else none) s d W w' e := by
  have T := Hid.mk (all_in W d s (by unfold maxLen; omega) h)
  have hr1 := Hid.mk (h.set ⟨#[]⟩)
  by_cases h0 : 0 < s.size
  · rw [if_pos h0]
    obtain ⟨hn1, hn2⟩ := ne_text s h0
    have hn3 := ne_bne s h0
    have hec := Hid.mk (end_cut s)
    go_enter Tryz.func162, Tryz.ntmps162
    go_wp2_with fail
    refine T.out.mono ?_
    rintro e w1 ⟨rfl, rfl⟩
    go_wp2_with fail
    refine (must_yes _).mono ?_
    rintro e w2 ⟨rfl, rfl⟩
    go_wp2
    refine bodyPost_end (results_none rfl _ _ _) rfl ⟨Nat.le_refl _, rfl, ?_, Kept.set _ _ _ _⟩
    rw [hec.out]; exact hr1.out
  · rw [if_neg h0]
    obtain rfl := ba_empty s (by omega)
    go_enter Tryz.func162, Tryz.ntmps162
    go_wp2_with fail
    refine T.out.mono ?_
    rintro e w1 ⟨rfl, rfl⟩
    go_wp2_with fail
    refine (must_no _).mono ?_
    rintro e w2 ⟨rfl, rfl⟩
    go_wp2
    exact ⟨rfl, rfl, Kept.set _ _ _ _⟩
instance : Inhabited Part := ⟨⟨0, #[], 0, #[], 0, #[], false⟩⟩
def partCells (p : Part) : List Value := [fnV p.pass p.passC, fnV p.tell p.tellC, fnV p.read p.readC, .bool p.name]
def numPt (b : Nat) : Part := ⟨144, #[boxV b], 146, #[], 148, #[boxV b], false⟩
def hexPt : Part := ⟨162, #[], 164, #[], 165, #[], false⟩
theorem flat_at : ∀ (ps : List Part) (k j : Nat), k < ps.length → j < 4 → (ps.flatMap partCells)[k * 4 + j]? = (partCells (ps.getD k default))[j]?
  | [], k, j, h, _ => by simp at h
  | p :: ps, 0, j, _, hj => by
    rw [List.flatMap_cons, List.getElem?_append_left (by simp [partCells]; omega)]
    simp
  | p :: ps, k + 1, j, h, hj => by
    rw [List.flatMap_cons, List.getElem?_append_right (by simp [partCells]; omega)]
    have := flat_at ps k j (by simpa using h) hj
    rw [show (k + 1) * 4 + j - (partCells p).length = k * 4 + j by simp [partCells]; omega, this]
    simp
theorem parts_in {W : World} {g : Nat} {ps : List Part} (h : W.heap[g]? = some (.cells (ps.flatMap partCells).toArray 168 (0, 0))) : PartsIn W g ps.length (fun k => ps.getD k default) := by
  have key : ∀ k j, k < ps.length → j < 4 → W.cell? ⟨g, k * 4 + j, none⟩ = (partCells (ps.getD k default))[j]? := by
    intro k j hk hj
    rw [← flat_at ps k j hk hj]
    simp [World.cell?, h]
  refine ⟨fun _ => box_lt h, fun k hk => ?_, fun k hk => ?_, fun k hk => ?_, fun k hk => ?_⟩
  · exact key k 0 hk (by omega)
  · exact key k 1 hk (by omega)
  · exact key k 2 hk (by omega)
  · exact key k 3 hk (by omega)
abbrev hexPa : Array Value := #[fnV 162 #[], fnV 164 #[], fnV 165 #[], .bool false]
theorem hexPart_in (w : World) : Calls Tryz.prog 123 #[] w fun e w' => e = .returned (.agg hexPa) ∧ Below w.heap.size w w' := by
  have hmf := mkf
  go_enter Tryz.func123, Tryz.ntmps123
  go_wp2
  exact bodyPost_ret (v := .agg hexPa) (by simp [results, Tryz.results123, go_sem]) rfl ⟨rfl, by first | exact (Below.refl _ _).alloc (Nat.le_refl _) _ | exact Below.refl _ _⟩
/-- the variables of partsOf behind its first row: the three parts of numbers. -/
structure Three (w W : World) (n : Nat) (b1 b2 b3 : Nat) : Prop where
  l1 : w.heap.size ≤ b1
  l2 : w.heap.size ≤ b2
  l3 : w.heap.size ≤ b3
  o1 : W.heap[b1]? = some (.cells #[.int .i64 1] 3 (0, 0))
  o2 : W.heap[b2]? = some (.cells #[.int .i64 2] 3 (0, 0))
  o3 : W.heap[b3]? = some (.cells #[.int .i64 4] 3 (0, 0))
  p1 : W.heap[n]? = some (.cells (numP b1) 168 (0, 0))
  p2 : W.heap[n + 1]? = some (.cells (numP b2) 168 (0, 0))
  p3 : W.heap[n + 1 + 1]? = some (.cells (numP b3) 168 (0, 0))
  bl : Below w.heap.size w W
theorem Three.below {w W W' : World} {n b1 b2 b3 : Nat} (h : Three w W n b1 b2 b3) (hb : Below W.heap.size W W') : Three w W' n b1 b2 b3 :=
  ⟨h.l1, h.l2, h.l3, (hb.block _ (box_lt h.o1)).trans h.o1, (hb.block _ (box_lt h.o2)).trans h.o2, (hb.block _ (box_lt h.o3)).trans h.o3, (hb.block _ (box_lt h.p1)).trans h.p1, (hb.block _ (box_lt h.p2)).trans h.p2, (hb.block _ (box_lt h.p3)).trans h.p3, h.bl.trans (hb.mono h.bl.size)⟩
theorem cells4 {W : World} {g b : Nat} (h : W.heap[g]? = some (.cells (numP b) 168 (0, 0))) : W.cell? ⟨g, 0, none⟩ = some (fnV 144 #[boxV b]) ∧ W.cell? ⟨g, 1, none⟩ = some (fnV 146 #[]) ∧ W.cell? ⟨g, 2, none⟩ = some (fnV 148 #[boxV b]) ∧ W.cell? ⟨g, 3, none⟩ = some (.bool false) := by
  simp [World.cell?, h]
theorem three_of {w w1 w2 w3 : World} (h1 : w1.heap[w.heap.size]? = some (.cells #[.int .i64 1] 3 (0, 0))) (hb1 : Below w.heap.size w w1) (h2 : w2.heap[w1.heap.size]? = some (.cells #[.int .i64 2] 3 (0, 0))) (hb2 : Below w1.heap.size w1 w2)
    (h3 : w3.heap[w2.heap.size]? = some (.cells #[.int .i64 4] 3 (0, 0))) (hb3 : Below w2.heap.size w2 w3) :
    Three w (((w3.alloc (.cells (numP w.heap.size) 168)).alloc (.cells (numP w1.heap.size) 168)).alloc (.cells (numP w2.heap.size) 168)) w3.heap.size w.heap.size w1.heap.size w2.heap.size := by
  have q3 : Below w3.heap.size w3 (((w3.alloc (.cells (numP w.heap.size) 168)).alloc (.cells (numP w1.heap.size) 168)).alloc (.cells (numP w2.heap.size) 168)) := (((Below.refl _ _).alloc (Nat.le_refl _) _).alloc (by simp) _).alloc (by simp; omega) _
  have k3 : Below w.heap.size w w3 := bth (bth hb1 hb2 hb1.size) hb3 (Nat.le_trans hb1.size hb2.size)
  have e1 := (hb3.block _ (Nat.lt_of_lt_of_le (box_lt h1) hb2.size)).trans ((hb2.block _ (box_lt h1)).trans h1)
  have e2 := (hb3.block _ (box_lt h2)).trans h2
  refine ⟨Nat.le_refl _, hb1.size, Nat.le_trans hb1.size hb2.size, (q3.block _ (box_lt e1)).trans e1, (q3.block _ (box_lt e2)).trans e2, (q3.block _ (box_lt h3)).trans h3, ?_, ?_, ?_, k3.trans (q3.mono k3.size)⟩
  · rw [alloc_old _ _ _ (by simp; omega), alloc_old _ _ _ (by simp)]; exact heap_new _ _
  · rw [alloc_old _ _ _ (by simp)]
    have := heap_new (w3.alloc (.cells (numP w.heap.size) 168)) (.cells (numP w1.heap.size) 168)
    rwa [World.size_alloc] at this
  · have := heap_new ((w3.alloc (.cells (numP w.heap.size) 168)).alloc (.cells (numP w1.heap.size) 168)) (.cells (numP w2.heap.size) 168)
    rwa [World.size_alloc, World.size_alloc] at this
theorem Three.drew {w W : World} {n b1 b2 b3 : Nat} (h : Three w W n b1 b2 b3) : Three w W.drew n b1 b2 b3 := ⟨h.l1, h.l2, h.l3, h.o1, h.o2, h.o3, h.p1, h.p2, h.p3, h.bl.drew⟩
/-- what partsOf hands back for DNSKEY. -/
def RawKey (w : World) (e : Ending) (w' : World) : Prop :=
  ∃ g b1 b2, e = .returned (.slice (some ⟨g, 0, none⟩) 4 4) ∧ w.heap.size ≤ g ∧ w'.heap[g]? = some (.cells ([numPt b2, numPt b1, numPt b1, hexPt].flatMap partCells).toArray 168 (0, 0)) ∧
    w'.heap[b1]? = some (.cells #[.int .i64 1] 3 (0, 0)) ∧ w'.heap[b2]? = some (.cells #[.int .i64 2] 3 (0, 0)) ∧ Below w.heap.size w w'
set_option maxRecDepth 100000 in
set_option maxHeartbeats 4000000 in
theorem raw_KEY (w : World) : Calls Tryz.prog 86 #[.int .i64 48] w fun e w' => RawKey w e w' := by
  have hmf := mkf
  have hmo : Tryz.prog.follows Departure.mixedOrders = true := by kernel_rfl
  go_enter Tryz.func86, Tryz.ntmps86
  go_wp2_with fail
  refine (numberPart_in _ _).mono ?_
  rintro e w1 ⟨rfl, ho1, hb1⟩
  go_wp2_with fail
  refine (numberPart_in _ _).mono ?_
  rintro e w2 ⟨rfl, ho2, hb2⟩
  go_wp2_with fail
  refine (numberPart_in _ _).mono ?_
  rintro e w3 ⟨rfl, ho3, hb3⟩
  have T := three_of ho1 hb1 ho2 hb2 ho3 hb3
  clear ho1 ho2 ho3 hb1 hb2 hb3
  go_wp2
  obtain ⟨WB, hWB⟩ : ∃ WB, WB = (((w3.alloc (.cells (numP w.heap.size) 168)).alloc (.cells (numP w1.heap.size) 168)).alloc (.cells (numP w2.heap.size) 168)) := ⟨_, rfl⟩
  rw [← hWB] at T
  rw [← hWB]
  clear hWB
  have HL : Hid (∀ (G : Prop) (A B : World), Three w A w3.heap.size w.heap.size w1.heap.size w2.heap.size → Below A.heap.size A B → (Three w B w3.heap.size w.heap.size w1.heap.size w2.heap.size → B.cell? ⟨w3.heap.size, 0, none⟩ = some (fnV 144 #[boxV (w.heap.size)]) → B.cell? ⟨w3.heap.size, 1, none⟩ = some (fnV 146 #[]) → B.cell? ⟨w3.heap.size, 2, none⟩ = some (fnV 148 #[boxV (w.heap.size)]) → B.cell? ⟨w3.heap.size, 3, none⟩ = some (.bool false) → B.cell? ⟨w3.heap.size + 1, 0, none⟩ = some (fnV 144 #[boxV (w1.heap.size)]) → B.cell? ⟨w3.heap.size + 1, 1, none⟩ = some (fnV 146 #[]) → B.cell? ⟨w3.heap.size + 1, 2, none⟩ = some (fnV 148 #[boxV (w1.heap.size)]) → B.cell? ⟨w3.heap.size + 1, 3, none⟩ = some (.bool false) → G) → G) := by
    intro G A B hT hB hG
    have hT' := hT.below hB
    exact hG hT' (cells4 hT'.p1).1 (cells4 hT'.p1).2.1 (cells4 hT'.p1).2.2.1 (cells4 hT'.p1).2.2.2 (cells4 hT'.p2).1 (cells4 hT'.p2).2.1 (cells4 hT'.p2).2.2.1 (cells4 hT'.p2).2.2.2
  obtain ⟨a10, a11, a12, a13⟩ := cells4 T.p1
  obtain ⟨a20, a21, a22, a23⟩ := cells4 T.p2
  have T0 := T.drew
  go_region_held3 (fun w' => w'.cell? ⟨w3.heap.size, 0, none⟩ = some (fnV 144 #[boxV (w.heap.size)]) ∧ w'.cell? ⟨w3.heap.size, 1, none⟩ = some (fnV 146 #[]) ∧ w'.cell? ⟨w3.heap.size, 2, none⟩ = some (fnV 148 #[boxV (w.heap.size)]) ∧ w'.cell? ⟨w3.heap.size, 3, none⟩ = some (.bool false) ∧ w'.cell? ⟨w3.heap.size + 1, 0, none⟩ = some (fnV 144 #[boxV (w1.heap.size)]) ∧ w'.cell? ⟨w3.heap.size + 1, 1, none⟩ = some (fnV 146 #[]) ∧ w'.cell? ⟨w3.heap.size + 1, 2, none⟩ = some (fnV 148 #[boxV (w1.heap.size)]) ∧ w'.cell? ⟨w3.heap.size + 1, 3, none⟩ = some (.bool false)) (first | ((repeat' apply And.intro) <;> assumption) | go_keep)
    (first | (go_at_call 123; refine (hexPart_in _).mono ?_; rintro e x1 ⟨rfl, hx1⟩; refine HL.out _ _ x1 T0 hx1 ?_; intro T1 d10_1 d11_1 d12_1 d13_1 d20_1 d21_1 d22_1 d23_1))
  have hs1 := T1.bl.size
  go_wp2
  go_ret
  refine ⟨x1.heap.size, w.heap.size, w1.heap.size, rfl, hs1, ?_, (alloc_old _ _ _ (box_lt T1.o1)).trans T1.o1, (alloc_old _ _ _ (box_lt T1.o2)).trans T1.o2, T1.bl.alloc hs1 _⟩
  simp only [List.flatMap_cons, List.flatMap_nil, partCells, numPt, hexPt, List.cons_append, List.nil_append, List.append_nil]
  exact heap_new _ _
/-- how data go past the parts of DNSKEY. -/
def pf48 (j : Nat) (s : ByteArray) : Option Nat := match j with
  | 0 => takeK 2 s
  | 1 => takeK 1 s
  | 2 => takeK 1 s
  | _ => if 0 < s.size then some s.size else none
theorem parts48 (w : World) : Calls Tryz.prog 86 #[.int .i64 48] w fun e w' => PartsPost 4 pf48 w e w' := by
  refine (raw_KEY w).mono ?_
  rintro e w' ⟨g, b1, b2, rfl, hg, hc, o1, o2, hb⟩
  refine ⟨g, fun j => [numPt b2, numPt b1, numPt b1, hexPt].getD j default, rfl, parts_in hc, ?_, ?_, hb⟩
  · intro j hj
    match j, hj with
    | 0, _ => exact enters_by Tryz.func144 (by kernel_rfl) rfl
    | 1, _ => exact enters_by Tryz.func144 (by kernel_rfl) rfl
    | 2, _ => exact enters_by Tryz.func144 (by kernel_rfl) rfl
    | 3, _ => exact enters_by Tryz.func162 (by kernel_rfl) rfl
  · intro j hj W' d s' hb' _ hr hs
    match j, hj with
    | 0, _ => exact numPass_in W' b2 d 2 (by omega) ((hb'.block _ (box_lt o2)).trans o2) s' hs hr
    | 1, _ => exact numPass_in W' b1 d 1 (by omega) ((hb'.block _ (box_lt o1)).trans o1) s' hs hr
    | 2, _ => exact numPass_in W' b1 d 1 (by omega) ((hb'.block _ (box_lt o1)).trans o1) s' hs hr
    | 3, _ => exact hexPass_in W' d s' hs hr
/-- the pieces of data of DNSKEY. -/
def spl48 (s : ByteArray) : Option (List ByteArray) := if 5 ≤ s.size ∧ s.size ≤ 2000 then some [s.extract 0 2, (s.extract 2 s.size).extract 0 1, ((s.extract 2 s.size).extract 1 (s.size - 2)).extract 0 1, (((s.extract 2 s.size).extract 1 (s.size - 2)).extract 1 (s.size - 3)).extract 0 (s.size - 4)] else none
theorem ext_size (s : ByteArray) (a b : Nat) (h : b ≤ s.size) : (s.extract a b).size = b - a := by
  rw [ByteArray.size_extract]; omega
theorem fin48 (s : ByteArray) (hs : s.size ≤ 2000) : fin pf48 4 s = spl48 s := by
  unfold spl48 fin
  simp only [cutP, pf48, takeK]
  by_cases h2 : 2 ≤ s.size
  · have e1 := ext_size s 2 s.size (Nat.le_refl _)
    rw [if_pos h2]
    simp only [e1]
    by_cases h3 : 1 ≤ s.size - 2
    · have e2 := ext_size (s.extract 2 s.size) 1 (s.size - 2) (by omega)
      rw [if_pos h3]
      simp only [e2]
      by_cases h4 : 1 ≤ s.size - 2 - 1
      · have e3 := ext_size ((s.extract 2 s.size).extract 1 (s.size - 2)) 1 (s.size - 2 - 1) (by omega)
        rw [if_pos h4]
        simp only [e3]
        by_cases h5 : 0 < s.size - 2 - 1 - 1
        · have e4 := ext_size (((s.extract 2 s.size).extract 1 (s.size - 2)).extract 1 (s.size - 2 - 1)) (s.size - 2 - 1 - 1) (s.size - 2 - 1 - 1) (by omega)
          rw [if_pos h5, if_pos (show 5 ≤ s.size ∧ s.size ≤ 2000 by omega)]
          simp only [Option.map_some, e4, Nat.sub_self, if_true]
          rw [show s.size - 2 - 1 = s.size - 3 by omega, show s.size - 3 - 1 = s.size - 4 by omega]
        · rw [if_neg h5, if_neg (show ¬ (5 ≤ s.size ∧ s.size ≤ 2000) by omega)]
          rfl
      · rw [if_neg h4, if_neg (show ¬ (5 ≤ s.size ∧ s.size ≤ 2000) by omega)]
        rfl
    · rw [if_neg h3, if_neg (show ¬ (5 ≤ s.size ∧ s.size ≤ 2000) by omega)]
      rfl
  · rw [if_neg h2, if_neg (show ¬ (5 ≤ s.size ∧ s.size ≤ 2000) by omega)]
theorem split48 (s : ByteArray) (hm : s.size ≤ maxLen) (W : World) : Calls Tryz.prog 52 #[.int .i64 48, .string s] W fun e w' => SplitPost (spl48 s) W e w' := by
  by_cases h : s.size ≤ 2000
  · rw [← fin48 s h]
    exact split_in W 4 (by omega) 48 (by omega) s h _ parts48
  · have e : spl48 s = none := by unfold spl48; rw [if_neg (by omega)]
    rw [e]
    exact split_long W 48 s hm (.inr (by omega))
theorem right48 (s : ByteArray) (hm : s.size ≤ maxLen) (W : World) : Calls Tryz.prog 24 #[.int .i64 48, .string s] W fun e w' => e = .returned (.bool (decide (5 ≤ s.size ∧ s.size ≤ 2000))) ∧ Below W.heap.size W w' := by
  refine (right_of (split48 s hm) W).mono ?_
  rintro e w' ⟨rfl, hb⟩
  refine ⟨?_, hb⟩
  unfold spl48
  split
  · rename_i h; simp [h]
  · rename_i h; simp only [Option.isSome_none, h, decide_false]
end Go.Proofs.YtlcjagkfeakinaaGreatDoor.K48

/- ended. -/
namespace Go.Proofs.YtlcjagkfeakinaaGreatDoor.G
set_option linter.unusedVariables false
open Go.RowKit
/-- the last i bytes of a number. -/
def endT (m : Nat) : Nat → List UInt8
  | 0 => []
  | i + 1 => bt m i :: endT m i
theorem endT_len (m : Nat) : ∀ i, (endT m i).length = i
  | 0 => rfl
  | i + 1 => by rw [endT, List.length_cons, endT_len m i]
/-- a block with the last i bytes of a number. -/
def endL (l : List UInt8) (m i : Nat) : List UInt8 := l.take (64 - i) ++ endT m i
theorem endL_len (l : List UInt8) (hl : l.length = 64) (m i : Nat) (hi : i ≤ 64) : (endL l m i).length = 64 := by
  rw [endL, List.length_append, endT_len, List.length_take]; omega
theorem endL_set (l : List UInt8) (hl : l.length = 64) (m i : Nat) (hi : i < 64) : (endL l m i).set (63 - i) (bt m i) = endL l m (i + 1) := by
  unfold endL
  apply List.ext_getElem?
  intro k
  simp only [List.getElem?_set, List.getElem?_append, List.length_take, List.length_append, endT_len, hl, endT]
  by_cases h1 : 63 - i = k
  · subst h1
    rw [if_pos rfl, if_pos (by omega), if_neg (by omega)]
    rw [show 63 - i - min (64 - (i + 1)) 64 = 0 by omega]
    rfl
  · rw [if_neg h1]
    by_cases h2 : k < 63 - i
    · rw [if_pos (by omega), if_pos (by omega), List.getElem?_take_of_lt (by omega), List.getElem?_take_of_lt (by omega)]
    · rw [if_neg (by omega), if_neg (by omega), show k - min (64 - (i + 1)) 64 = (k - min (64 - i) 64) + 1 by omega]
      rfl
theorem ended_in (l : List UInt8) (hl : l.length = 64) (n : Nat) (hn : n ≤ 140737488355328) (w : World) :
    Calls Tryz.prog 115 #[.agg (bc l), .int .i64 (n : Int)] w fun e w' => e = .returned (.agg (bc (endL l (8 * n) 8))) ∧ Below w.heap.size w w' := by
  have HL := Hid.mk hl
  clear hl
  go_enter Tryz.func115, Tryz.ntmps115
  go_wp2_with fail
  go_loopw [10] (fun i wr => ∃ m : Nat, m ≤ 8 ∧ i = .int .i64 m ∧ wr.heap[w.heap.size]? = some (.cells (bc (endL l (8 * n) m)) 123 (0, 0)) ∧ (∃ z, z.size = 64 ∧ wr.heap[w.heap.size + 1]? = some (.cells z 123 (0, 0))) ∧ Below w.heap.size w wr) (fun i _ => 8 - (intOf i).toNat)
  case atStart =>
    refine ⟨0, by omega, rfl, ?_, ⟨_, ?_, (congrArg (fun k => (World.alloc _ _).heap[k]?) (World.size_alloc w _).symm).trans (heap_new _ _)⟩, ((Below.refl _ _).alloc (Nat.le_refl _) _).alloc (by simp) _⟩
    · rw [Below.heap_alloc _ _ _ (by simp), heap_new]
      simp [endL, endT, List.take_of_length_le (Nat.le_of_eq HL.out)]
    · rfl
  case round =>
    obtain ⟨m, hm, rfl, h1, ⟨z, hz, h2⟩, hbl⟩ := hrel
    have H1 := Hid.mk h1
    have H2 := Hid.mk h2
    by_cases hlt : m < 8
    · obtain ⟨hc, hf⟩ := cells_at h1 (j := 63 - m) (by rw [bc_at, List.getElem?_eq_getElem (by rw [endL_len l HL.out _ _ (by omega)]; omega)]; rfl)
      clear h1 h2
      have hk : ((63 : Int) - (m : Int)).toNat = 63 - m := by omega
      go_wp2
      go_roundw
      case rel =>
        have hv : (n : Int) * 8 / 2 ^ (8 * m) % 256 = ((bt (8 * n) m).toNat : Int) := by
          rw [bt, UInt8.toNat_ofNat', show (n : Int) * 8 / 2 ^ (8 * m) = ((8 * n / 2 ^ (8 * m) : Nat) : Int) by rw [Int.natCast_ediv, Int.natCast_mul, Int.natCast_pow, Int.mul_comm]; rfl]
          generalize 8 * n / 2 ^ (8 * m) = q
          omega
        rw [hv]
        refine ⟨m + 1, by omega, by go_num, ?_, ⟨z, hz, ?_⟩, hbl.setCell (Nat.le_refl _) _⟩
        · rw [cells_put H1.out, bc_set, endL_set l HL.out _ _ (by omega)]
        · rw [Below.heap_setCell _ _ _ _ (by simp)]; exact H2.out
      case measure => simp [intOf]; omega
    · obtain rfl : m = 8 := by omega
      have hs := bc_size (endL l (8 * n) 8)
      rw [endL_len l HL.out _ _ (by omega)] at hs
      have HS := Hid.mk hs
      have HZ := Hid.mk hz
      clear h1 h2 hs hz
      go_upto_region 7 with fail
      refine wp_region_lit ?_
      refine wpList_run (W' := wr) (v := .agg (bc (endL l (8 * n) 8))) rfl (op_load arr37 H1.out HS.out rfl rfl) ?_
      refine wpList_runS rfl (op_store arr37 H2.out HZ.out HS.out (bc_one _) rfl rfl rfl) ?_
      go_wp2
      refine bodyPost_ret (v := .agg (bc (endL l (8 * n) 8))) (results_cell1 arr37 Tryz.results115 rfl (setRow_heap _ _ _ _ _ _ H2.out) HS.out) rfl ⟨rfl, Below.setRow hbl (by omega) _⟩
end Go.Proofs.YtlcjagkfeakinaaGreatDoor.G

/- blockOf (printed by mkblk.py). -/
namespace Go.Proofs.YtlcjagkfeakinaaGreatDoor.G
set_option linter.unusedVariables false
open Go.RowKit
theorem zero64 : (#[Value.int IntKind.u8 0, Value.int IntKind.u8 0, Value.int IntKind.u8 0, Value.int IntKind.u8 0, Value.int IntKind.u8 0, Value.int IntKind.u8 0, Value.int IntKind.u8 0, Value.int IntKind.u8 0, Value.int IntKind.u8 0, Value.int IntKind.u8 0, Value.int IntKind.u8 0, Value.int IntKind.u8 0, Value.int IntKind.u8 0, Value.int IntKind.u8 0, Value.int IntKind.u8 0, Value.int IntKind.u8 0, Value.int IntKind.u8 0, Value.int IntKind.u8 0, Value.int IntKind.u8 0, Value.int IntKind.u8 0, Value.int IntKind.u8 0, Value.int IntKind.u8 0, Value.int IntKind.u8 0, Value.int IntKind.u8 0, Value.int IntKind.u8 0, Value.int IntKind.u8 0, Value.int IntKind.u8 0, Value.int IntKind.u8 0, Value.int IntKind.u8 0, Value.int IntKind.u8 0, Value.int IntKind.u8 0, Value.int IntKind.u8 0, Value.int IntKind.u8 0, Value.int IntKind.u8 0, Value.int IntKind.u8 0, Value.int IntKind.u8 0, Value.int IntKind.u8 0, Value.int IntKind.u8 0, Value.int IntKind.u8 0, Value.int IntKind.u8 0, Value.int IntKind.u8 0, Value.int IntKind.u8 0, Value.int IntKind.u8 0, Value.int IntKind.u8 0, Value.int IntKind.u8 0, Value.int IntKind.u8 0, Value.int IntKind.u8 0, Value.int IntKind.u8 0, Value.int IntKind.u8 0, Value.int IntKind.u8 0, Value.int IntKind.u8 0, Value.int IntKind.u8 0, Value.int IntKind.u8 0, Value.int IntKind.u8 0, Value.int IntKind.u8 0, Value.int IntKind.u8 0, Value.int IntKind.u8 0, Value.int IntKind.u8 0, Value.int IntKind.u8 0, Value.int IntKind.u8 0, Value.int IntKind.u8 0, Value.int IntKind.u8 0, Value.int IntKind.u8 0, Value.int IntKind.u8 0] : Array Value) = bc (List.replicate 64 0) := rfl
/-- bytes laid over the head of a block. -/
def over (l t : List UInt8) : List UInt8 := t.take 64 ++ l.drop (min t.length 64)
theorem over_len (l t : List UInt8) (hl : l.length = 64) : (over l t).length = 64 := by
  rw [over, List.length_append, List.length_take, List.length_drop]; omega
theorem over_at (t : List UInt8) (j : Nat) (hj : j < 64) : (over (List.replicate 64 0) t)[j]? = some (t[j]?.getD 0) := by
  unfold over
  rw [List.getElem?_append, List.length_take]
  by_cases h : j < t.length
  · rw [if_pos (by omega), List.getElem?_take_of_lt hj, List.getElem?_eq_getElem h]; rfl
  · rw [if_neg (by omega), List.getElem?_drop, List.getElem?_replicate, if_pos (by omega), List.getElem?_eq_none (by omega : t.length ≤ j)]; rfl
theorem endL_at (l : List UInt8) (hl : l.length = 64) (m j : Nat) (hj : j < 64) : (endL l m 8)[j]? = if j < 56 then l[j]? else some (bt m (63 - j)) := by
  unfold endL
  rw [List.getElem?_append, List.length_take]
  by_cases h : j < 56
  · rw [if_pos (by omega), if_pos h, List.getElem?_take_of_lt (by omega)]
  · rw [if_neg (by omega), if_neg h]
    rcases (show j = 56 ∨ j = 57 ∨ j = 58 ∨ j = 59 ∨ j = 60 ∨ j = 61 ∨ j = 62 ∨ j = 63 by omega) with rfl | rfl | rfl | rfl | rfl | rfl | rfl | rfl <;> (rw [show min (64 - 8) l.length = 56 by omega]; rfl)
theorem blk_at (l : List UInt8) (k j : Nat) (hj : j < 64) : (blk l k)[j]? = some (padAt l (64 * k + j)) := by
  unfold blk
  rw [List.getElem?_map, List.getElem?_range hj]
  rfl
theorem list_ext64 {a b : List UInt8} (ha : a.length = 64) (hb : b.length = 64) (h : ∀ j, j < 64 → a[j]? = b[j]?) : a = b := by
  apply List.ext_getElem?
  intro j
  by_cases hj : j < 64
  · exact h j hj
  · rw [List.getElem?_eq_none (by omega), List.getElem?_eq_none (by omega)]
abbrev base (l : List UInt8) (k : Nat) : List UInt8 := over (List.replicate 64 0) (l.drop (64 * k))
theorem base_len (l : List UInt8) (k : Nat) : (base l k).length = 64 := over_len _ _ (List.length_replicate ..)
theorem base_at (l : List UInt8) (k j : Nat) (hj : j < 64) : (base l k)[j]? = some (l[64 * k + j]?.getD 0) := by
  rw [over_at _ _ hj, List.getElem?_drop]
theorem blk_A (l : List UInt8) (k : Nat) (h : 64 * k + 64 ≤ l.length) : base l k = blk l k :=
  list_ext64 (base_len l k) (blk_len l k) fun j hj => by
    rw [base_at l k j hj, blk_at l k j hj, padAt, if_pos (by omega)]
theorem blk_B (l : List UInt8) (k : Nat) (h0 : 64 * k + 56 ≤ l.length) (h : l.length < 64 * k + 64) : (base l k).set (l.length - 64 * k) 128 = blk l k :=
  list_ext64 (by rw [List.length_set, base_len]) (blk_len l k) fun j hj => by
    rw [List.getElem?_set, base_len, base_at l k j hj, blk_at l k j hj, padAt]
    by_cases hlt : 64 * k + j < l.length
    · rw [if_pos hlt, if_neg (by omega)]
    · rw [if_neg hlt]
      by_cases he : 64 * k + j = l.length
      · rw [if_pos he, if_pos (by omega), if_pos (by omega)]
      · rw [if_neg he, if_neg (by omega), if_pos (by unfold nb; omega), List.getElem?_eq_none (by omega)]; rfl
theorem blk_L (l : List UInt8) (k : Nat) (h0 : 64 * k ≤ l.length) (h : l.length < 64 * k + 56) : endL ((base l k).set (l.length - 64 * k) 128) (8 * l.length) 8 = blk l k :=
  list_ext64 (endL_len _ (by rw [List.length_set, base_len]) _ _ (by omega)) (blk_len l k) fun j hj => by
    rw [endL_at _ (by rw [List.length_set, base_len]) _ _ hj, List.getElem?_set, base_len, base_at l k j hj, blk_at l k j hj, padAt]
    have hn : nb l.length = k + 1 := by unfold nb; omega
    rw [hn]
    by_cases hlt : 64 * k + j < l.length
    · rw [if_pos hlt, if_pos (by omega), if_neg (by omega)]
    · rw [if_neg hlt]
      by_cases he : 64 * k + j = l.length
      · rw [if_pos he, if_pos (by omega), if_pos (by omega), if_pos (by omega)]
      · rw [if_neg he]
        by_cases h8 : j < 56
        · rw [if_pos h8, if_neg (by omega), if_pos (by omega), List.getElem?_eq_none (by omega)]; rfl
        · rw [if_neg h8, if_neg (by omega), show 64 * (k + 1) - 1 - (64 * k + j) = 63 - j by omega]
theorem blk_C (l : List UInt8) (k : Nat) (hk : k < nb l.length) (h0 : l.length < 64 * k) : endL (base l k) (8 * l.length) 8 = blk l k :=
  list_ext64 (endL_len _ (base_len _ _) _ _ (by omega)) (blk_len l k) fun j hj => by
    rw [endL_at _ (base_len _ _) _ _ hj, base_at l k j hj, blk_at l k j hj, padAt]
    have hn : nb l.length = k + 1 := by unfold nb at hk ⊢; omega
    rw [hn]
    by_cases h8 : j < 56
    · rw [if_pos h8, if_neg (by omega), if_neg (by omega), if_pos (by omega), List.getElem?_eq_none (by omega)]; rfl
    · rw [if_neg h8, if_neg (by omega), if_neg (by omega), if_neg (by omega), show 64 * (k + 1) - 1 - (64 * k + j) = 63 - j by omega]
theorem ext_drop (s : ByteArray) (k : Nat) : (s.extract (k * 64) s.size).data.toList = s.data.toList.drop (64 * k) := by
  rw [ByteArray.data_extract, Array.toList_extract, List.extract_eq_take_drop, Nat.mul_comm]
  apply List.take_of_length_le
  rw [List.length_drop, size_list]; exact Nat.le_refl _
theorem ext_none (s : ByteArray) (k : Nat) (h : s.size < 64 * k) : ByteArray.empty.data.toList = s.data.toList.drop (64 * k) := by
  rw [List.drop_eq_nil_of_le (by rw [size_list]; omega)]
  rfl
theorem run_copy_str (w : World) (ty : TypeId) (g : Nat) (t : ByteArray) (l : List UInt8) (hl : l.length = 64) (hg : w.heap[g]? = some (.cells (bc l) 123 (0, 0))) :
    (Builtin.copy_ #[55, 9] ty #[.slice (some ⟨g, 0, none⟩) 64 64, .string t]).run Tryz.prog w = .ok (goInt ((min t.size 64 : Nat) : Int)) (w.setRow g (bc (over l t.data.toList))) := by
  have hst := run_storeCells_at Tryz.prog g 0 123 ((t.data.toList.take 64).map fun c => Value.int .u8 (c.toNat : Int)) 0 (bc l) w hg (by simp [bc_size, hl]; omega) (by intro v hv; obtain ⟨c, _, rfl⟩ := List.mem_map.1 hv; rfl)
  have hz : (sizeOf 5).run Tryz.prog w = .ok 1 w := by kernel_rfl
  simp only [Nat.zero_add] at hst
  have he : ((bc l).toList.take 0 ++ (t.data.toList.take 64).map (fun c => Value.int .u8 (c.toNat : Int)) ++ (bc l).toList.drop ((t.data.toList.take 64).map fun c => Value.int .u8 (c.toNat : Int)).length).toArray = bc (over l t.data.toList) := by
    simp only [List.take_zero, List.nil_append, List.length_map, List.length_take, bc, over, List.map_append, List.map_drop, Nat.min_comm]
  rw [he] at hst
  have hmin : Nat.min t.size 64 = min t.size 64 := rfl
  simp [Builtin.copy_, run_underlying Tryz.underlying55, Builtin.lenOf, Builtin.firstCells, hz, hmin]
  have hd : (t.data.toList.map fun b => Value.int .u8 (b.toNat : Int)).take (min t.size 64) = (t.data.toList.take 64).map fun c => Value.int .u8 (c.toNat : Int) := by
    rw [← List.map_take, ← size_list t]
    refine congrArg (List.map _) ?_
    by_cases h : t.data.toList.length ≤ 64
    · rw [Nat.min_eq_left h, List.take_length, List.take_of_length_le h]
    · rw [Nat.min_eq_right (by omega)]
  rw [hd, hst]
  rfl
/-- a block that is another one than the one written. -/
theorem step_copy_str {w : World} {ops : Array Oper} {o : Oper} {a : Act} {K : Act → World → Prop} {Q : Exit → Act → World → Prop} {E : Prop} (hgd : o.guard = none) (d s : Operand)
    (ho : o.op = .call { callee := .builtin .copy, args := #[d, s], argTypes := #[55, 9] }) (g : Nat) (hd : a.eval d = .slice (some ⟨g, 0, none⟩) 64 64) (t : ByteArray) (hs : a.eval s = .string t)
    (l : List UInt8) (hl : l.length = 64) (hg : w.heap[g]? = some (.cells (bc l) 123 (0, 0))) (g0 : Nat) (o0 : Obj) (h0 : w.heap[g0]? = some o0) (hne : g0 ≠ g) (w0 : World) (hb : Below w0.heap.size w0 w) (hBg : w0.heap.size ≤ g)
    (h : ∀ w', Hid (w'.heap[g]? = some (.cells (bc (over l t.data.toList)) 123 (0, 0))) → Hid (w'.heap[g0]? = some o0) → Below w0.heap.size w0 w' → K (a.put o.dst (goInt ((min t.size 64 : Nat) : Int))) w') :
    if Region.wanted o (yielded ops a.tmps) = true then Oper.wp Tryz.prog o a w K Q else E := by
  have hw : Region.wanted o (yielded ops a.tmps) = true := by simp [Region.wanted, hgd]
  rw [if_pos hw]
  unfold Oper.wp
  simp [execOp, ho, resolve, invoke, builtin, hd, hs, run_copy_str w o.type g t l hl hg, Result.andThen]
  exact h _ (setRow_heap _ _ _ _ _ _ hg) ((setRow_other _ _ _ _ hne).trans h0) (Below.setRow hb hBg _)
theorem step_min {w : World} {ops : Array Oper} {o : Oper} {a : Act} {K : Act → World → Prop} {Q : Exit → Act → World → Prop} {E : Prop} (hgd : o.guard = none) (x y : Operand)
    (ho : o.op = .call { callee := .builtin .min, args := #[x, y], argTypes := #[3, 3] }) (m n c : Int) (hx : a.eval x = .int .i64 m) (hy : a.eval y = .int .i64 n) (hc : (if n < m then n else m) = c)
    (h : K (a.put o.dst (.int .i64 c)) w) :
    if Region.wanted o (yielded ops a.tmps) = true then Oper.wp Tryz.prog o a w K Q else E := by
  have hw : Region.wanted o (yielded ops a.tmps) = true := by simp [Region.wanted, hgd]
  rw [if_pos hw]
  subst hc
  unfold Oper.wp
  simp [execOp, ho, resolve, invoke, builtin, hx, hy, Builtin.min_, Builtin.min2]
  exact h

set_option maxRecDepth 100000 in
set_option maxHeartbeats 2000000 in
theorem blockOf_A (s : ByteArray) (k : Nat) (hs : s.size ≤ 140737488355328) (hk : k < nb s.size) (hA : 64 * k + 64 ≤ s.size) (w : World) :
    Calls Tryz.prog 80 #[.string s, .int .i64 (k : Int)] w fun e w' => e = .returned (.agg (bc (blk s.data.toList k))) ∧ Below w.heap.size w w' := by
  have HK := Hid.mk hk
  obtain ⟨q, hn, hq1, hq2⟩ : ∃ q, nb s.size = q + 1 ∧ k < q ∧ q ≤ 2199023255553 := ⟨(s.size + 8) / 64, rfl, by omega, by omega⟩
  have hne : ((k : Int) == (q : Int)) = false := by rw [beq_eq_false_iff_ne]; omega
  have HB := Hid.mk (blocks_in s.size hs)
  rw [hn] at HB
  unfold nb at hk
  have g1 : (0 : Int) ≤ ((k : Int) * 64) := by omega
  have g2 : ((k : Int) * 64) ≤ (s.size : Int) := by omega
  have hmc : (if (s.size : Int) < (k : Int) * 64 then (s.size : Int) else (k : Int) * 64) = ((k : Int) * 64) := if_neg (by omega)
  have hkn : (((k : Int) * 64)).toNat = k * 64 := by omega
  clear hn
  go_enter Tryz.func80, Tryz.ntmps80
  go_upto_region 3 with fail
  rw [zero64]
  obtain ⟨W1, hW1⟩ : ∃ W1, (w.alloc (.cells (bc (List.replicate 64 0)) 123)).alloc (.cells (bc (List.replicate 64 0)) 123) = W1 := ⟨_, rfl⟩
  have h4 : W1.heap[w.heap.size]? = some (.cells (bc (List.replicate 64 0)) 123 (0, 0)) := by
    rw [← hW1, Below.heap_alloc _ _ _ (by simp), heap_new]
  have h5 : W1.heap[w.heap.size + 1]? = some (.cells (bc (List.replicate 64 0)) 123 (0, 0)) := by
    rw [← hW1]
    exact (congrArg (fun k => (World.alloc _ _).heap[k]?) (World.size_alloc w _).symm).trans (heap_new _ _)
  have hbl : Below w.heap.size w W1 := by
    rw [← hW1]
    exact ((Below.refl _ _).alloc (Nat.le_refl _) _).alloc (by simp) _
  rw [hW1]
  have H4 := Hid.mk h4
  have H5 := Hid.mk h5
  clear h4 h5 hW1
  go_region_law (first
    | (have hck := M1; clear hck; refine step_copy_str rfl (.tmp 10) (.tmp 16) rfl (w.heap.size + 1) rfl (s.extract (k * 64) s.size) rfl _ (List.length_replicate ..) H5.out w.heap.size _ H4.out (by omega) w hbl.drew (by omega) ?_; intro W2 H52 H42 hbl2)
    | (refine step_min rfl (.tmp 12) (.tmp 14) rfl _ _ (((k : Int) * 64)) rfl rfl hmc ?_; have M1 : True := trivial))
  rw [ext_drop] at H52
  clear hmc H4 H5 hbl W1 M1
  go_wp2_with fail
  refine (HB.out _).mono ?_
  rintro e w1 ⟨rfl, rfl⟩
  go_upto_region 9 with fail
  refine wp_region_lit ?_
  refine wpList_run (v := .agg (bc (blk s.data.toList k))) rfl (op_load arr37 (by have := H52.out; rwa [show over (List.replicate 64 0) (List.drop (64 * k) s.data.toList) = blk s.data.toList k from blk_A s.data.toList k (by rw [size_list]; exact hA)] at this) (by rw [bc_size, blk_len]) rfl rfl) ?_
  refine wpList_runS rfl (op_store arr37 H42.out (by rw [bc_size, List.length_replicate]) (by rw [bc_size, blk_len]) (bc_one _) rfl rfl rfl) ?_
  go_wp2
  refine bodyPost_ret (v := .agg (bc (blk s.data.toList k))) (results_cell1 arr37 Tryz.results80 rfl (setRow_heap _ _ _ _ _ _ H42.out) (by rw [bc_size, blk_len])) rfl ⟨rfl, Below.setRow hbl2 (by omega) _⟩

set_option maxRecDepth 100000 in
set_option maxHeartbeats 2000000 in
theorem blockOf_B (s : ByteArray) (k : Nat) (hs : s.size ≤ 140737488355328) (hk : k < nb s.size) (h1 : 64 * k + 56 ≤ s.size) (h2 : s.size < 64 * k + 64) (w : World) :
    Calls Tryz.prog 80 #[.string s, .int .i64 (k : Int)] w fun e w' => e = .returned (.agg (bc (blk s.data.toList k))) ∧ Below w.heap.size w w' := by
  have HK := Hid.mk hk
  obtain ⟨q, hn, hq1, hq2⟩ : ∃ q, nb s.size = q + 1 ∧ k < q ∧ q ≤ 2199023255553 := ⟨(s.size + 8) / 64, rfl, by omega, by omega⟩
  have hne : ((k : Int) == (q : Int)) = false := by rw [beq_eq_false_iff_ne]; omega
  have HB := Hid.mk (blocks_in s.size hs)
  rw [hn] at HB
  unfold nb at hk
  have g1 : (0 : Int) ≤ ((k : Int) * 64) := by omega
  have g2 : ((k : Int) * 64) ≤ (s.size : Int) := by omega
  have hmc : (if (s.size : Int) < (k : Int) * 64 then (s.size : Int) else (k : Int) * 64) = ((k : Int) * 64) := if_neg (by omega)
  have hkn : (((k : Int) * 64)).toNat = k * 64 := by omega
  clear hn
  go_enter Tryz.func80, Tryz.ntmps80
  go_upto_region 3 with fail
  rw [zero64]
  obtain ⟨W1, hW1⟩ : ∃ W1, (w.alloc (.cells (bc (List.replicate 64 0)) 123)).alloc (.cells (bc (List.replicate 64 0)) 123) = W1 := ⟨_, rfl⟩
  have h4 : W1.heap[w.heap.size]? = some (.cells (bc (List.replicate 64 0)) 123 (0, 0)) := by
    rw [← hW1, Below.heap_alloc _ _ _ (by simp), heap_new]
  have h5 : W1.heap[w.heap.size + 1]? = some (.cells (bc (List.replicate 64 0)) 123 (0, 0)) := by
    rw [← hW1]
    exact (congrArg (fun k => (World.alloc _ _).heap[k]?) (World.size_alloc w _).symm).trans (heap_new _ _)
  have hbl : Below w.heap.size w W1 := by
    rw [← hW1]
    exact ((Below.refl _ _).alloc (Nat.le_refl _) _).alloc (by simp) _
  rw [hW1]
  have H4 := Hid.mk h4
  have H5 := Hid.mk h5
  clear h4 h5 hW1
  go_region_law (first
    | (have hck := M1; clear hck; refine step_copy_str rfl (.tmp 10) (.tmp 16) rfl (w.heap.size + 1) rfl (s.extract (k * 64) s.size) rfl _ (List.length_replicate ..) H5.out w.heap.size _ H4.out (by omega) w hbl.drew (by omega) ?_; intro W2 H52 H42 hbl2)
    | (refine step_min rfl (.tmp 12) (.tmp 14) rfl _ _ (((k : Int) * 64)) rfl rfl hmc ?_; have M1 : True := trivial))
  rw [ext_drop] at H52
  clear hmc H4 H5 hbl W1 M1
  obtain ⟨hc, hf⟩ := cells_at H52.out (j := s.size - 64 * k) (by rw [bc_at, base_at _ _ _ (by omega)]; rfl)
  have hj : ((s.size : Int) - (k : Int) * 64).toNat = s.size - 64 * k := by omega
  go_wp2_with fail
  refine (HB.out _).mono ?_
  rintro e w1 ⟨rfl, rfl⟩
  obtain ⟨W3, hW3⟩ : ∃ W3, W2.setCell ⟨w.heap.size + 1, s.size - 64 * k, none⟩ (.int .u8 128) = W3 := ⟨_, rfl⟩
  rw [hW3]
  have H53 : Hid (W3.heap[w.heap.size + 1]? = some (.cells (bc ((base s.data.toList k).set (s.size - 64 * k) 128)) 123 (0, 0))) := by
    rw [Hid, ← hW3, cells_put H52.out]
    exact congrArg (fun c => some (Obj.cells c 123 (0, 0))) (bc_set _ _ 128)
  have H43 : Hid (W3.heap[w.heap.size]? = some (.cells (bc (List.replicate 64 0)) 123 (0, 0))) := by
    rw [Hid, ← hW3, Below.heap_setCell _ _ _ _ (by simp)]; exact H42.out
  have hbl3 : Below w.heap.size w W3 := by rw [← hW3]; exact hbl2.setCell (by simp) _
  clear hc hf hW3 H52 H42 hbl2 W2
  go_upto_region 9 with fail
  refine wp_region_lit ?_
  refine wpList_run (v := .agg (bc (blk s.data.toList k))) rfl (op_load arr37 (by have := H53.out; rwa [show (base s.data.toList k).set (s.size - 64 * k) 128 = blk s.data.toList k from blk_B s.data.toList k (by rw [size_list]; exact h1) (by rw [size_list]; exact h2)] at this) (by rw [bc_size, blk_len]) rfl rfl) ?_
  refine wpList_runS rfl (op_store arr37 H43.out (by rw [bc_size, List.length_replicate]) (by rw [bc_size, blk_len]) (bc_one _) rfl rfl rfl) ?_
  go_wp2
  refine bodyPost_ret (v := .agg (bc (blk s.data.toList k))) (results_cell1 arr37 Tryz.results80 rfl (setRow_heap _ _ _ _ _ _ H43.out) (by rw [bc_size, blk_len])) rfl ⟨rfl, Below.setRow hbl3 (by omega) _⟩

set_option maxRecDepth 100000 in
set_option maxHeartbeats 2000000 in
theorem blockOf_L (s : ByteArray) (k : Nat) (hs : s.size ≤ 140737488355328) (hk : k < nb s.size) (h1 : 64 * k ≤ s.size) (h2 : s.size < 64 * k + 56) (w : World) :
    Calls Tryz.prog 80 #[.string s, .int .i64 (k : Int)] w fun e w' => e = .returned (.agg (bc (blk s.data.toList k))) ∧ Below w.heap.size w w' := by
  have HK := Hid.mk hk
  have hn : nb s.size = k + 1 := by unfold nb at hk ⊢; omega
  have HB := Hid.mk (blocks_in s.size hs)
  rw [hn] at HB
  unfold nb at hk
  have g1 : (0 : Int) ≤ ((k : Int) * 64) := by omega
  have g2 : ((k : Int) * 64) ≤ (s.size : Int) := by omega
  have hmc : (if (s.size : Int) < (k : Int) * 64 then (s.size : Int) else (k : Int) * 64) = ((k : Int) * 64) := if_neg (by omega)
  have hkn : (((k : Int) * 64)).toNat = k * 64 := by omega
  clear hn
  go_enter Tryz.func80, Tryz.ntmps80
  go_upto_region 3 with fail
  rw [zero64]
  obtain ⟨W1, hW1⟩ : ∃ W1, (w.alloc (.cells (bc (List.replicate 64 0)) 123)).alloc (.cells (bc (List.replicate 64 0)) 123) = W1 := ⟨_, rfl⟩
  have h4 : W1.heap[w.heap.size]? = some (.cells (bc (List.replicate 64 0)) 123 (0, 0)) := by
    rw [← hW1, Below.heap_alloc _ _ _ (by simp), heap_new]
  have h5 : W1.heap[w.heap.size + 1]? = some (.cells (bc (List.replicate 64 0)) 123 (0, 0)) := by
    rw [← hW1]
    exact (congrArg (fun k => (World.alloc _ _).heap[k]?) (World.size_alloc w _).symm).trans (heap_new _ _)
  have hbl : Below w.heap.size w W1 := by
    rw [← hW1]
    exact ((Below.refl _ _).alloc (Nat.le_refl _) _).alloc (by simp) _
  rw [hW1]
  have H4 := Hid.mk h4
  have H5 := Hid.mk h5
  clear h4 h5 hW1
  go_region_law (first
    | (have hck := M1; clear hck; refine step_copy_str rfl (.tmp 10) (.tmp 16) rfl (w.heap.size + 1) rfl (s.extract (k * 64) s.size) rfl _ (List.length_replicate ..) H5.out w.heap.size _ H4.out (by omega) w hbl.drew (by omega) ?_; intro W2 H52 H42 hbl2)
    | (refine step_min rfl (.tmp 12) (.tmp 14) rfl _ _ (((k : Int) * 64)) rfl rfl hmc ?_; have M1 : True := trivial))
  rw [ext_drop] at H52
  clear hmc H4 H5 hbl W1 M1
  obtain ⟨hc, hf⟩ := cells_at H52.out (j := s.size - 64 * k) (by rw [bc_at, base_at _ _ _ (by omega)]; rfl)
  have hj : ((s.size : Int) - (k : Int) * 64).toNat = s.size - 64 * k := by omega
  go_wp2_with fail
  refine (HB.out _).mono ?_
  rintro e w1 ⟨rfl, rfl⟩
  obtain ⟨W3, hW3⟩ : ∃ W3, W2.setCell ⟨w.heap.size + 1, s.size - 64 * k, none⟩ (.int .u8 128) = W3 := ⟨_, rfl⟩
  rw [hW3]
  have H53 : Hid (W3.heap[w.heap.size + 1]? = some (.cells (bc ((base s.data.toList k).set (s.size - 64 * k) 128)) 123 (0, 0))) := by
    rw [Hid, ← hW3, cells_put H52.out]
    exact congrArg (fun c => some (Obj.cells c 123 (0, 0))) (bc_set _ _ 128)
  have H43 : Hid (W3.heap[w.heap.size]? = some (.cells (bc (List.replicate 64 0)) 123 (0, 0))) := by
    rw [Hid, ← hW3, Below.heap_setCell _ _ _ _ (by simp)]; exact H42.out
  have hbl3 : Below w.heap.size w W3 := by rw [← hW3]; exact hbl2.setCell (by simp) _
  clear hc hf hW3 H52 H42 hbl2 W2
  go_upto_region 8 with fail
  refine wp_region_lit ?_
  refine wpList_run (v := .agg (bc ((base s.data.toList k).set (s.size - 64 * k) 128))) rfl (op_load arr37 H53.out (by rw [bc_size]; exact (by rw [List.length_set, base_len])) rfl rfl) ?_
  go_wp2_with fail
  refine (ended_in _ (by rw [List.length_set, base_len]) s.size hs _).mono ?_
  rintro e W4 ⟨rfl, hb4⟩
  have e5 : Hid _ := (Below.block hb4 _ (box_lt H53.out)).trans H53.out
  have e4 : Hid _ := (Below.block hb4 _ (box_lt H43.out)).trans H43.out
  have hbl4 : Below w.heap.size w W4 := hbl3.trans (hb4.mono hbl3.size)
  rename_i hK
  refine hK _ _ ?_
  rw [show endL ((base s.data.toList k).set (s.size - 64 * k) 128) (8 * s.size) 8 = blk s.data.toList k from blk_L s.data.toList k (by rw [size_list]; exact h1) (by rw [size_list]; exact h2)]
  refine wpList_runS rfl (op_store arr37 e5.out (by rw [bc_size]; exact (by rw [List.length_set, base_len])) (by rw [bc_size, blk_len]) (bc_one _) rfl rfl rfl) ?_
  have H55 : Hid _ := setRow_heap _ _ _ (bc (blk s.data.toList k)) _ _ e5.out
  have H45 : Hid _ := (setRow_other W4 (w.heap.size + 1) w.heap.size (bc (blk s.data.toList k)) (by omega)).trans e4.out
  have hbl5 : Below w.heap.size w (W4.setRow (w.heap.size + 1) (bc (blk s.data.toList k))) := Below.setRow hbl4 (by omega) _
  generalize W4.setRow (w.heap.size + 1) (bc (blk s.data.toList k)) = W5 at H55 H45 hbl5 ⊢
  go_upto_region 9 with fail
  refine wp_region_lit ?_
  refine wpList_run (v := .agg (bc (blk s.data.toList k))) rfl (op_load arr37 H55.out (by rw [bc_size, blk_len]) rfl rfl) ?_
  refine wpList_runS rfl (op_store arr37 H45.out (by rw [bc_size, List.length_replicate]) (by rw [bc_size, blk_len]) (bc_one _) rfl rfl rfl) ?_
  go_wp2
  refine bodyPost_ret (v := .agg (bc (blk s.data.toList k))) (results_cell1 arr37 Tryz.results80 rfl (setRow_heap _ _ _ _ _ _ H45.out) (by rw [bc_size, blk_len])) rfl ⟨rfl, Below.setRow hbl5 (by omega) _⟩

set_option maxRecDepth 100000 in
set_option maxHeartbeats 2000000 in
theorem blockOf_C (s : ByteArray) (k : Nat) (hs : s.size ≤ 140737488355328) (hk : k < nb s.size) (h1 : s.size < 64 * k) (w : World) :
    Calls Tryz.prog 80 #[.string s, .int .i64 (k : Int)] w fun e w' => e = .returned (.agg (bc (blk s.data.toList k))) ∧ Below w.heap.size w w' := by
  have HK := Hid.mk hk
  have hn : nb s.size = k + 1 := by unfold nb at hk ⊢; omega
  have HB := Hid.mk (blocks_in s.size hs)
  rw [hn] at HB
  unfold nb at hk
  have g1 : (0 : Int) ≤ (s.size : Int) := by omega
  have g2 : (s.size : Int) ≤ (s.size : Int) := by omega
  have hmc : (if (s.size : Int) < (k : Int) * 64 then (s.size : Int) else (k : Int) * 64) = (s.size : Int) := if_pos (by omega)
  have hkn : ((s.size : Int)).toNat = s.size := by omega
  clear hn
  go_enter Tryz.func80, Tryz.ntmps80
  go_upto_region 3 with fail
  rw [zero64]
  obtain ⟨W1, hW1⟩ : ∃ W1, (w.alloc (.cells (bc (List.replicate 64 0)) 123)).alloc (.cells (bc (List.replicate 64 0)) 123) = W1 := ⟨_, rfl⟩
  have h4 : W1.heap[w.heap.size]? = some (.cells (bc (List.replicate 64 0)) 123 (0, 0)) := by
    rw [← hW1, Below.heap_alloc _ _ _ (by simp), heap_new]
  have h5 : W1.heap[w.heap.size + 1]? = some (.cells (bc (List.replicate 64 0)) 123 (0, 0)) := by
    rw [← hW1]
    exact (congrArg (fun k => (World.alloc _ _).heap[k]?) (World.size_alloc w _).symm).trans (heap_new _ _)
  have hbl : Below w.heap.size w W1 := by
    rw [← hW1]
    exact ((Below.refl _ _).alloc (Nat.le_refl _) _).alloc (by simp) _
  rw [hW1]
  have H4 := Hid.mk h4
  have H5 := Hid.mk h5
  clear h4 h5 hW1
  go_region_law (first
    | (have hck := M1; clear hck; refine step_copy_str rfl (.tmp 10) (.tmp 16) rfl (w.heap.size + 1) rfl ByteArray.empty rfl _ (List.length_replicate ..) H5.out w.heap.size _ H4.out (by omega) w hbl.drew (by omega) ?_; intro W2 H52 H42 hbl2)
    | (refine step_min rfl (.tmp 12) (.tmp 14) rfl _ _ ((s.size : Int)) rfl rfl hmc ?_; have M1 : True := trivial))
  rw [ext_none s k h1] at H52
  clear hmc H4 H5 hbl W1 M1
  go_wp2_with fail
  refine (HB.out _).mono ?_
  rintro e w1 ⟨rfl, rfl⟩
  go_upto_region 8 with fail
  refine wp_region_lit ?_
  refine wpList_run (v := .agg (bc (base s.data.toList k))) rfl (op_load arr37 H52.out (by rw [bc_size]; exact (base_len _ _)) rfl rfl) ?_
  go_wp2_with fail
  refine (ended_in _ (base_len _ _) s.size hs _).mono ?_
  rintro e W4 ⟨rfl, hb4⟩
  have e5 : Hid _ := (Below.block hb4 _ (box_lt H52.out)).trans H52.out
  have e4 : Hid _ := (Below.block hb4 _ (box_lt H42.out)).trans H42.out
  have hbl4 : Below w.heap.size w W4 := hbl2.trans (hb4.mono hbl2.size)
  rename_i hK
  refine hK _ _ ?_
  rw [show endL (base s.data.toList k) (8 * s.size) 8 = blk s.data.toList k from blk_C s.data.toList k HK.out h1]
  refine wpList_runS rfl (op_store arr37 e5.out (by rw [bc_size]; exact (base_len _ _)) (by rw [bc_size, blk_len]) (bc_one _) rfl rfl rfl) ?_
  have H55 : Hid _ := setRow_heap _ _ _ (bc (blk s.data.toList k)) _ _ e5.out
  have H45 : Hid _ := (setRow_other W4 (w.heap.size + 1) w.heap.size (bc (blk s.data.toList k)) (by omega)).trans e4.out
  have hbl5 : Below w.heap.size w (W4.setRow (w.heap.size + 1) (bc (blk s.data.toList k))) := Below.setRow hbl4 (by omega) _
  generalize W4.setRow (w.heap.size + 1) (bc (blk s.data.toList k)) = W5 at H55 H45 hbl5 ⊢
  go_upto_region 9 with fail
  refine wp_region_lit ?_
  refine wpList_run (v := .agg (bc (blk s.data.toList k))) rfl (op_load arr37 H55.out (by rw [bc_size, blk_len]) rfl rfl) ?_
  refine wpList_runS rfl (op_store arr37 H45.out (by rw [bc_size, List.length_replicate]) (by rw [bc_size, blk_len]) (bc_one _) rfl rfl rfl) ?_
  go_wp2
  refine bodyPost_ret (v := .agg (bc (blk s.data.toList k))) (results_cell1 arr37 Tryz.results80 rfl (setRow_heap _ _ _ _ _ _ H45.out) (by rw [bc_size, blk_len])) rfl ⟨rfl, Below.setRow hbl5 (by omega) _⟩

theorem blockOf_in (s : ByteArray) (k : Nat) (hs : s.size ≤ 140737488355328) (hk : k < nb s.size) (w : World) :
    Calls Tryz.prog 80 #[.string s, .int .i64 (k : Int)] w fun e w' => e = .returned (.agg (bc (blk s.data.toList k))) ∧ Below w.heap.size w w' := by
  by_cases hA : 64 * k + 64 ≤ s.size
  · exact blockOf_A s k hs hk hA w
  · by_cases hB : 64 * k + 56 ≤ s.size
    · exact blockOf_B s k hs hk hB (by omega) w
    · by_cases hL : 64 * k ≤ s.size
      · exact blockOf_L s k hs hk hL (by omega) w
      · exact blockOf_C s k hs hk (by omega) w
end Go.Proofs.YtlcjagkfeakinaaGreatDoor.G

/- bytesOf, Sum1. -/
namespace Go.Proofs.YtlcjagkfeakinaaGreatDoor.G
set_option linter.unusedVariables false
open Go.RowKit

theorem put5 {W : World} {b t : Nat} (s r : S5) (h : W.heap[b]? = some (.cells (wc s.l) t (0, 0))) :
    (((((W.setCell ⟨b, 0, none⟩ (.int .u32 (r.a.toNat : Int))).setCell ⟨b, 1, none⟩ (.int .u32 (r.b.toNat : Int))).setCell ⟨b, 2, none⟩ (.int .u32 (r.c.toNat : Int))).setCell ⟨b, 3, none⟩ (.int .u32 (r.d.toNat : Int))).setCell ⟨b, 4, none⟩ (.int .u32 (r.e.toNat : Int))).heap[b]? = some (.cells (wc r.l) t (0, 0)) := by
  rw [cells_put (cells_put (cells_put (cells_put (cells_put h _) _) _) _) _]
  rfl
theorem cells5 {W : World} {b t : Nat} (s : S5) (h : W.heap[b]? = some (.cells (wc s.l) t (0, 0))) :
    (W.cell? ⟨b, 0, none⟩ = some (.int .u32 (s.a.toNat : Int)) ∧ W.cell? ⟨b, 1, none⟩ = some (.int .u32 (s.b.toNat : Int)) ∧ W.cell? ⟨b, 2, none⟩ = some (.int .u32 (s.c.toNat : Int)) ∧ W.cell? ⟨b, 3, none⟩ = some (.int .u32 (s.d.toNat : Int)) ∧ W.cell? ⟨b, 4, none⟩ = some (.int .u32 (s.e.toNat : Int))) ∧
    (W.frozen? ⟨b, 0, none⟩ = false ∧ W.frozen? ⟨b, 1, none⟩ = false ∧ W.frozen? ⟨b, 2, none⟩ = false ∧ W.frozen? ⟨b, 3, none⟩ = false ∧ W.frozen? ⟨b, 4, none⟩ = false) :=
  ⟨s.at h, (cells_at h (j := 0) rfl).2, (cells_at h (j := 1) rfl).2, (cells_at h (j := 2) rfl).2, (cells_at h (j := 3) rfl).2, (cells_at h (j := 4) rfl).2⟩

set_option maxRecDepth 100000 in
set_option maxHeartbeats 2000000 in
theorem sum1_gen (s : ByteArray) (hs : s.size ≤ 140737488355328) (n : Nat) (hn : n = nb s.size) (B : Nat → List UInt8) (hB : ∀ k, (B k).length = 64) (R : Nat → S5) (hR0 : R 0 = ⟨0x67452301#32, 0xefcdab89#32, 0x98badcfe#32, 0x10325476#32, 0xc3d2e1f0#32⟩) (hRs : ∀ k, R (k + 1) = stir1 (R k) (B k))
    (hbk : ∀ k, k < n → ∀ w : World, Calls Tryz.prog 80 #[.string s, .int .i64 (k : Int)] w fun e w' => e = .returned (.agg (bc (B k))) ∧ Below w.heap.size w w')
    (T : List UInt8) (hT : ∀ (W : World) (b : Nat), W.heap[b]? = some (.cells (wc (R n).l) 152 (0, 0)) → Calls Tryz.prog 81 #[.slice (some ⟨b, 0, none⟩) 5 5] W fun e w' => e = .returned (.string ⟨T.toArray⟩) ∧ Below W.heap.size W w') (w : World) :
    Calls Tryz.prog 62 #[.string s] w fun e w' => e = .returned (.string ⟨T.toArray⟩) ∧ Below w.heap.size w w' := by
  have HN : Hid (n = nb s.size) := hn
  have HB := Hid.mk hB
  have HR0 := Hid.mk hR0
  have HRs := Hid.mk hRs
  have HBK := Hid.mk hbk
  have HT := Hid.mk hT
  have hnb : n ≤ 2199023255553 := by rw [hn]; unfold nb; omega
  have HBL := Hid.mk (blocks_in s.size hs)
  rw [← hn] at HBL
  clear hn hB hR0 hRs hbk hT
  go_enter Tryz.func62, Tryz.ntmps62
  go_wp2_with fail
  refine (HBL.out _).mono ?_
  rintro e W1 ⟨rfl, rfl⟩
  go_wp2_with fail
  go_loopw [9] (fun i wr => ∃ m : Nat, m ≤ n ∧ i = .int .i64 m ∧ wr.heap[w.heap.size]? = some (.cells (wc (R m).l) 152 (0, 0)) ∧ Below w.heap.size w wr) (fun i _ => n - (intOf i).toNat)
  case atStart =>
    refine ⟨0, by omega, rfl, ?_, (Below.refl _ _).alloc (Nat.le_refl _) _⟩
    rw [HR0.out, heap_new]
    rfl
  case round =>
    obtain ⟨m, hm, rfl, h1, hbl⟩ := hrel
    have H1 := Hid.mk h1
    by_cases hlt : m < n
    · have HST : Hid (∀ W : World, Calls Tryz.prog 103 #[.agg #[.int .u32 ((R m).a.toNat : Int), .int .u32 ((R m).b.toNat : Int), .int .u32 ((R m).c.toNat : Int), .int .u32 ((R m).d.toNat : Int), .int .u32 ((R m).e.toNat : Int)], .agg (bc (B m))] W fun x w' => x = .returned (.agg #[.int .u32 ((R (m + 1)).a.toNat : Int), .int .u32 ((R (m + 1)).b.toNat : Int), .int .u32 ((R (m + 1)).c.toNat : Int), .int .u32 ((R (m + 1)).d.toNat : Int), .int .u32 ((R (m + 1)).e.toNat : Int)]) ∧ Below W.heap.size W w') := fun W => by
        rw [HRs.out m]
        exact stir1_in (R m) (B m) (HB.out m) W
      have HBM := Hid.mk (HBK.out m hlt)
      obtain ⟨⟨c0, c1, c2, c3, c4⟩, f0, f1', f2, f3, f4⟩ := cells5 (R m) h1
      clear h1
      go_wp2_with fail
      go_region_with (first
        | (have hck := M1; clear hck; go_at_call 103; refine (HST.out _).mono ?_; rintro e w2 ⟨rfl, hb2⟩; have K2 : Hid (w2.heap[w.heap.size]? = _) := (hb2.block _ (box_lt K1.out)).trans K1.out; obtain ⟨⟨e0, e1, e2, e3, e4⟩, g0, g1, g2, g3, g4⟩ := cells5 (R m) K2.out)
        | (go_at_call 80; refine (HBM.out _).mono ?_; rintro e w1 ⟨rfl, hb1⟩; have K1 : Hid (w1.heap[w.heap.size]? = _) := (hb1.block _ (box_lt H1.out)).trans H1.out; obtain ⟨⟨d0, d1, d2, d3, d4⟩, j0, j1, j2, j3, j4⟩ := cells5 (R m) K1.out; have M1 : True := trivial))
      all_goals (
        have hbw : Below w.heap.size w w2 := bthen (bthen hbl.drew hb1) hb2
        clear hb1 hb2 K1 d0 d1 d2 d3 d4 j0 j1 j2 j3 j4 e0 e1 e2 e3 e4 g0 g1 g2 g3 g4 c0 c1 c2 c3 c4 f0 f1' f2 f3 f4
        go_wp2
        go_roundw
        case rel => exact ⟨m + 1, by omega, by go_num, put5 (R m) (R (m + 1)) K2.out, ((((hbw.setCell (Nat.le_refl _) _).setCell (Nat.le_refl _) _).setCell (Nat.le_refl _) _).setCell (Nat.le_refl _) _).setCell (Nat.le_refl _) _⟩
        case measure => simp [intOf]; omega)
    · obtain rfl : m = n := by omega
      have HTT := Hid.mk (HT.out wr w.heap.size H1.out)
      clear h1
      go_wp2_with fail
      refine HTT.out.mono ?_
      rintro e w3 ⟨rfl, hb3⟩
      go_wp2
      go_ret
      exact ⟨rfl, bthen hbl hb3⟩
end Go.Proofs.YtlcjagkfeakinaaGreatDoor.G
