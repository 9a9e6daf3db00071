/- partsOf: the form of NSEC3. -/
import Derived.Test.YtkohkkakbcjgcabGreatDoorDPartsA
namespace Go.Proofs.YtkohkkakbcjgcabGreatDoor
set_option linter.unusedVariables false
set_option linter.unusedSimpArgs false
open Go.RowKit

set_option maxRecDepth 100000 in
set_option maxHeartbeats 4000000 in
theorem raw_NSEC3 (w : World) : Calls Tryz.prog 47 #[.int .i64 50] w fun e w' => RawPost [.num 1, .num 1, .num 2, .salt, .hash, .types] w e w' := by
  have hmf := mkf
  have hmo : Tryz.prog.follows Departure.mixedOrders = true := by kernel_rfl
  go_enter Tryz.func47, Tryz.ntmps47
  go_wp2_with fail
  refine (numberPart_in _ _).mono ?_
  rintro e w1 ⟨rfl, ho1, hb1⟩
  go_wp2_with fail
  refine (numberPart_in _ _).mono ?_
  rintro e w2 ⟨rfl, ho2, hb2⟩
  go_wp2_with fail
  refine (numberPart_in _ _).mono ?_
  rintro e w3 ⟨rfl, ho3, hb3⟩
  have T := three_of ho1 hb1 ho2 hb2 ho3 hb3
  clear ho1 ho2 ho3 hb1 hb2 hb3
  go_wp2
  obtain ⟨WB, hWB⟩ : ∃ WB, WB = (((w3.alloc (.cells (numP w.heap.size) 86)).alloc (.cells (numP w1.heap.size) 86)).alloc (.cells (numP w2.heap.size) 86)) := ⟨_, rfl⟩
  rw [← hWB] at T
  rw [← hWB]
  clear hWB
  have HL : Hid (∀ (G : Prop) (A B : World), Three w A w3.heap.size w.heap.size w1.heap.size w2.heap.size → Below A.heap.size A B → (Three w B w3.heap.size w.heap.size w1.heap.size w2.heap.size → B.cell? ⟨w3.heap.size, 0, none⟩ = some (fnV 83 #[boxV (w.heap.size)]) → B.cell? ⟨w3.heap.size, 1, none⟩ = some (fnV 84 #[]) → B.cell? ⟨w3.heap.size, 2, none⟩ = some (fnV 86 #[boxV (w.heap.size)]) → B.cell? ⟨w3.heap.size, 3, none⟩ = some (.bool false) → B.cell? ⟨w3.heap.size + 1, 0, none⟩ = some (fnV 83 #[boxV (w1.heap.size)]) → B.cell? ⟨w3.heap.size + 1, 1, none⟩ = some (fnV 84 #[]) → B.cell? ⟨w3.heap.size + 1, 2, none⟩ = some (fnV 86 #[boxV (w1.heap.size)]) → B.cell? ⟨w3.heap.size + 1, 3, none⟩ = some (.bool false) → G) → G) := by
    intro G A B hT hB hG
    have hT' := hT.below hB
    exact hG hT' (cells4 hT'.p1).1 (cells4 hT'.p1).2.1 (cells4 hT'.p1).2.2.1 (cells4 hT'.p1).2.2.2 (cells4 hT'.p2).1 (cells4 hT'.p2).2.1 (cells4 hT'.p2).2.2.1 (cells4 hT'.p2).2.2.2
  obtain ⟨a10, a11, a12, a13⟩ := cells4 T.p1
  obtain ⟨a20, a21, a22, a23⟩ := cells4 T.p2
  have T0 := T.drew
  go_region_held3 (fun w' => w'.cell? ⟨w3.heap.size, 0, none⟩ = some (fnV 83 #[boxV (w.heap.size)]) ∧ w'.cell? ⟨w3.heap.size, 1, none⟩ = some (fnV 84 #[]) ∧ w'.cell? ⟨w3.heap.size, 2, none⟩ = some (fnV 86 #[boxV (w.heap.size)]) ∧ w'.cell? ⟨w3.heap.size, 3, none⟩ = some (.bool false) ∧ w'.cell? ⟨w3.heap.size + 1, 0, none⟩ = some (fnV 83 #[boxV (w1.heap.size)]) ∧ w'.cell? ⟨w3.heap.size + 1, 1, none⟩ = some (fnV 84 #[]) ∧ w'.cell? ⟨w3.heap.size + 1, 2, none⟩ = some (fnV 86 #[boxV (w1.heap.size)]) ∧ w'.cell? ⟨w3.heap.size + 1, 3, none⟩ = some (.bool false)) (first | ((repeat' apply And.intro) <;> assumption) | go_keep)
    (first | (go_at_call 70; refine (saltPart_in _).mono ?_; rintro e x1 ⟨rfl, hx1⟩; refine HL.out _ _ x1 T0 hx1 ?_; intro T1 d10_1 d11_1 d12_1 d13_1 d20_1 d21_1 d22_1 d23_1) | (go_at_call 71; refine (hashPart_in _).mono ?_; rintro e x2 ⟨rfl, hx2⟩; refine HL.out _ _ x2 T1 hx2 ?_; intro T2 d10_2 d11_2 d12_2 d13_2 d20_2 d21_2 d22_2 d23_2) | (go_at_call 69; refine (typesPart_in _).mono ?_; rintro e x3 ⟨rfl, hx3⟩; refine HL.out _ _ x3 T2 hx3 ?_; intro T3 d10_3 d11_3 d12_3 d13_3 d20_3 d21_3 d22_3 d23_3))
  have hs3 := T3.bl.size
  go_wp2
  go_ret
  refine ⟨x3.heap.size, [numPt w.heap.size, numPt w.heap.size, numPt w1.heap.size, saltPt, hashPt, typesPt], rfl, hs3, ?_, ⟨T3.num1 _, T3.num1 _, T3.num2 _, rfl, rfl, rfl, trivial⟩, T3.bl.alloc hs3 _⟩
  simp only [List.flatMap_cons, List.flatMap_nil, partCells, namePt, numPt, typePt, hexPt, saltPt, hashPt, typesPt, List.cons_append, List.nil_append, List.append_nil]
  exact heap_new _ _

end Go.Proofs.YtkohkkakbcjgcabGreatDoor
