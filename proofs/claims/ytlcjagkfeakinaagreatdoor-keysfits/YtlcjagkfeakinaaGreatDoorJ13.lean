/- Texts of this proof, joined: KFitsW. -/
import Derived.Test.YtlcjagkfeakinaaGreatDoorJ12
/- KeysFits: the walk. -/
namespace Go.Proofs.YtlcjagkfeakinaaGreatDoor
set_option linter.unusedVariables false
open Go.RowKit
open G (cells_at cells_put)

theorem kxor (n : Nat) (h : n < 65536) : ∃ X : Int, bits BinOp.xor IntKind.i64 (n : Int) 1 = X ∧ X ≠ n := by
  refine ⟨((n ^^^ 1 : Nat) : Int), ?_, ?_⟩
  · have hx : n ^^^ 1 < 2 ^ 16 := Nat.xor_lt_two_pow (by omega) (by omega)
    have h1 : (BitVec.ofInt 64 (n : Int)).toNat = n := by
      rw [BitVec.ofInt_natCast, BitVec.toNat_ofNat]; exact Nat.mod_eq_of_lt (by omega)
    have h2 : (BitVec.ofInt 64 1).toNat = 1 := rfl
    show IntKind.i64.wrap ((BitVec.ofInt 64 (n : Int) ^^^ BitVec.ofInt 64 1).toNat : Int) = _
    rw [BitVec.toNat_xor, h1, h2, IntKind.wrap_i64]
    omega
  · intro hc
    have h3 : n ^^^ 1 = n := by omega
    have h4 : n ^^^ (n ^^^ 1) = n ^^^ n := by rw [h3]
    rw [← Nat.xor_assoc, Nat.xor_self, Nat.zero_xor] at h4
    omega
theorem alg_lt (d : ByteArray) : K48.algN d < 256 := UInt8.toNat_lt _
theorem hshd_size (k : Int) (l : List UInt8) : (hshd k l).size = if k = 1 then 20 else 32 := by
  unfold hshd
  split
  · exact G.sha1_len l
  · exact G.sha2_len l

set_option maxRecDepth 100000 in
set_option maxHeartbeats 1000000 in
theorem fits_bad (ow d : ByteArray) (k E : Int) (ho : ow.size ≤ maxLen) (hd : d.size ≤ maxLen) (hE : E ≠ 0) (hdr : dsR k ow d = ((0, 0, 0, ⟨#[]⟩), E)) (W : World) (hG : G.Rk W) :
    Calls Tryz.prog 7 #[.string ow, .string d, .int .i64 k] W fun e w' => e = .returned (.bool true) ∧ Below W.heap.size W w' := by
  have HX := Hid.mk kexamples_in
  have HO := Hid.mk (fun W hG => of_in k ow d ho hd W hG)
  have HF := Hid.mk (fun W hG => fits_in 0 0 k ow d ⟨#[]⟩ ho hd W hG)
  rw [hdr] at HO HF
  rw [decide_eq_false (fun h => hE h.1)] at HF
  have hE2 : (E != 0) = true := by simpa using hE
  have G0 := Hid.mk hG
  clear hG hdr hE
  go_enter Tryz.func7, Tryz.ntmps7
  go_wp2_with fail
  refine (HX.out _ G0.out).mono ?_
  rintro e w1 ⟨rfl, hb1⟩
  have B1 := Hid.mk hb1
  clear hb1
  go_wp2_with fail
  refine (HO.out _ (G0.out.below B1.out)).mono ?_
  rintro e w2 ⟨rfl, hb2⟩
  have B2 := Hid.mk (bth B1.out hb2 B1.out.size)
  clear hb2
  go_wp2_with fail
  have hA := B2.out.alloc B2.out.size (.cells (dsV 0 0 0 ⟨#[]⟩) 23)
  refine (HF.out _ (G0.out.below hA)).mono ?_
  rintro e w3 ⟨rfl, hb3⟩
  have B3 := Hid.mk (bth hA hb3 hA.size)
  clear hA hb3
  go_wp2
  go_ret
  exact ⟨rfl, B3.out⟩

/-- four boxes, one behind the other. -/
structure F4 (V : World) (b : Nat) (t : TypeId) (c0 c1 c2 c3 : Array Value) : Prop where
  x0 : V.heap[b]? = some (.cells c0 t (0, 0))
  x1 : V.heap[b + 1]? = some (.cells c1 t (0, 0))
  x2 : V.heap[b + 1 + 1]? = some (.cells c2 t (0, 0))
  x3 : V.heap[b + 1 + 1 + 1]? = some (.cells c3 t (0, 0))
theorem F4.below {V V' : World} {b : Nat} {t : TypeId} {c0 c1 c2 c3 : Array Value} (h : F4 V b t c0 c1 c2 c3) (k : Below V.heap.size V V') : F4 V' b t c0 c1 c2 c3 :=
  ⟨(k.block _ (box_lt h.x0)).trans h.x0, (k.block _ (box_lt h.x1)).trans h.x1, (k.block _ (box_lt h.x2)).trans h.x2, (k.block _ (box_lt h.x3)).trans h.x3⟩
theorem F4.new (w : World) (t : TypeId) (c0 c1 c2 c3 : Array Value) : F4 ((((w.alloc (.cells c0 t)).alloc (.cells c1 t)).alloc (.cells c2 t)).alloc (.cells c3 t)) w.heap.size t c0 c1 c2 c3 := by
  have h1 : (w.alloc (.cells c0 t)).heap.size = w.heap.size + 1 := by simp
  have h2 : ((w.alloc (.cells c0 t)).alloc (.cells c1 t)).heap.size = w.heap.size + 1 + 1 := by simp
  have h3 : (((w.alloc (.cells c0 t)).alloc (.cells c1 t)).alloc (.cells c2 t)).heap.size = w.heap.size + 1 + 1 + 1 := by simp
  have e0 := heap_new w (.cells c0 t)
  have e1 := heap_new (w.alloc (.cells c0 t)) (.cells c1 t)
  have e2 := heap_new ((w.alloc (.cells c0 t)).alloc (.cells c1 t)) (.cells c2 t)
  have e3 := heap_new (((w.alloc (.cells c0 t)).alloc (.cells c1 t)).alloc (.cells c2 t)) (.cells c3 t)
  rw [h1] at e1
  rw [h2] at e2
  rw [h3] at e3
  refine ⟨?_, ?_, ?_, e3⟩
  · rw [alloc_old _ _ _ (by omega), alloc_old _ _ _ (by omega), alloc_old _ _ _ (by omega)]; exact e0
  · rw [alloc_old _ _ _ (by omega), alloc_old _ _ _ (by omega)]; exact e1
  · rw [alloc_old _ _ _ (by omega)]; exact e2
theorem ds4 {V : World} {b : Nat} {t a k : Int} {s : ByteArray} (h : V.heap[b]? = some (.cells (dsV t a k s) 23 (0, 0))) :
    V.cell? ⟨b, 0, none⟩ = some (.int .i64 t) ∧ V.cell? ⟨b, 1, none⟩ = some (.int .i64 a) ∧ V.cell? ⟨b, 2, none⟩ = some (.int .i64 k) ∧ V.cell? ⟨b, 3, none⟩ = some (.string s) :=
  ⟨(cells_at (j := 0) h rfl).1, (cells_at (j := 1) h rfl).1, (cells_at (j := 2) h rfl).1, (cells_at (j := 3) h rfl).1⟩

set_option maxRecDepth 100000 in
set_option maxHeartbeats 1000000 in
theorem fits_good (ow d S : ByteArray) (k : Int) (T A : Nat) (X Y : Int) (hT : T < 65536) (hX : bits BinOp.xor IntKind.i64 (T : Int) 1 = X) (hY : bits BinOp.xor IntKind.i64 (A : Int) 1 = Y) (hk : k = 1 ∨ k = 2)
    (HO : Hid (∀ W, G.Rk W → Calls Tryz.prog 14 #[.string ow, .string d, .int .i64 k] W fun e w' => e = .returned (.tuple #[.agg (dsV (T : Nat) (A : Nat) k S), .int .i64 0]) ∧ Below W.heap.size W w'))
    (H1 : Hid (∀ W, G.Rk W → Calls Tryz.prog 17 #[.string ow, .string d, .agg (dsV (T : Nat) (A : Nat) k S)] W fun e w' => e = .returned (.bool true) ∧ Below W.heap.size W w'))
    (H2 : Hid (∀ W, G.Rk W → Calls Tryz.prog 17 #[.string ow, .string d, .agg (dsV X (A : Nat) k S)] W fun e w' => e = .returned (.bool false) ∧ Below W.heap.size W w'))
    (H3 : Hid (∀ W, G.Rk W → Calls Tryz.prog 17 #[.string ow, .string d, .agg (dsV (T : Nat) Y k S)] W fun e w' => e = .returned (.bool false) ∧ Below W.heap.size W w'))
    (H4 : Hid (∀ W, G.Rk W → Calls Tryz.prog 17 #[.string ow, .string d, .agg (dsV (T : Nat) (A : Nat) (3 - k) S)] W fun e w' => e = .returned (.bool false) ∧ Below W.heap.size W w'))
    (W : World) (hG : G.Rk W) :
    Calls Tryz.prog 7 #[.string ow, .string d, .int .i64 k] W fun e w' => e = .returned (.bool true) ∧ Below W.heap.size W w' := by
  have HX := Hid.mk kexamples_in
  have hw3 : IntKind.i64.wrap (3 - k) = 3 - k := by rw [IntKind.wrap_i64]; omega
  have t1 : (0 : Int) ≤ (T : Int) := by omega
  have t2 : (T : Int) < 65536 := by omega
  have G0 := Hid.mk hG
  clear hG hk hT
  go_enter Tryz.func7, Tryz.ntmps7
  go_wp2_with fail
  refine (HX.out _ G0.out).mono ?_
  rintro e w1 ⟨rfl, hb1⟩
  have B1 := Hid.mk hb1
  clear hb1
  go_wp2_with fail
  refine (HO.out _ (G0.out.below B1.out)).mono ?_
  rintro e w2 ⟨rfl, hb2⟩
  have B2 := Hid.mk (bth B1.out hb2 B1.out.size)
  clear hb2
  go_wp2_with fail
  have hA := (((B2.out.alloc B2.out.size (.cells (dsV (T : Nat) (A : Nat) k S) 23)).alloc (Nat.le_trans B2.out.size (by simp)) (.cells (dsV X (A : Nat) k S) 23)).alloc (Nat.le_trans B2.out.size (by simp; omega)) (.cells (dsV (T : Nat) Y k S) 23)).alloc (Nat.le_trans B2.out.size (by simp; omega)) (.cells (dsV (T : Nat) (A : Nat) (3 - k) S) 23)
  have hF := F4.new w2 23 (dsV (T : Nat) (A : Nat) k S) (dsV X (A : Nat) k S) (dsV (T : Nat) Y k S) (dsV (T : Nat) (A : Nat) (3 - k) S)
  refine (H1.out _ (G0.out.below hA)).mono ?_
  rintro e w3 ⟨rfl, hb3⟩
  have B3 := Hid.mk (bth hA hb3 hA.size)
  have F3 := Hid.mk (hF.below hb3)
  obtain ⟨a0, a1, a2, a3⟩ := ds4 F3.out.x1
  clear hA hb3 hF
  go_wp2_with fail
  refine (H2.out _ (G0.out.below B3.out)).mono ?_
  rintro e w4 ⟨rfl, hb4⟩
  have B4 := Hid.mk (bth B3.out hb4 B3.out.size)
  have F4' := Hid.mk (F3.out.below hb4)
  clear hb4 a0 a1 a2 a3
  obtain ⟨a0, a1, a2, a3⟩ := ds4 F4'.out.x2
  go_wp2_with fail
  refine (H3.out _ (G0.out.below B4.out)).mono ?_
  rintro e w5 ⟨rfl, hb5⟩
  have B5 := Hid.mk (bth B4.out hb5 B4.out.size)
  have F5 := Hid.mk (F4'.out.below hb5)
  clear hb5 a0 a1 a2 a3
  obtain ⟨a0, a1, a2, a3⟩ := ds4 F5.out.x3
  go_wp2_with fail
  refine (H4.out _ (G0.out.below B5.out)).mono ?_
  rintro e w6 ⟨rfl, hb6⟩
  have B6 := Hid.mk (bth B5.out hb6 B5.out.size)
  have F6 := Hid.mk (F5.out.below hb6)
  clear hb6 a0 a1 a2 a3
  obtain ⟨a0, a1, a2, a3⟩ := ds4 F6.out.x0
  go_wp2
  go_ret
  exact ⟨rfl, B6.out⟩
theorem keysfits_walk (ow : ByteArray) (ho : ow.size ≤ 140737488355328) (d : ByteArray) (hd : d.size ≤ 140737488355328) (k : Int) (hk : (Lit.int .i64 k).wf = true) (W : World) (hG : G.Rk W) :
    Calls Tryz.prog 7 #[.string ow, .string d, .int .i64 k] W fun e w' => e = .returned (.bool true) ∧ Below W.heap.size W w' := by
  have ho' : ow.size ≤ maxLen := by unfold maxLen; omega
  have hd' : d.size ≤ maxLen := by unfold maxLen; omega
  by_cases hE : (digR k ow d).2 = 0
  · obtain ⟨hk1, hn, h5, h2⟩ := digR_right hE
    obtain ⟨X, hX, hXn⟩ := kxor (tagN d.data.toList) (tagN_lt _)
    obtain ⟨Y, hY, hYn⟩ := kxor (K48.algN d) (by have := alg_lt d; omega)
    have e1 : dsR k ow d = ((((tagN d.data.toList : Nat) : Int), ((K48.algN d : Nat) : Int), k, (digR k ow d).1), 0) := by unfold dsR; rw [if_pos hE]
    have hdk : ∀ q : Int, (q = 1 ∨ q = 2) → digR q ow d = (hshd q (ow.data.toList.map lowB ++ d.data.toList), 0) := fun q hq => by
      unfold digR
      rw [if_neg (not_not_intro hq), if_neg (not_not_intro hn), if_neg (not_not_intro ⟨h5, h2⟩)]
    have e2 : (dsR (3 - k) ow d).1.2.2.2 ≠ (digR k ow d).1 := by
      unfold dsR
      rw [hdk (3 - k) (by omega), hdk k hk1]
      intro hc
      have := congrArg ByteArray.size hc
      simp only [if_true, hshd_size] at this
      rcases hk1 with rfl | rfl <;> simp at this
    refine fits_good ow d (digR k ow d).1 k (tagN d.data.toList) (K48.algN d) X Y (tagN_lt _) hX hY hk1 (Hid.mk fun W hG => ?_) (Hid.mk fun W hG => ?_) (Hid.mk fun W hG => ?_) (Hid.mk fun W hG => ?_) (Hid.mk fun W hG => ?_) W hG
    · have := of_in k ow d ho' hd' W hG
      rwa [e1] at this
    · have := fits_in ((tagN d.data.toList : Nat) : Int) ((K48.algN d : Nat) : Int) k ow d (digR k ow d).1 ho' hd' W hG
      rw [e1] at this
      rwa [decide_eq_true (by exact ⟨rfl, rfl, rfl, rfl, rfl⟩)] at this
    · have := fits_in X ((K48.algN d : Nat) : Int) k ow d (digR k ow d).1 ho' hd' W hG
      rw [e1] at this
      rwa [decide_eq_false (fun h => hXn h.2.1.symm)] at this
    · have := fits_in ((tagN d.data.toList : Nat) : Int) Y k ow d (digR k ow d).1 ho' hd' W hG
      rw [e1] at this
      rwa [decide_eq_false (fun h => hYn h.2.2.1.symm)] at this
    · have := fits_in ((tagN d.data.toList : Nat) : Int) ((K48.algN d : Nat) : Int) (3 - k) ow d (digR k ow d).1 ho' hd' W hG
      rwa [decide_eq_false (fun h => e2 h.2.2.2.2)] at this
  · exact fits_bad ow d k _ ho' hd' hE (by unfold dsR; rw [if_neg hE]) W hG
end Go.Proofs.YtlcjagkfeakinaaGreatDoor
