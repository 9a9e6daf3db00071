/- Texts of this proof, joined: LgE, LeO. -/
import Derived.Test.YtdlcldjlfhmlgaaGreatDoorJ37
import Derived.Test.YtdlcldjlfhmlgaaGreatDoorJ24
import Derived.Deep.RegionHeld3
import Derived.Test.YtdlcldjlfhmlgaaGreatDoorJ30
set_option linter.unusedVariables false
set_option linter.unusedSimpArgs false
/- Layer 14: the examples, by Answer of LgC (a claim is then smaller). -/
namespace Go.Proofs.YtdlcldjlfhmlgaaGreatDoor.D
open Go.RowKit
open So (El elC SRow)
theorem SetsAt.weak {N : Nat} {w : World} {v : Value} {ss : List St} (h : SetsAt N w v ss) : Go.Proofs.YtdlcldjlfhmlgaaGreatDoor.SetsAt N w v ss := by
 obtain ⟨els, hr, hf, _⟩ := h
 exact ⟨els, hr, hf⟩
theorem setsAt_len {N : Nat} {w : World} {v : Value} {ss : List St} (h : SetsAt N w v ss) : ∃ q cap, v = .slice q ss.length cap := Go.Proofs.YtdlcldjlfhmlgaaGreatDoor.setsAt_len h.weak
theorem name_of {N : Nat} {w : World} {v : Value} {s : St} (h : SetsAt N w v [s]) : ∃ g cap, v = .slice (some ⟨g, 0, none⟩) 1 cap ∧ w.cell? ⟨g, 0, none⟩ = some (.string (nm s.ls)) := Go.Proofs.YtdlcldjlfhmlgaaGreatDoor.name_of h.weak
theorem ask_ex {N : Nat} {w : World} {X M : Nat} {L : List (Nat × Lc)} (h : Locs N w X M L) (hL : L.map Prod.snd = exL) {n : N3} (hn : OkN n) : Calls Tryz.prog 14 #[ptA X 0, .string (nm n), .int .i64 1] w fun e w' => AnP w (ansR exL (nm n) 1) e w' := by
 have hz : ∀ p ∈ L, ZOk p.2 := fun p hp => by
  have hm : p.2 ∈ exL := by rw [← hL]; exact List.mem_map_of_mem hp
  exact ⟨(ex_in _ hm).2.1, okL_ex.1 _ hm⟩
 have := answer_in N w X M L h hz (nm n) (nm_le hn) 1
 rw [ansP_eq, hL] at this
 exact this
set_option maxRecDepth 100000 in
set_option maxHeartbeats 4000000 in
theorem examples14_in (W : World) : Calls Tryz.prog 8 #[] W fun e w' => e = .returned (.bool true) ∧ Below W.heap.size W w' := by
 have HA := Hid.mk la_in
 obtain ⟨D, hD⟩ : ∃ D, exD = D := ⟨_, rfl⟩
 have HD := Hid.mk hD
 rw [hD] at HA
 clear hD
 go_enter Tryz.func8, Tryz.ntmps8
 go_wp2_with fail
 refine (HA.out _ _).mono ?_
 rintro e w1 ⟨rfl, hb1⟩
 go_wp2_with fail
 refine (HA.out _ _).mono ?_
 rintro e w2 ⟨rfl, hb2⟩
 go_wp2_with fail
 obtain ⟨R1, hR1⟩ : ∃ R1, w1.alloc (.cells #[.string ((⟨#[1, 97, 1, 98]⟩ : ByteArray) ++ ⟨#[1, 115, 0]⟩), .int .i64 1, .int .i64 1, .int .i64 5, .string D] 33) = R1 := ⟨_, rfl⟩
 rw [hR1] at hb2
 obtain ⟨R2, hR2⟩ : ∃ R2, w2.alloc (.cells #[.string ⟨#[1, 114, 0]⟩, .int .i64 1, .int .i64 1, .int .i64 5, .string D] 33) = R2 := ⟨_, rfl⟩
 obtain ⟨R3, hR3⟩ : ∃ R3, R2.alloc (.cells #[.string ⟨#[1, 115, 0]⟩, .int .i64 3, .slice (some ⟨w1.heap.size, 0, none⟩) 1 1, .string ⟨#[1, 114, 0]⟩, .int .i64 5, .slice (some ⟨w2.heap.size, 0, none⟩) 1 1, .string ((⟨#[2, 110, 111]⟩ : ByteArray) ++ ⟨#[1, 115, 0]⟩), .int .i64 2, .slice none 0 0] 26) = R3 := ⟨_, rfl⟩
 have d1 : Below w1.heap.size w1 R1 := hR1 ▸ (Below.refl _ _).alloc (Nat.le_refl _) _
 have d2 : Below w2.heap.size w2 R2 := hR2 ▸ (Below.refl _ _).alloc (Nat.le_refl _) _
 have d3 : Below R2.heap.size R2 R3 := hR3 ▸ (Below.refl _ _).alloc (Nat.le_refl _) _
 have s2 : R2.heap.size = w2.heap.size + 1 := by rw [← hR2]; simp
 have x1 : R1.heap[w1.heap.size]? = some (.cells #[.string (nm n1), .int .i64 1, .int .i64 1, .int .i64 5, .string exD] 33 (0, 0)) := by rw [HD.out, ← e_1]; exact hR1 ▸ heap_alloc_new w1 _
 have x2 : R2.heap[w2.heap.size]? = some (.cells #[.string (nm nr), .int .i64 1, .int .i64 1, .int .i64 5, .string exD] 33 (0, 0)) := by rw [HD.out, ← e_r]; exact hR2 ▸ heap_alloc_new w2 _
 have x3 : R3.heap[w2.heap.size + 1]? = some (.cells #[.string (nm ns), .int .i64 3, .slice (some ⟨w1.heap.size, 0, none⟩) 1 1, .string (nm nr), .int .i64 5, .slice (some ⟨w2.heap.size, 0, none⟩) 1 1, .string (nm no), .int .i64 2, .slice none 0 0] 26 (0, 0)) := by rw [← e_s, ← e_r, ← e_o, ← s2]; exact hR3 ▸ heap_alloc_new R2 _
 have y1 := (d3.block _ (Array.getElem?_eq_some_iff.1 ((d2.block _ (Array.getElem?_eq_some_iff.1 ((hb2.block _ (Array.getElem?_eq_some_iff.1 x1).1).trans x1)).1).trans ((hb2.block _ (Array.getElem?_eq_some_iff.1 x1).1).trans x1))).1).trans ((d2.block _ (Array.getElem?_eq_some_iff.1 ((hb2.block _ (Array.getElem?_eq_some_iff.1 x1).1).trans x1)).1).trans ((hb2.block _ (Array.getElem?_eq_some_iff.1 x1).1).trans x1))
 have y2 := (d3.block _ (Array.getElem?_eq_some_iff.1 x2).1).trans x2
 have HNew := Hid.mk (new14_in R3 (some ⟨w2.heap.size + 1, 0, none⟩) 3 exL (ex_at y1 y2 x3) ex_in (by decide))
 have bR3 : Below W.heap.size W R3 := by
  have a1 := hb1
  have a2 := a1.trans (d1.mono a1.size)
  have a3 := a2.trans (hb2.mono a2.size)
  have a4 := a3.trans (d2.mono a3.size)
  exact a4.trans (d3.mono a4.size)
 have HBR := Hid.mk bR3
 rw [hR2, hR3]
 clear d1 d2 d3 s2 x1 x2 x3 y1 y2 hb1 hb2 hR1 hR2 hR3 bR3
 refine HNew.out.mono ?_
 rintro e w4 ⟨h4, hb4⟩
 rcases h4 with ⟨_, X, M, rfl, L, hLm, hL4⟩ | ⟨hno, _⟩
 case inr => exact absurd okL_ex hno
 have HLm := Hid.mk hLm
 have HL4 := Hid.mk hL4
 have HB4 := Hid.mk (HBR.out.trans (hb4.mono HBR.out.size))
 obtain ⟨R5, hR5⟩ : ∃ R5, w4.alloc (.cells #[.string ⟨#[]⟩, .int .i64 0, .slice none 0 0] 26) = R5 := ⟨_, rfl⟩
 have d5 : Below w4.heap.size w4 R5 := hR5 ▸ (Below.refl _ _).alloc (Nat.le_refl _) _
 have x5 : R5.heap[w4.heap.size]? = some (.cells #[.string ⟨#[]⟩, .int .i64 0, .slice none 0 0] 26 (0, 0)) := hR5 ▸ heap_alloc_new w4 _
 have HNw5 := Hid.mk (new14_in R5 (some ⟨w4.heap.size, 0, none⟩) 1 emL (em_at x5) em_in (by decide))
 have HL5 := Hid.mk (hL4.blk d5)
 have HB5 := Hid.mk (HB4.out.trans (d5.mono HB4.out.size))
 have HR5 := Hid.mk hR5
 clear hR5 x5 d5 hL4 hLm hb4 HNew HBR HB4
 go_wp2_with fail
 rw [HR5.out]
 refine HNw5.out.mono ?_
 rintro e w6 ⟨h6, hb6⟩
 rcases h6 with ⟨hok, _⟩ | ⟨_, rfl⟩
 case inl => exact absurd hok not_empty
 have HL6 := Hid.mk (HL5.out.blk hb6)
 have HB6 := Hid.mk (HB5.out.trans (hb6.mono HB5.out.size))
 clear hb6 HL5 HB5 HNw5 HR5
 have HQ6 : Hid (Calls Tryz.prog 14 #[ptA X 0, .string (nm n1), .int .i64 1] w6 fun e w' => AnP w6 (ansR exL (nm n1) 1) e w') := ask_ex HL6.out HLm.out ok_1
 rw [ex_b, ← e_1] at HQ6
 go_wp2_with fail
 refine HQ6.out.mono ?_
 rintro e w7 ⟨v7, rfl, hs7, hb7⟩
 have HL7 := Hid.mk (HL6.out.blk hb7)
 have HB7 := Hid.mk (HB6.out.trans (hb7.mono HB6.out.size))
 obtain ⟨gl, cl, hv7, _⟩ := name_of hs7
 subst hv7
 clear hs7 hb7 HL6 HB6 HQ6
 have HQ7 : Hid (Calls Tryz.prog 14 #[ptA X 0, .string (nm [[98], [115]]), .int .i64 1] w7 fun e w' => AnP w7 (ansR exL (nm [[98], [115]]) 1) e w') := ask_ex HL7.out HLm.out ok_c
 rw [ex_c, ← e_c] at HQ7
 go_wp2_with fail
 refine HQ7.out.mono ?_
 rintro e w8 ⟨v8, rfl, hs8, hb8⟩
 have HL8 := Hid.mk (HL7.out.blk hb8)
 have HB8 := Hid.mk (HB7.out.trans (hb8.mono HB7.out.size))
 obtain ⟨q8, c8, hv8⟩ := setsAt_len hs8
 subst hv8
 clear hs8 hb8 HL7 HB7 HQ7
 have HQ8 : Hid (Calls Tryz.prog 14 #[ptA X 0, .string (nm [[99], [115]]), .int .i64 1] w8 fun e w' => AnP w8 (ansR exL (nm [[99], [115]]) 1) e w') := ask_ex HL8.out HLm.out ok_d
 rw [ex_d, ← e_d] at HQ8
 go_wp2_with fail
 refine HQ8.out.mono ?_
 rintro e w9 ⟨v9, rfl, hs9, hb9⟩
 have HL9 := Hid.mk (HL8.out.blk hb9)
 have HB9 := Hid.mk (HB8.out.trans (hb9.mono HB8.out.size))
 obtain ⟨q9, c9, hv9⟩ := setsAt_len hs9
 subst hv9
 clear hs9 hb9 HL8 HB8 HQ8
 have HQ9 : Hid (Calls Tryz.prog 14 #[ptA X 0, .string (nm [[113], [114]]), .int .i64 1] w9 fun e w' => AnP w9 (ansR exL (nm [[113], [114]]) 1) e w') := ask_ex HL9.out HLm.out ok_g
 rw [ex_g, ← e_g] at HQ9
 go_wp2_with fail
 refine HQ9.out.mono ?_
 rintro e w10 ⟨v10, rfl, hs10, hb10⟩
 have HL10 := Hid.mk (HL9.out.blk hb10)
 have HB10 := Hid.mk (HB9.out.trans (hb10.mono HB9.out.size))
 obtain ⟨gm, cm, hv10, _⟩ := name_of hs10
 subst hv10
 have HSm := Hid.mk (fun w (hb : Below w10.heap.size w10 w) => (name_of (hs10.blk hb)))
 have HZ10 := Hid.mk (Below.refl w10.heap.size w10)
 clear hs10 hb10 HL9 HB9 HQ9
 have HQ10 : Hid (Calls Tryz.prog 14 #[ptA X 0, .string (nm [[120], [110, 111], [115]]), .int .i64 1] w10 fun e w' => AnP w10 (ansR exL (nm [[120], [110, 111], [115]]) 1) e w') := ask_ex HL10.out HLm.out ok_h
 rw [ex_h, ← e_h] at HQ10
 go_wp2_with fail
 refine HQ10.out.mono ?_
 rintro e w11 ⟨v11, rfl, hs11, hb11⟩
 have HL11 := Hid.mk (HL10.out.blk hb11)
 have HB11 := Hid.mk (HB10.out.trans (hb11.mono HB10.out.size))
 obtain ⟨q11, c11, hv11⟩ := setsAt_len hs11
 subst hv11
 have HZ11 := Hid.mk (HZ10.out.trans (hb11.mono HZ10.out.size))
 clear hs11 hb11 HL10 HB10 HQ10
 have HQ11 : Hid (Calls Tryz.prog 14 #[ptA X 0, .string (nm []), .int .i64 1] w11 fun e w' => AnP w11 (ansR exL (nm []) 1) e w') := ask_ex HL11.out HLm.out ok_i
 rw [ex_i, ← e_i] at HQ11
 go_wp2_with fail
 refine HQ11.out.mono ?_
 rintro e w12 ⟨v12, rfl, hs12, hb12⟩
 have HL12 := Hid.mk (HL11.out.blk hb12)
 have HB12 := Hid.mk (HB11.out.trans (hb12.mono HB11.out.size))
 obtain ⟨q12, c12, hv12⟩ := setsAt_len hs12
 subst hv12
 have HZ12 := Hid.mk (HZ11.out.trans (hb12.mono HZ11.out.size))
 clear hs12 hb12 HL11 HB11 HQ11
 obtain ⟨g2, c2, hg2, cn⟩ := HSm.out _ HZ12.out
 cases hg2
 have hbb := HB12.out
 rw [← e_g] at cn
 clear HL12 HB12 HZ12 HZ11 HZ10 HSm HLm HA HD
 go_wp2
 go_ret
 exact ⟨rfl, hbb⟩
end Go.Proofs.YtdlcldjlfhmlgaaGreatDoor.D
/- The document's Alike (guidepostref08), of two sets that hold the same and have no signatures. -/
namespace Go.Proofs.YtdlcldjlfhmlgaaGreatDoor
open Go.RowKit
set_option maxRecDepth 100000 in
set_option maxHeartbeats 8000000 in
theorem ralike_in (nb : ByteArray) (ty cl tl : Int) (ds : List ByteArray) (qa qb qg qh : Option Addr) (ca cb cg ch : Nat) (hdm : ds.length ≤ 1000) (W : World) (ha : TxAt W qa ds) (hb : TxAt W qb ds) (dl : Nat) (hdl : ds.length = dl) :
  Calls Tryz.prog 15 #[.agg #[.string nb, .int .i64 ty, .int .i64 cl, .int .i64 tl, .slice qa dl ca, .slice qg 0 cg], .agg #[.string nb, .int .i64 ty, .int .i64 cl, .int .i64 tl, .slice qb dl cb, .slice qh 0 ch]] W fun e w' => e = .returned (.bool true) ∧ Below W.heap.size W w' := by
 obtain ⟨V, hV⟩ : ∃ V, (W.alloc (.cells #[.string nb, .int .i64 ty, .int .i64 cl, .int .i64 tl, .slice qa dl ca, .slice qg 0 cg] 44)).alloc (.cells #[.string nb, .int .i64 ty, .int .i64 cl, .int .i64 tl, .slice qb dl cb, .slice qh 0 ch] 44) = V := ⟨_, rfl⟩
 obtain ⟨B, hB⟩ : ∃ B, W.heap.size = B := ⟨_, rfl⟩
 have hw1 : Below W.heap.size W (W.alloc (.cells #[.string nb, .int .i64 ty, .int .i64 cl, .int .i64 tl, .slice qa dl ca, .slice qg 0 cg] 44)) := (Below.refl _ _).alloc (Nat.le_refl _) _
 have BW : Hid (Below W.heap.size W V) := hV ▸ hw1.alloc (by simp) _
 have HX : Hid (∀ w' : World, Below V.heap.size V w' → (w'.cell? ⟨B, 0, none⟩ = some (.string nb) ∧ w'.cell? ⟨B, 1, none⟩ = some (.int .i64 ty) ∧ w'.cell? ⟨B, 2, none⟩ = some (.int .i64 cl) ∧ w'.cell? ⟨B, 3, none⟩ = some (.int .i64 tl) ∧ w'.cell? ⟨B, 4, none⟩ = some (.slice qa dl ca) ∧ w'.cell? ⟨B, 5, none⟩ = some (.slice qg 0 cg)) ∧ (w'.cell? ⟨(B + 1), 0, none⟩ = some (.string nb) ∧ w'.cell? ⟨(B + 1), 1, none⟩ = some (.int .i64 ty) ∧ w'.cell? ⟨(B + 1), 2, none⟩ = some (.int .i64 cl) ∧ w'.cell? ⟨(B + 1), 3, none⟩ = some (.int .i64 tl) ∧ w'.cell? ⟨(B + 1), 4, none⟩ = some (.slice qb dl cb) ∧ w'.cell? ⟨(B + 1), 5, none⟩ = some (.slice qh 0 ch))) := fun w' k => by
  have h0 : (W.alloc (.cells #[.string nb, .int .i64 ty, .int .i64 cl, .int .i64 tl, .slice qa dl ca, .slice qg 0 cg] 44)).heap[B]? = some (.cells #[.string nb, .int .i64 ty, .int .i64 cl, .int .i64 tl, .slice qa dl ca, .slice qg 0 cg] 44 (0, 0)) := by rw [← hB]; exact heap_new _ _
  have hsz : (W.alloc (.cells #[.string nb, .int .i64 ty, .int .i64 cl, .int .i64 tl, .slice qa dl ca, .slice qg 0 cg] 44)).heap.size = B + 1 := by rw [← hB]; simp
  have h00 : V.heap[B]? = some (.cells #[.string nb, .int .i64 ty, .int .i64 cl, .int .i64 tl, .slice qa dl ca, .slice qg 0 cg] 44 (0, 0)) := by
   rw [← hV]
   exact (((Below.refl _ _).alloc (Nat.le_refl _) _).block _ (box_lt h0)).trans h0
  have h01 : V.heap[B + 1]? = some (.cells #[.string nb, .int .i64 ty, .int .i64 cl, .int .i64 tl, .slice qb dl cb, .slice qh 0 ch] 44 (0, 0)) := by rw [← hV, ← hsz]; exact heap_new _ _
  have g0 := (k.block _ (box_lt h00)).trans h00
  have g1 := (k.block _ (box_lt h01)).trans h01
  exact ⟨⟨(cells_at g0 rfl).1, (cells_at g0 rfl).1, (cells_at g0 rfl).1, (cells_at g0 rfl).1, (cells_at g0 rfl).1, (cells_at g0 rfl).1⟩, (cells_at g1 rfl).1, (cells_at g1 rfl).1, (cells_at g1 rfl).1, (cells_at g1 rfl).1, (cells_at g1 rfl).1, (cells_at g1 rfl).1⟩
 have HT : Hid (∀ k, k < dl → ∃ ba oa bb ob, qa = some ⟨ba, oa, none⟩ ∧ qb = some ⟨bb, ob, none⟩ ∧ ∃ d : ByteArray, Hid (∀ w' : World, Below V.heap.size V w' → w'.cell? ⟨ba, oa + k, none⟩ = some (.string d) ∧ w'.cell? ⟨bb, ob + k, none⟩ = some (.string d))) := fun k hk => by
  obtain ⟨ba, oa, ea, la, ca'⟩ := ha k (by omega)
  obtain ⟨bb, ob, eb, lb', cb'⟩ := hb k (by omega)
  refine ⟨ba, oa, bb, ob, ea, eb, ds[k]'(by omega), fun w' k' => ?_⟩
  have hbw : Below W.heap.size W w' := BW.out.trans (k'.mono BW.out.size)
  exact ⟨(hbw.cell (p := ⟨ba, oa + k, none⟩) la).trans ca', (hbw.cell (p := ⟨bb, ob + k, none⟩) lb').trans cb'⟩
 have HV := Hid.mk hV
 have HB := Hid.mk hB
 have n0 : (nb.toList != nb.toList) = false := by simp
 have n1 : (ty != ty) = false := by simp
 have n2 : (cl != cl) = false := by simp
 have n3 : (tl != tl) = false := by simp
 have n4 : ((dl : Int) != (dl : Int)) = false := by simp
 have hdl2 : dl ≤ 1000 := by omega
 clear hV hB hw1 ha hb hdl hdm
 have c0 := HX.out _ (Below.refl _ _)
 go_enter Tryz.func15, Tryz.ntmps15
 go_upto_region 1 with fail
 rw [HV.out]
 rw [HB.out] at BW ⊢
 go_wp2
 clear c0
 go_loopw [5] (fun kv wr => ∃ (k : Nat) (u : World), u = wr ∧ k ≤ dl ∧ kv = .int .i64 (k : Int) ∧ Hid (Below V.heap.size V u)) (fun kv _ => dl - (intOf kv).toNat)
 case atStart => exact ⟨0, _, rfl, Nat.zero_le _, rfl, Below.refl _ _⟩
 case round =>
  obtain ⟨k, u, rfl, hk, rfl, HU⟩ := hrel
  by_cases hkl : k < dl
  ·have hkz : (k : Int) < (dl : Int) := by omega
   have hkz0 : (0 : Int) ≤ (k : Int) := by omega
   have wk : IntKind.i64.wrap ((k : Int) + 1) = ((k + 1 : Nat) : Int) := by rw [IntKind.wrap_i64]; omega
   obtain ⟨ba, oa, bb, ob, rfl, rfl, d, HD⟩ := HT.out k hkl
   have HXS : Hid (∀ w', Below V.heap.size V w' → (fun w' : World => ((w'.cell? ⟨B, 0, none⟩ = some (.string nb) ∧ w'.cell? ⟨B, 1, none⟩ = some (.int .i64 ty) ∧ w'.cell? ⟨B, 2, none⟩ = some (.int .i64 cl) ∧ w'.cell? ⟨B, 3, none⟩ = some (.int .i64 tl) ∧ w'.cell? ⟨B, 4, none⟩ = some (.slice (some ⟨ba, oa, none⟩) dl ca) ∧ w'.cell? ⟨B, 5, none⟩ = some (.slice qg 0 cg)) ∧ (w'.cell? ⟨(B + 1), 0, none⟩ = some (.string nb) ∧ w'.cell? ⟨(B + 1), 1, none⟩ = some (.int .i64 ty) ∧ w'.cell? ⟨(B + 1), 2, none⟩ = some (.int .i64 cl) ∧ w'.cell? ⟨(B + 1), 3, none⟩ = some (.int .i64 tl) ∧ w'.cell? ⟨(B + 1), 4, none⟩ = some (.slice (some ⟨bb, ob, none⟩) dl cb) ∧ w'.cell? ⟨(B + 1), 5, none⟩ = some (.slice qh 0 ch))) ∧ w'.cell? ⟨ba, oa + k, none⟩ = some (.string d) ∧ w'.cell? ⟨bb, ob + k, none⟩ = some (.string d)) w') := fun w' hb => ⟨HX.out w' hb, HD.out w' hb⟩
   have nd : (d.toList != d.toList) = false := by simp
   have c1 := HX.out _ HU.out
   have h0d := HU.out.drew
   go_upto_region 6 with fail
   refine wp_region_held_drew (S := (fun w' : World => ((w'.cell? ⟨B, 0, none⟩ = some (.string nb) ∧ w'.cell? ⟨B, 1, none⟩ = some (.int .i64 ty) ∧ w'.cell? ⟨B, 2, none⟩ = some (.int .i64 cl) ∧ w'.cell? ⟨B, 3, none⟩ = some (.int .i64 tl) ∧ w'.cell? ⟨B, 4, none⟩ = some (.slice (some ⟨ba, oa, none⟩) dl ca) ∧ w'.cell? ⟨B, 5, none⟩ = some (.slice qg 0 cg)) ∧ (w'.cell? ⟨(B + 1), 0, none⟩ = some (.string nb) ∧ w'.cell? ⟨(B + 1), 1, none⟩ = some (.int .i64 ty) ∧ w'.cell? ⟨(B + 1), 2, none⟩ = some (.int .i64 cl) ∧ w'.cell? ⟨(B + 1), 3, none⟩ = some (.int .i64 tl) ∧ w'.cell? ⟨(B + 1), 4, none⟩ = some (.slice (some ⟨bb, ob, none⟩) dl cb) ∧ w'.cell? ⟨(B + 1), 5, none⟩ = some (.slice qh 0 ch))) ∧ w'.cell? ⟨ba, oa + k, none⟩ = some (.string d) ∧ w'.cell? ⟨bb, ob + k, none⟩ = some (.string d))) (by kernel_rfl) (HXS.out _ h0d) (fun hHeld => ?_)
   refine wU (i := 0) (v := ?va_0) rfl ?ya_0 (by assumption) ?_
   case ya_0 => (intro w hSw; (try dsimp only at hSw); go_simp; try with_reducible rfl)
   refine wU (i := 1) (v := ?va_1) rfl ?ya_1 (by assumption) ?_
   case ya_1 => (intro w hSw; (try dsimp only at hSw); go_simp; try with_reducible rfl)
   refine wU (i := 2) (v := ?va_2) rfl ?ya_2 (by assumption) ?_
   case ya_2 => (intro w hSw; (try dsimp only at hSw); go_simp; try with_reducible rfl)
   refine wU (i := 3) (v := ?va_3) rfl ?ya_3 (by assumption) ?_
   case ya_3 => (intro w hSw; (try dsimp only at hSw); go_simp; try with_reducible rfl)
   refine wU (i := 4) (v := ?va_4) rfl ?ya_4 (by assumption) ?_
   case ya_4 => (intro w hSw; (try dsimp only at hSw); go_simp; try with_reducible rfl)
   refine wU (i := 5) (v := ?va_5) rfl ?ya_5 (by assumption) ?_
   case ya_5 => (intro w hSw; (try dsimp only at hSw); go_simp; try with_reducible rfl)
   refine wU (i := 6) (v := ?va_6) rfl ?ya_6 (by assumption) ?_
   case ya_6 => (intro w hSw; (try dsimp only at hSw); go_simp; try with_reducible rfl)
   refine wU (i := 7) (v := ?va_7) rfl ?ya_7 (by assumption) ?_
   case ya_7 => (intro w hSw; (try dsimp only at hSw); go_simp; try with_reducible rfl)
   refine wU (i := 8) (v := ?va_8) rfl ?ya_8 (by assumption) ?_
   case ya_8 => (intro w hSw; (try dsimp only at hSw); go_simp; try with_reducible rfl)
   refine wU (i := 9) (v := ?va_9) rfl ?ya_9 (by assumption) ?_
   case ya_9 => (intro w hSw; (try dsimp only at hSw); go_simp; try with_reducible rfl)
   refine wU (i := 10) (v := ?va_10) rfl ?ya_10 (by assumption) ?_
   case ya_10 => (intro w hSw; (try dsimp only at hSw); go_simp; try with_reducible rfl)
   try simp only [Act.put, List.getElem_toArray, List.getElem_cons_succ, List.getElem_cons_zero, List.setIfInBounds_toArray, List.set_cons_zero, List.set_cons_succ]
   refine wpAnyH_done (by kernel_rfl) ?_ _
   clear hHeld c1
   go_wp2
   go_roundw
   case rel => exact ⟨k + 1, _, rfl, by omega, by first | rfl | go_num, h0d⟩
   case measure => simp [intOf]; omega
  ·have hkz : ¬ (k : Int) < (dl : Int) := by omega
   have c1 := HX.out _ HU.out
   go_wp2
   clear c1
   go_loopw [6] (fun kv wr => kv = .int .i64 0 ∧ ∃ u : World, u = wr ∧ Hid (Below V.heap.size V u)) (fun _ _ => 0)
   case atStart => exact ⟨rfl, _, rfl, HU⟩
   case round =>
    obtain ⟨rfl, u2, rfl, HU2⟩ := hrel
    have c2 := HX.out _ HU2.out
    have HF : Hid (Below B W u2) := by
     have h1 := BW.out
     exact h1.trans (HU2.out.mono (by rw [← HB.out]; exact h1.size))
    go_wp2
    go_ret
    exact ⟨rfl, by rw [HB.out]; exact HF.out⟩
end Go.Proofs.YtdlcldjlfhmlgaaGreatDoor
