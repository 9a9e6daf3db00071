/- Texts of this proof, joined: AhDh, AhDo, AhRr, LfL, LfP, LfS. -/
import Derived.Test.YtdlcldjlfhmlgaaGreatDoorJ31
import Derived.Test.YtdlcldjlfhmlgaaGreatDoorJ23
import Derived.Test.YtdlcldjlfhmlgaaGreatDoorJ26
import Derived.Test.YtdlcldjlfhmlgaaGreatDoorJ25
import Derived.Test.YtdlcldjlfhmlgaaGreatDoorJ24
set_option linter.unusedVariables false
set_option linter.unusedSimpArgs false
/- Layer 13: the document's RightPrefix, Holds. -/
namespace Go.Proofs.YtdlcldjlfhmlgaaGreatDoor.A
open Go.RowKit
end Go.Proofs.YtdlcldjlfhmlgaaGreatDoor.A
/- Layer 13: the document's Holds. -/
namespace Go.Proofs.YtdlcldjlfhmlgaaGreatDoor.A
open Go.RowKit
end Go.Proofs.YtdlcldjlfhmlgaaGreatDoor.A
/- Layer 13: the document's RightRules. -/
namespace Go.Proofs.YtdlcldjlfhmlgaaGreatDoor.A
open Go.RowKit
attribute [local go_sem ↓] bin_ad bin_pf
attribute [local go_sem] adEqV_run pfEqV_run
def RlC (w : World) (g o : Nat) (r : Rl) : Prop := w.cell? ⟨g, o, none⟩ = some (.bool r.p.v6) ∧ w.cell? ⟨g, o + 1, none⟩ = some (.int .u64 (r.p.hi : Int)) ∧ w.cell? ⟨g, o + 2, none⟩ = some (.int .u64 (r.p.lo : Int)) ∧ w.cell? ⟨g, o + 3, none⟩ = some (.int .i64 r.n) ∧ w.cell? ⟨g, o + 4, none⟩ = some (.int .i64 r.act)
theorem RlsAt.at {w : World} {g off : Nat} {rs : List Rl} (h : RlsAt w (some ⟨g, off, none⟩) rs) (k : Nat) (hk : k < rs.length) : RlC w g (off + k * 5) rs[k] := by
 obtain ⟨g', off', e, hg', c⟩ := h k hk
 cases e
 exact c
end Go.Proofs.YtdlcldjlfhmlgaaGreatDoor.A
/- Layer 15: the document's Check (guidepostref15). -/
namespace Go.Proofs.YtdlcldjlfhmlgaaGreatDoor
open Go.RowKit
end Go.Proofs.YtdlcldjlfhmlgaaGreatDoor
/- Layer 15: ConfigChecks' walk. -/
namespace Go.Proofs.YtdlcldjlfhmlgaaGreatDoor
open Go.RowKit
def CBx (w : World) (N : Nat) (k : Cq) (c : Cf) : Prop := w.cell? ⟨N, 0, none⟩ = some (.slice k.q0 c.rt.length k.c0) ∧ w.cell? ⟨N, 1, none⟩ = some (.slice k.q1 c.ru.length k.c1) ∧ w.cell? ⟨N, 2, none⟩ = some (.slice k.q2 c.lc.length k.c2) ∧ w.cell? ⟨N, 3, none⟩ = some (.slice k.q3 c.up.length k.c3) ∧ w.cell? ⟨N, 4, none⟩ = some (.slice k.q4 c.an.length k.c4) ∧ w.cell? ⟨N, 5, none⟩ = some (.int .i64 c.n0) ∧ w.cell? ⟨N, 6, none⟩ = some (.int .i64 c.n1) ∧ w.cell? ⟨N, 7, none⟩ = some (.int .i64 c.n2) ∧ w.cell? ⟨N, 8, none⟩ = some (.int .i64 c.n3)
theorem cbx_of {w : World} {N : Nat} {k : Cq} {c : Cf} (h : w.heap[N]? = some (.cells (cfC k c) 51 (0, 0))) : CBx w N k c := by
 refine ⟨?_, ?_, ?_, ?_, ?_, ?_, ?_, ?_, ?_⟩ <;> (rw [So.cell_blk h]; rfl)
end Go.Proofs.YtdlcldjlfhmlgaaGreatDoor
/- Layer 15: a configuration with one part made wrong. -/
namespace Go.Proofs.YtdlcldjlfhmlgaaGreatDoor
open Go.RowKit
section
variable {α : Type} {sz M : Nat} {R : World → α → List Value → Prop}
theorem rows_blk (ok : RowOk sz M R) {w w' : World} {q : Option Addr} {l : List α} (h : RowsAt sz R w q l) (hb : Below w.heap.size w w') (hM : M ≤ w.heap.size) : RowsAt sz R w' q l := fun j hj => by
 obtain ⟨b, off, row, e, hlt, hR, hc⟩ := h j hj
 exact ⟨b, off, row, e, Nat.lt_of_lt_of_le hlt hb.size, ok.blk _ _ _ _ (hb.mono hM) hR, fun i hi => (hb.cell (p := ⟨b, _, none⟩) hlt).trans (hc i hi)⟩
theorem rows_set (ok : RowOk sz M R) {N : Nat} (hMN : M ≤ N) {w : World} {q : Option Addr} {l : List α} (h : RowsAt sz R w q l) (hq : ∀ a, q = some a → a.block ≠ N) (i : Nat) (v : Value) : RowsAt sz R (w.setCell ⟨N, i, none⟩ v) q l := fun j hj => by
 obtain ⟨b, off, row, e, hlt, hR, hc⟩ := h j hj
 have hne : b ≠ N := hq _ e
 refine ⟨b, off, row, e, by simpa using hlt, ok.blk _ _ _ _ ((Below.refl _ _).setCell (p := ⟨N, i, none⟩) hMN v) hR, fun x hx => ?_⟩
 rw [← hc x hx]
 unfold World.cell?
 rw [Below.heap_setCell _ _ _ _ (show b ≠ (⟨N, i, none⟩ : Addr).block from hne)]
end
theorem chkR_six {c : Cf} (h : chkR c = 6) (j : Nat) (hj : j < 6) : prtR c j = true := by
 rcases fstP_at c 6 0 with ⟨_, h1⟩ | ⟨_, h2, _, _⟩
 ·exact h1 j (by omega) (by omega)
 ·have : fstP c 6 0 = 6 := h
  omega
theorem not_name0 : ¬ IsName ⟨#[]⟩ := by
 rintro ⟨a, _, h⟩
 have := congrArg ByteArray.size h
 rw [nm_size] at this
 have h0 : (⟨#[]⟩ : ByteArray).size = 0 := rfl
 omega
theorem rcs_nil (w : World) (q : Option Addr) : RcsAt w q [] := fun j hj => by simp at hj
def rl0 : A.Rl := ⟨⟨false, 0, 0⟩, 0, 0⟩
def lc0 : Lc := ⟨⟨#[]⟩, 0, []⟩
def up0 : Up := ⟨⟨#[]⟩, [], false⟩
def an0 : An := ⟨⟨#[]⟩, 0, 0, 0, ⟨#[]⟩⟩
theorem bad_rl (l : List A.Rl) : ¬ A.OkRs (l ++ [rl0]) := fun h => absurd (h.1 rl0 (by simp)) (by decide)
theorem bad_lc (l : List Lc) : ¬ okL (l ++ [lc0]) := fun h => by
 have h1 := (zone_ty (h.1 lc0 (by simp))).1
 exact not_name0 h1
theorem bad_up (l : List Up) : upsR (l ++ [up0]) = false := upsR_no (u := up0) (by simp) (by unfold upOk; rw [show isN up0.nm = false from isN_no not_name0]; rfl)
theorem bad_an (l : List An) : ansOk (l ++ [an0]) = false := ansOk_no (a := an0) (by simp) (by unfold anOk; rw [show isN an0.nm = false from isN_no not_name0]; rfl)
def PartBad (W : World) (N j : Nat) (w : World) : Prop := ∃ k c, CfAt w k c ∧ CfIn c ∧ w.heap[N]? = some (.cells (cfC k c) 51 (0, 0)) ∧ Below N W w ∧ chkR c = j ∧ c.lc.length ≤ 9223372036854775806
theorem part_bad {c' : Cf} {j : Nat} (hj : j < 6) (h0 : prtR c' j = false) (hb : ∀ i, i < j → prtR c' i = true) : chkR c' = j := chkR_at c' j hj h0 hb
theorem cell_frozen {w : World} {N : Nat} {c : Array Value} {t : TypeId} (h : w.heap[N]? = some (.cells c t (0, 0))) (i : Nat) : w.frozen? ⟨N, i, none⟩ = false := frozenU h i
set_option maxRecDepth 100000 in
theorem partRl {W wc : World} {N : Nat} (hN : W.heap.size = N) (hb : Below N W wc) (hNc : N < wc.heap.size) {k : Cq} {c : Cf} (hat : CfAt W k c) (hin : CfIn c) (htt : CfTight c) (hbox : wc.heap[N]? = some (.cells (cfC k c) 51 (0, 0))) (hsix : chkR c = 6) :
  ∃ v1 w1 q2 c2 w2, (aRl #[.slice none 0 0, .slice k.q1 c.ru.length k.c1]).run Tryz.prog wc = .ok v1 w1 ∧ (aRl #[v1, .slice (some ⟨w1.heap.size, 0, none⟩) 1 1]).run Tryz.prog (w1.alloc (.cells ([.bool false, .int .u64 0, .int .u64 0, .int .i64 0, .int .i64 0] : List Value).toArray 77)) = .ok (.slice q2 (c.ru.length + 1) c2) w2 ∧ w2.cell? ⟨N, 1, none⟩ = some (.slice k.q1 c.ru.length k.c1) ∧ w2.frozen? ⟨N, 1, none⟩ = false ∧ Hid (PartBad W N 1 (w2.setCell ⟨N, 1, none⟩ (.slice q2 (c.ru.length + 1) c2))) := by
 classical
 have hbc : Below W.heap.size W wc := by rw [hN]; exact hb
 have hM : N ≤ wc.heap.size := Nat.le_of_lt hNc
 have hr0 : RowsAt 5 (RlRow) W k.q1 c.ru := by first | exact rl_rows hat.ru | (rw [← hN]; exact rl_rows hat.ru)
 have hrows : RowsAt 5 (RlRow) wc k.q1 c.ru := rows_blk (rlOk N) hr0 hbc (Nat.le_of_eq hN.symm)
 have hlb := htt.t1
 obtain ⟨v1, w1, q2, c2, w2, h1, h2, HH⟩ := rows_two (by decide) (rlOk N) Tryz.underlying47 infoRl15 rfl hM hrows hat.s1 (by omega) (by unfold maxLen; omega) (x := rl0) (row := [.bool false, .int .u64 0, .int .u64 0, .int .i64 0, .int .i64 0]) (rfl)
 obtain ⟨hr2, hs2, hb2, hq2⟩ := HH.out
 have hbx2 : w2.heap[N]? = some (.cells (cfC k c) 51 (0, 0)) := (hb2.block N hNc).trans hbox
 refine ⟨v1, w1, q2, c2, w2, h1, h2, by rw [So.cell_blk hbx2]; rfl, cell_frozen hbx2 _, ?_⟩
 have hlen : (c.ru ++ [rl0]).length = c.ru.length + 1 := by simp
 have hbW2 : Below N W w2 := hb.trans (hb2.mono hM)
 have hbWx : Below N W (w2.setCell ⟨N, 1, none⟩ (.slice q2 (c.ru.length + 1) c2)) := hbW2.setCell (p := ⟨N, 1, none⟩) (Nat.le_refl _) _
 have hw : CfAt (w2.setCell ⟨N, 1, none⟩ (.slice q2 (c.ru.length + 1) c2)) k c := hat.blk (by rw [hN]; exact hbWx)
 have hnew := rl_back (rows_set (rlOk N) (Nat.le_refl _) hr2 (fun a ha e => by have := hq2 a ha; omega) 1 (.slice q2 (c.ru.length + 1) c2))
 have hsN : ShC (c.ru ++ [rl0]).length c2 q2 := by rw [hlen]; exact hs2
 have hl2 : (c.ru ++ [rl0]).length * 40 ≤ 140737488353280 := by
  rw [hlen]
  omega
 refine ⟨⟨k.q0, k.c0, q2, c2, k.q2, k.c2, k.q3, k.c3, k.q4, k.c4⟩, ⟨c.rt, c.ru ++ [rl0], c.lc, c.up, c.an, c.n0, c.n1, c.n2, c.n3⟩, ⟨hw.rt, hnew, hw.lc, hw.up, hw.an, hw.s0, hsN, hw.s2, hw.s3, hw.s4⟩, ⟨hin.rt, fun r hr => (List.mem_append.1 hr).elim (hin.ru r) (fun h => by obtain rfl := List.mem_singleton.1 h; exact ⟨by decide, by decide⟩), hin.lc, hin.up, hin.an, hin.n0, hin.n1, hin.n2, hin.n3, hin.l0, hl2, hin.l2, hin.l3, hin.l4⟩, ?_, hbWx, ?_, ?_⟩
 ·have := hset hbx2 1 (.slice q2 (c.ru.length + 1) c2)
  rw [this]
  simp only [cfC, hlen]
  rfl
 ·refine part_bad (by omega) (decide_eq_false (bad_rl _)) fun i hi => ?_
  have h0 := chkR_six hsix i (by omega)
  match i, hi with
  | 0, _ => exact h0
 ·have := hin.l2
  simp only [List.length_append, List.length_cons, List.length_nil]
  omega
set_option maxRecDepth 100000 in
theorem partLc {W wc : World} {N : Nat} (hN : W.heap.size = N) (hb : Below N W wc) (hNc : N < wc.heap.size) {k : Cq} {c : Cf} (hat : CfAt W k c) (hin : CfIn c) (htt : CfTight c) (hbox : wc.heap[N]? = some (.cells (cfC k c) 51 (0, 0))) (hsix : chkR c = 6) :
  ∃ v1 w1 q2 c2 w2, (aLc #[.slice none 0 0, .slice k.q2 c.lc.length k.c2]).run Tryz.prog wc = .ok v1 w1 ∧ (aLc #[v1, .slice (some ⟨w1.heap.size, 0, none⟩) 1 1]).run Tryz.prog (w1.alloc (.cells ([.string ⟨#[]⟩, .int .i64 0, .slice none 0 0] : List Value).toArray 26)) = .ok (.slice q2 (c.lc.length + 1) c2) w2 ∧ w2.cell? ⟨N, 2, none⟩ = some (.slice k.q2 c.lc.length k.c2) ∧ w2.frozen? ⟨N, 2, none⟩ = false ∧ Hid (PartBad W N 2 (w2.setCell ⟨N, 2, none⟩ (.slice q2 (c.lc.length + 1) c2))) := by
 classical
 have hbc : Below W.heap.size W wc := by rw [hN]; exact hb
 have hM : N ≤ wc.heap.size := Nat.le_of_lt hNc
 have hr0 : RowsAt 3 (LcRow N) W k.q2 c.lc := by first | exact lc_rows hat.lc | (rw [← hN]; exact lc_rows hat.lc)
 have hrows : RowsAt 3 (LcRow N) wc k.q2 c.lc := rows_blk (lcOk N) hr0 hbc (Nat.le_of_eq hN.symm)
 have hlb := htt.t2
 obtain ⟨v1, w1, q2, c2, w2, h1, h2, HH⟩ := rows_two (by decide) (lcOk N) Tryz.underlying22 infoLc15 rfl hM hrows hat.s2 (by omega) (by unfold maxLen; omega) (x := lc0) (row := [.string ⟨#[]⟩, .int .i64 0, .slice none 0 0]) (⟨none, 0, rfl, rcs_nil _ _, fun h => by simp [lc0] at h⟩)
 obtain ⟨hr2, hs2, hb2, hq2⟩ := HH.out
 have hbx2 : w2.heap[N]? = some (.cells (cfC k c) 51 (0, 0)) := (hb2.block N hNc).trans hbox
 refine ⟨v1, w1, q2, c2, w2, h1, h2, by rw [So.cell_blk hbx2]; rfl, cell_frozen hbx2 _, ?_⟩
 have hlen : (c.lc ++ [lc0]).length = c.lc.length + 1 := by simp
 have hbW2 : Below N W w2 := hb.trans (hb2.mono hM)
 have hbWx : Below N W (w2.setCell ⟨N, 2, none⟩ (.slice q2 (c.lc.length + 1) c2)) := hbW2.setCell (p := ⟨N, 2, none⟩) (Nat.le_refl _) _
 have hw : CfAt (w2.setCell ⟨N, 2, none⟩ (.slice q2 (c.lc.length + 1) c2)) k c := hat.blk (by rw [hN]; exact hbWx)
 have hnew := lc_back (rows_set (lcOk N) (Nat.le_refl _) hr2 (fun a ha e => by have := hq2 a ha; omega) 2 (.slice q2 (c.lc.length + 1) c2))
 have hsN : ShC (c.lc ++ [lc0]).length c2 q2 := by rw [hlen]; exact hs2
 have hl2 : (c.lc ++ [lc0]).length * 48 ≤ 140737488353280 := by
  rw [hlen]
  omega
 refine ⟨⟨k.q0, k.c0, k.q1, k.c1, q2, c2, k.q3, k.c3, k.q4, k.c4⟩, ⟨c.rt, c.ru, c.lc ++ [lc0], c.up, c.an, c.n0, c.n1, c.n2, c.n3⟩, ⟨hw.rt, hw.ru, hnew, hw.up, hw.an, hw.s0, hw.s1, hsN, hw.s3, hw.s4⟩, ⟨hin.rt, hin.ru, fun z hz => (List.mem_append.1 hz).elim (hin.lc z) (fun h => by obtain rfl := List.mem_singleton.1 h; exact ⟨by decide, fun r hr => by simp [lc0] at hr, by decide, by decide, by decide⟩), hin.up, hin.an, hin.n0, hin.n1, hin.n2, hin.n3, hin.l0, hin.l1, hl2, hin.l3, hin.l4⟩, ?_, hbWx, ?_, ?_⟩
 ·have := hset hbx2 2 (.slice q2 (c.lc.length + 1) c2)
  rw [this]
  simp only [cfC, hlen]
  rfl
 ·refine part_bad (by omega) (decide_eq_false (bad_lc _)) fun i hi => ?_
  have h0 := chkR_six hsix i (by omega)
  match i, hi with
  | 0, _ => exact h0
  | 1, _ => exact h0
 ·have := hin.l2
  simp only [List.length_append, List.length_cons, List.length_nil]
  omega
set_option maxRecDepth 100000 in
theorem partUp {W wc : World} {N : Nat} (hN : W.heap.size = N) (hb : Below N W wc) (hNc : N < wc.heap.size) {k : Cq} {c : Cf} (hat : CfAt W k c) (hin : CfIn c) (htt : CfTight c) (hbox : wc.heap[N]? = some (.cells (cfC k c) 51 (0, 0))) (hsix : chkR c = 6) :
  ∃ v1 w1 q2 c2 w2, (aUp #[.slice none 0 0, .slice k.q3 c.up.length k.c3]).run Tryz.prog wc = .ok v1 w1 ∧ (aUp #[v1, .slice (some ⟨w1.heap.size, 0, none⟩) 1 1]).run Tryz.prog (w1.alloc (.cells ([.string ⟨#[]⟩, .slice none 0 0, .bool false] : List Value).toArray 61)) = .ok (.slice q2 (c.up.length + 1) c2) w2 ∧ w2.cell? ⟨N, 3, none⟩ = some (.slice k.q3 c.up.length k.c3) ∧ w2.frozen? ⟨N, 3, none⟩ = false ∧ Hid (PartBad W N 3 (w2.setCell ⟨N, 3, none⟩ (.slice q2 (c.up.length + 1) c2))) := by
 classical
 have hbc : Below W.heap.size W wc := by rw [hN]; exact hb
 have hM : N ≤ wc.heap.size := Nat.le_of_lt hNc
 have hr0 : RowsAt 3 (UpRow N) W k.q3 c.up := by first | exact up_rows hat.up | (rw [← hN]; exact up_rows hat.up)
 have hrows : RowsAt 3 (UpRow N) wc k.q3 c.up := rows_blk (upOkR N) hr0 hbc (Nat.le_of_eq hN.symm)
 have hlb := htt.t3
 obtain ⟨v1, w1, q2, c2, w2, h1, h2, HH⟩ := rows_two (by decide) (upOkR N) Tryz.underlying48 infoUp15 rfl hM hrows hat.s3 (by omega) (by unfold maxLen; omega) (x := up0) (row := [.string ⟨#[]⟩, .slice none 0 0, .bool false]) (⟨none, 0, rfl, ads_nil _ _, sh_nil, fun h => by simp [up0] at h⟩)
 obtain ⟨hr2, hs2, hb2, hq2⟩ := HH.out
 have hbx2 : w2.heap[N]? = some (.cells (cfC k c) 51 (0, 0)) := (hb2.block N hNc).trans hbox
 refine ⟨v1, w1, q2, c2, w2, h1, h2, by rw [So.cell_blk hbx2]; rfl, cell_frozen hbx2 _, ?_⟩
 have hlen : (c.up ++ [up0]).length = c.up.length + 1 := by simp
 have hbW2 : Below N W w2 := hb.trans (hb2.mono hM)
 have hbWx : Below N W (w2.setCell ⟨N, 3, none⟩ (.slice q2 (c.up.length + 1) c2)) := hbW2.setCell (p := ⟨N, 3, none⟩) (Nat.le_refl _) _
 have hw : CfAt (w2.setCell ⟨N, 3, none⟩ (.slice q2 (c.up.length + 1) c2)) k c := hat.blk (by rw [hN]; exact hbWx)
 have hnew := up_back (rows_set (upOkR N) (Nat.le_refl _) hr2 (fun a ha e => by have := hq2 a ha; omega) 3 (.slice q2 (c.up.length + 1) c2))
 have hsN : ShC (c.up ++ [up0]).length c2 q2 := by rw [hlen]; exact hs2
 have hl2 : (c.up ++ [up0]).length * 48 ≤ 140737488353280 := by
  rw [hlen]
  omega
 refine ⟨⟨k.q0, k.c0, k.q1, k.c1, k.q2, k.c2, q2, c2, k.q4, k.c4⟩, ⟨c.rt, c.ru, c.lc, c.up ++ [up0], c.an, c.n0, c.n1, c.n2, c.n3⟩, ⟨hw.rt, hw.ru, hw.lc, hnew, hw.an, hw.s0, hw.s1, hw.s2, hsN, hw.s4⟩, ⟨hin.rt, hin.ru, hin.lc, fun z hz => (List.mem_append.1 hz).elim (hin.up z) (fun h => by obtain rfl := List.mem_singleton.1 h; exact ⟨by decide, fun r hr => by simp [up0] at hr, by decide⟩), hin.an, hin.n0, hin.n1, hin.n2, hin.n3, hin.l0, hin.l1, hin.l2, hl2, hin.l4⟩, ?_, hbWx, ?_, ?_⟩
 ·have := hset hbx2 3 (.slice q2 (c.up.length + 1) c2)
  rw [this]
  simp only [cfC, hlen]
  rfl
 ·refine part_bad (by omega) (bad_up _) fun i hi => ?_
  have h0 := chkR_six hsix i (by omega)
  match i, hi with
  | 0, _ => exact h0
  | 1, _ => exact h0
  | 2, _ => exact h0
 ·have := hin.l2
  simp only [List.length_append, List.length_cons, List.length_nil]
  omega
set_option maxRecDepth 100000 in
theorem partAn {W wc : World} {N : Nat} (hN : W.heap.size = N) (hb : Below N W wc) (hNc : N < wc.heap.size) {k : Cq} {c : Cf} (hat : CfAt W k c) (hin : CfIn c) (htt : CfTight c) (hbox : wc.heap[N]? = some (.cells (cfC k c) 51 (0, 0))) (hsix : chkR c = 6) :
  ∃ v1 w1 q2 c2 w2, (aAn #[.slice none 0 0, .slice k.q4 c.an.length k.c4]).run Tryz.prog wc = .ok v1 w1 ∧ (aAn #[v1, .slice (some ⟨w1.heap.size, 0, none⟩) 1 1]).run Tryz.prog (w1.alloc (.cells ([.string ⟨#[]⟩, .int .i64 0, .int .i64 0, .int .i64 0, .string ⟨#[]⟩] : List Value).toArray 71)) = .ok (.slice q2 (c.an.length + 1) c2) w2 ∧ w2.cell? ⟨N, 4, none⟩ = some (.slice k.q4 c.an.length k.c4) ∧ w2.frozen? ⟨N, 4, none⟩ = false ∧ Hid (PartBad W N 4 (w2.setCell ⟨N, 4, none⟩ (.slice q2 (c.an.length + 1) c2))) := by
 classical
 have hbc : Below W.heap.size W wc := by rw [hN]; exact hb
 have hM : N ≤ wc.heap.size := Nat.le_of_lt hNc
 have hr0 : RowsAt 5 (AnRow) W k.q4 c.an := by first | exact an_rows hat.an | (rw [← hN]; exact an_rows hat.an)
 have hrows : RowsAt 5 (AnRow) wc k.q4 c.an := rows_blk (anOkR N) hr0 hbc (Nat.le_of_eq hN.symm)
 have hlb := htt.t4
 obtain ⟨v1, w1, q2, c2, w2, h1, h2, HH⟩ := rows_two (by decide) (anOkR N) Tryz.underlying49 infoAn15 rfl hM hrows hat.s4 (by omega) (by unfold maxLen; omega) (x := an0) (row := [.string ⟨#[]⟩, .int .i64 0, .int .i64 0, .int .i64 0, .string ⟨#[]⟩]) (rfl)
 obtain ⟨hr2, hs2, hb2, hq2⟩ := HH.out
 have hbx2 : w2.heap[N]? = some (.cells (cfC k c) 51 (0, 0)) := (hb2.block N hNc).trans hbox
 refine ⟨v1, w1, q2, c2, w2, h1, h2, by rw [So.cell_blk hbx2]; rfl, cell_frozen hbx2 _, ?_⟩
 have hlen : (c.an ++ [an0]).length = c.an.length + 1 := by simp
 have hbW2 : Below N W w2 := hb.trans (hb2.mono hM)
 have hbWx : Below N W (w2.setCell ⟨N, 4, none⟩ (.slice q2 (c.an.length + 1) c2)) := hbW2.setCell (p := ⟨N, 4, none⟩) (Nat.le_refl _) _
 have hw : CfAt (w2.setCell ⟨N, 4, none⟩ (.slice q2 (c.an.length + 1) c2)) k c := hat.blk (by rw [hN]; exact hbWx)
 have hnew := an_back (rows_set (anOkR N) (Nat.le_refl _) hr2 (fun a ha e => by have := hq2 a ha; omega) 4 (.slice q2 (c.an.length + 1) c2))
 have hsN : ShC (c.an ++ [an0]).length c2 q2 := by rw [hlen]; exact hs2
 have hl2 : (c.an ++ [an0]).length * 56 ≤ 140737488353280 := by
  rw [hlen]
  omega
 refine ⟨⟨k.q0, k.c0, k.q1, k.c1, k.q2, k.c2, k.q3, k.c3, q2, c2⟩, ⟨c.rt, c.ru, c.lc, c.up, c.an ++ [an0], c.n0, c.n1, c.n2, c.n3⟩, ⟨hw.rt, hw.ru, hw.lc, hw.up, hnew, hw.s0, hw.s1, hw.s2, hw.s3, hsN⟩, ⟨hin.rt, hin.ru, hin.lc, hin.up, fun z hz => (List.mem_append.1 hz).elim (hin.an z) (fun h => by obtain rfl := List.mem_singleton.1 h; exact ⟨by decide, by decide, ⟨by decide, by decide⟩, ⟨by decide, by decide⟩, ⟨by decide, by decide⟩⟩), hin.n0, hin.n1, hin.n2, hin.n3, hin.l0, hin.l1, hin.l2, hin.l3, hl2⟩, ?_, hbWx, ?_, ?_⟩
 ·have := hset hbx2 4 (.slice q2 (c.an.length + 1) c2)
  rw [this]
  simp only [cfC, hlen]
  rfl
 ·refine part_bad (by omega) (bad_an _) fun i hi => ?_
  have h0 := chkR_six hsix i (by omega)
  match i, hi with
  | 0, _ => exact h0
  | 1, _ => exact h0
  | 2, _ => exact h0
  | 3, _ => exact h0
 ·have := hin.l2
  simp only [List.length_append, List.length_cons, List.length_nil]
  omega
theorem partRoots {W wc : World} {N : Nat} (hN : W.heap.size = N) (hb : Below N W wc) {k : Cq} {c : Cf} (hat : CfAt W k c) (hin : CfIn c) (hbox : wc.heap[N]? = some (.cells (cfC k c) 51 (0, 0))) :
  wc.cell? ⟨N, 0, none⟩ = some (.slice k.q0 c.rt.length k.c0) ∧ wc.frozen? ⟨N, 0, none⟩ = false ∧ Hid (PartBad W N 0 (wc.setCell ⟨N, 0, none⟩ (.slice none 0 0))) := by
 refine ⟨by rw [So.cell_blk hbox]; rfl, cell_frozen hbox _, ?_⟩
 have hbWx : Below N W (wc.setCell ⟨N, 0, none⟩ (.slice none 0 0)) := hb.setCell (p := ⟨N, 0, none⟩) (Nat.le_refl _) _
 have hw : CfAt (wc.setCell ⟨N, 0, none⟩ (.slice none 0 0)) k c := hat.blk (by rw [hN]; exact hbWx)
 refine ⟨⟨none, 0, k.q1, k.c1, k.q2, k.c2, k.q3, k.c3, k.q4, k.c4⟩, ⟨[], c.ru, c.lc, c.up, c.an, c.n0, c.n1, c.n2, c.n3⟩, ⟨ads_nil _ _, hw.ru, hw.lc, hw.up, hw.an, sh_nil, hw.s1, hw.s2, hw.s3, hw.s4⟩, ⟨fun a ha => by simp at ha, hin.ru, hin.lc, hin.up, hin.an, hin.n0, hin.n1, hin.n2, hin.n3, by simp, hin.l1, hin.l2, hin.l3, hin.l4⟩, ?_, hbWx, ?_, ?_⟩
 ·have := hset hbox 0 (.slice none 0 0)
  rw [this]
  rfl
 ·exact part_bad (by omega) (show srvR [] = false by decide) fun i hi => by omega
 ·have := hin.l2
  simp only
  omega
theorem partTasks {W wc : World} {N : Nat} (hN : W.heap.size = N) (hb : Below N W wc) {k : Cq} {c : Cf} (hat : CfAt W k c) (hin : CfIn c) (hbox : wc.heap[N]? = some (.cells (cfC k c) 51 (0, 0))) (hsix : chkR c = 6) :
  wc.cell? ⟨N, 8, none⟩ = some (.int .i64 c.n3) ∧ wc.frozen? ⟨N, 8, none⟩ = false ∧ Hid (PartBad W N 5 (wc.setCell ⟨N, 8, none⟩ (.int .i64 0))) := by
 refine ⟨by rw [So.cell_blk hbox]; rfl, cell_frozen hbox _, ?_⟩
 have hbWx : Below N W (wc.setCell ⟨N, 8, none⟩ (.int .i64 0)) := hb.setCell (p := ⟨N, 8, none⟩) (Nat.le_refl _) _
 have hw : CfAt (wc.setCell ⟨N, 8, none⟩ (.int .i64 0)) k c := hat.blk (by rw [hN]; exact hbWx)
 refine ⟨k, ⟨c.rt, c.ru, c.lc, c.up, c.an, c.n0, c.n1, c.n2, 0⟩, ⟨hw.rt, hw.ru, hw.lc, hw.up, hw.an, hw.s0, hw.s1, hw.s2, hw.s3, hw.s4⟩, ⟨hin.rt, hin.ru, hin.lc, hin.up, hin.an, hin.n0, hin.n1, hin.n2, ⟨show (-9223372036854775808 : Int) ≤ 0 by decide, show (0 : Int) ≤ 9223372036854775807 by decide⟩, hin.l0, hin.l1, hin.l2, hin.l3, hin.l4⟩, ?_, hbWx, ?_, ?_⟩
 ·have := hset hbox 8 (.int .i64 0)
  rw [this]
  rfl
 ·refine part_bad (by omega) (show numsR _ = false by unfold numsR; simp [numR]) fun i hi => ?_
  have h0 := chkR_six hsix i (by omega)
  match i, hi with
  | 0, _ => exact h0
  | 1, _ => exact h0
  | 2, _ => exact h0
  | 3, _ => exact h0
  | 4, _ => exact h0
 ·have := hin.l2
  simp only
  omega
end Go.Proofs.YtdlcldjlfhmlgaaGreatDoor
