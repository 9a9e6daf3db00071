/- Texts of this proof, joined: DNsec, DNsecNo, DNsec3, DNsec3b, DRiseF. -/
import Derived.Deep.RegionHeld3
import Derived.Test.YtdhcbaennpediaaGreatDoorJ11
import Derived.Deep.RegionWith
/- NSEC: taken apart, and put together. -/
namespace Go.Proofs.YtdhcbaennpediaaGreatDoor
set_option linter.unusedVariables false
open Go.RowKit

theorem IntsAt.below {W W' : World} {v : Value} {l : List Int} (h : IntsAt W v l) (hb : Below W.heap.size W W') : IntsAt W' v l := by
  obtain ⟨q, c, hv, hc⟩ := h
  refine ⟨q, c, hv, fun j hj => ?_⟩
  obtain ⟨g, hq, hg, hx⟩ := hc j hj
  exact ⟨g, hq, Nat.lt_of_lt_of_le hg hb.size, (hb.cell (p := ⟨g, j, none⟩) hg).trans hx⟩
theorem ints_of_row {W : World} {n₀ : Nat} {v : Value} {l : List Nat} (h : W.ownsRow n₀ 3 1 v l.length (intsV l)) : IntsAt W v (l.map fun n => ((n : Nat) : Int)) := by
  obtain ⟨q, c, rfl⟩ := row_as h
  refine ⟨q, c, by simp, fun j hj => ?_⟩
  rw [List.length_map] at hj
  rcases h.2 with ⟨_, h0⟩ | ⟨g, cap, cur, hv, _, hg, _, _, _, ht⟩
  · omega
  · cases hv
    refine ⟨g, rfl, box_lt hg, ?_⟩
    have := Lib.cells_of_row (w := W) hg l.length j (.int .i64 ((l[j] : Nat) : Int)) (by rw [Nat.mul_one] at ht; rw [ht]; simp [intsV, hj])
    rw [add_at] at this
    simpa using this
theorem encGo_ok : ∀ (l : List Int) (ws ws' : List Win) (last : Int), OkW (-1) ws → (∀ x ∈ tysW ws, (x : Int) ≤ last) → encGo ws last l = some ws' → OkW (-1) ws'
  | [], ws, ws', last, h, _, e => by cases e; exact h
  | k :: r, ws, ws', last, h, hl, e => by
    rw [encGo] at e
    split at e
    · rename_i hk
      obtain ⟨a1, a2⟩ := addT_ok ws k.toNat (by omega) h (fun x hx => by have := hl x hx; omega)
      refine encGo_ok r _ ws' k a1 (fun x hx => ?_) e
      rw [a2, List.mem_append] at hx
      rcases hx with hx | hx
      · have := hl x hx; omega
      · simp only [List.mem_singleton] at hx; omega
    · cases e
theorem encR_len {l : List Int} {bs : List UInt8} (h : encR l = some bs) : bs.length ≤ 8704 := by
  rw [encR, Option.map_eq_some_iff] at h
  obtain ⟨ws, hw, rfl⟩ := h
  have := encW_len ws (-1) (encGo_ok l [] ws (-1) trivial (by simp [tysW]) hw) (by omega) (by omega)
  omega

set_option maxRecDepth 100000 in
set_option maxHeartbeats 4000000 in
theorem putNsec_in (nx : ByteArray) (v : Value) (l : List Int) (bs : List UInt8) (hl : l.length ≤ 1000000) (he : encR l = some bs) (W : World) (hv : IntsAt W v l) (xb : Nat) (hx : W.heap[xb]? = some (.cells #[.string nx, v] 50 (0, 0))) :
    Calls Tryz.prog 54 #[boxV xb] W fun e w' => PutPost (some [nx, ⟨bs.toArray⟩]) W e w' := by
  have hmo : Tryz.prog.follows Departure.mixedOrders = true := by kernel_rfl
  have HB : Hid (∀ W', Below W.heap.size W W' → Calls Tryz.prog 55 #[v] W' fun e w' => e = .returned (.string ⟨bs.toArray⟩) ∧ Below W'.heap.size W' w') := fun W' hb => by
    have := bytesOfTypes_in W' v l hl (hv.below hb)
    rw [he] at this
    exact this
  obtain ⟨q, c, hvq, _⟩ := hv
  subst hvq
  have c0 := (cells_at (v := .string nx) (j := 0) hx rfl).1
  have c1 := (cells_at (v := .slice q l.length c) (j := 1) hx rfl).1
  have HL : Hid (∀ (G : Prop) (A B : World), A.heap[xb]? = some (.cells #[.string nx, .slice q l.length c] 50 (0, 0)) → Below W.heap.size W A → Below A.heap.size A B → (Below W.heap.size W B → B.cell? ⟨xb, 0, none⟩ = some (.string nx) → B.cell? ⟨xb, 1, none⟩ = some (.slice q l.length c) → G) → G) := by
    intro G A B hA hW hB hG
    have hB' := (hB.block xb (box_lt hA)).trans hA
    exact hG (bth hW hB hW.size) (cells_at hB' rfl).1 (cells_at hB' rfl).1
  have X0 : W.drew.heap[xb]? = some (.cells #[.string nx, .slice q l.length c] 50 (0, 0)) := hx
  have B0 : Below W.heap.size W W.drew := (Below.refl _ _).drew
  generalize (⟨bs.toArray⟩ : ByteArray) = b at HB ⊢
  clear hx
  go_enter Tryz.func54, Tryz.ntmps54
  go_wp2
  go_region_held3 (fun w' => w'.cell? ⟨xb, 0, none⟩ = some (.string nx) ∧ w'.cell? ⟨xb, 1, none⟩ = some (.slice q l.length c)) (first | ((repeat' apply And.intro) <;> assumption) | go_keep)
    (first | (go_at_call 55; refine (HB.out _ B0).mono ?_; rintro e x1 ⟨rfl, y1⟩; refine HL.out _ _ x1 X0 B0 y1 ?_; intro B1 d0 d1))
  have hsm := B1.size
  go_wp2
  go_ret
  exact ⟨⟨_, rfl, row_down (row_lit x1 [nx, b] (by unfold maxLen; simp) (by simp)) hsm⟩, B1.alloc hsm _⟩

set_option maxRecDepth 100000 in
theorem ofNsec_in (nx : ByteArray) (v : Value) (l : List Int) (bs : List UInt8) (hn : nx.size ≤ 2000) (hl : l.length ≤ 1000000) (he : encR l = some bs) (W : World) (hv : IntsAt W v l) :
    Calls Tryz.prog 29 #[.agg #[.string nx, v]] W fun e w' => e = .returned (.tuple #[.string (strOf (joinR 47 (some [nx, ⟨bs.toArray⟩]))), .int .i64 (errOf (joinR 47 (some [nx, ⟨bs.toArray⟩])))]) ∧ Below W.heap.size W w' := by
  have hmf := mkf
  have hbl := encR_len he
  have hbw : Below W.heap.size W (W.alloc (.cells #[.string nx, v] 50)) := (Below.refl _ _).alloc (Nat.le_refl _) _
  have HJ := Hid.mk (joined_in (W.alloc (.cells #[.string nx, v] 50)) 47 54 #[boxV W.heap.size] (enters_by Tryz.func54 (by kernel_rfl) rfl) (some [nx, ⟨bs.toArray⟩]) (fun ps e => by
      cases e
      refine ⟨by simp, ?_⟩
      simp only [cat, app_size, ba_size, List.length_nil]
      omega) (fun W' hb => putNsec_in nx v l bs hl he W' ((hv.below hbw).below hb) W.heap.size ((hb.block _ (by simp)).trans (heap_new _ _))))
  generalize joinR 47 (some [nx, ⟨bs.toArray⟩]) = J at HJ ⊢
  obtain ⟨q, c, hvq, _⟩ := hv
  subst hvq
  go_enter Tryz.func29, Tryz.ntmps29
  go_wp2_with fail
  refine HJ.out.mono ?_
  rintro e w1 ⟨rfl, hb1⟩
  go_wp2
  go_ret2
  exact ⟨rfl, bth hbw hb1 hbw.size⟩

def TakeNsec (d : ByteArray) (W : World) (v : Value) (er : Int) : Prop := ∃ (nx : ByteArray) (v' : Value) (l : List Int) (bs : List UInt8), v = .agg #[.string nx, v'] ∧ IntsAt W v' l ∧ nx.size ≤ 2000 ∧ l.length ≤ 1000000 ∧ encR l = some bs ∧ (er = 0 → joinR 47 (some [nx, ⟨bs.toArray⟩]) = some d) ∧ (er = 0 ∨ (er = 6 ∧ splitR 47 d = none ∧ v = .agg #[.string ⟨#[]⟩, .slice none 0 0])) ∧ (er = 0 → ∃ tl : List Nat, l = tl.map (fun n => ((n : Nat) : Int)) ∧ typesR ⟨bs.toArray⟩ = some tl)
theorem rise_len : ∀ (l : List Nat) (last : Int), Rise last l → (l.length : Int) ≤ 65535 - last ∨ l = []
  | [], _, _ => .inr rfl
  | k :: r, last, ⟨h1, h2, h3⟩ => by
    left
    rcases rise_len r k h3 with h | rfl
    · simp; omega
    · simp; omega

set_option maxRecDepth 100000 in
set_option maxHeartbeats 4000000 in
theorem takeNsec_in (d : ByteArray) (hm : d.size ≤ maxLen) (W : World) :
    Calls Tryz.prog 16 #[.string d] W fun e w' => (∃ v er, e = .returned (.tuple #[v, .int .i64 er]) ∧ TakeNsec d w' v er) ∧ Below W.heap.size W w' := by
  have HS := Hid.mk (split_all 47 d hm)
  have hmo : Tryz.prog.follows Departure.mixedOrders = true := by kernel_rfl
  cases hsp : splitR 47 d with
  | none =>
    rw [hsp] at HS
    have HSP := Hid.mk hsp
    clear hsp
    go_enter Tryz.func16, Tryz.ntmps16
    go_wp2_with fail
    refine (HS.out _).mono ?_
    rintro e w1 ⟨rfl, hb1⟩
    have hbx := (hb1.block _ (by simp)).trans (heap_new W (.cells #[.string ⟨#[]⟩, .slice none 0 0] 50))
    obtain ⟨a0, f0⟩ := cells_at (v := .string ⟨#[]⟩) (j := 0) hbx rfl
    obtain ⟨a1, f1⟩ := cells_at (v := .slice none 0 0) (j := 1) hbx rfl
    have HBX := Hid.mk hbx
    clear hbx
    go_wp2
    have hfin : ((w1.setCell ⟨W.heap.size, 0, none⟩ (.string ⟨#[]⟩)).setCell ⟨W.heap.size, 1, none⟩ (.slice none 0 0)).heap[W.heap.size]? = some (.cells #[.string ⟨#[]⟩, .slice none 0 0] 50 (0, 0)) := cells_put (j := 1) (cells_put (j := 0) HBX.out (.string ⟨#[]⟩)) (.slice none 0 0)
    refine bodyPost_ret (v := .tuple #[.agg #[.string ⟨#[]⟩, .slice none 0 0], .int .i64 6]) (by simp [results, Tryz.results16, go_sem, (cells_at (v := .string ⟨#[]⟩) (j := 0) hfin rfl).1, (cells_at (v := .slice none 0 0) (j := 1) hfin rfl).1]) rfl ⟨⟨_, _, rfl, ⟨#[]⟩, .slice none 0 0, [], [], rfl, ⟨none, 0, rfl, fun j hj => by simp at hj⟩, by decide, by simp, rfl, (fun h => by cases h), .inr ⟨rfl, HSP.out, rfl⟩, fun h => by cases h⟩, ?_⟩
    exact ((((Below.refl _ _).alloc (Nat.le_refl _) _).trans (hb1.mono (by simp))).setCell (p := ⟨W.heap.size, 0, none⟩) (Nat.le_refl _) _).setCell (p := ⟨W.heap.size, 1, none⟩) (Nat.le_refl _) _
  | some ps =>
    obtain ⟨p0, p1, hps⟩ : ∃ p0 p1, ps = [p0, p1] := by
      have hl := ((split_iff 47 d ps).1 hsp).2.2.2.len
      match ps, hl with
      | [p0, p1], _ => exact ⟨_, _, rfl⟩
    subst hps
    obtain ⟨hk, hs, hd, hg⟩ := (split_iff 47 d _).1 hsp
    have hg' : IsName p0 ∧ (typesR p1).isSome = true ∧ True := hg
    obtain ⟨tl, htl⟩ := Option.isSome_iff_exists.1 hg'.2.1
    obtain ⟨hrise, hp1⟩ := typesR_back htl
    have hcs : p0.size + p1.size ≤ 2000 := by
      rw [hd] at hs
      simp only [cat, app_size] at hs
      have : (⟨#[]⟩ : ByteArray).size = 0 := rfl
      omega
    have hrl : tl.length ≤ 1000000 := by
      rcases rise_len tl (-1) hrise with h | rfl
      · omega
      · simp
    have HTK : Hid (encR (tl.map fun n => ((n : Nat) : Int)) = some (encT tl) ∧ joinR 47 (some [p0, ⟨(encT tl).toArray⟩]) = some d ∧ typesR ⟨(encT tl).toArray⟩ = some tl) := by
      refine ⟨encR_rise hrise, ?_, by rw [← hp1]; exact htl⟩
      rw [← hp1, joinR, ← hd, hsp]
      exact if_pos rfl
    have HTY := Hid.mk (fun w => typesOf_in w p1 (by omega))
    rw [htl] at HTY
    rw [hsp] at HS
    clear hsp hg hg' hp1 htl hd hs hrise
    go_enter Tryz.func16, Tryz.ntmps16
    go_wp2_with fail
    refine (HS.out _).mono ?_
    rintro e w1 ⟨⟨v, rfl, hrow⟩, hb1⟩
    obtain ⟨q, c, hv⟩ := row_as hrow
    subst hv
    obtain ⟨g, hq, hgl, _⟩ := row_cell hrow 0 (by simp)
    subst hq
    obtain ⟨_, _, hgb⟩ := row_frozen (j := 0) hrow (by simp)
    simp only [World.size_alloc] at hgb
    have hgne : g ≠ W.heap.size := by omega
    have hgne2 : W.heap.size ≠ g := by omega
    have r0 : w1.cell? ⟨g, 0, none⟩ = some (.string p0) := row_at hrow 0 p0 rfl
    have r1 : w1.cell? ⟨g, 1, none⟩ = some (.string p1) := row_at hrow 1 p1 rfl
    have hbx := (hb1.block _ (by simp)).trans (heap_new W (.cells #[.string ⟨#[]⟩, .slice none 0 0] 50))
    have HL : Hid (∀ (G : Prop) (v1 : Value) (x1 : World), x1.ownsRow w1.drew.heap.size 3 1 v1 tl.length (intsV tl) → Below w1.drew.heap.size w1.drew x1 →
        (∀ q1 c1, v1 = .slice q1 tl.length c1 → x1.cell? ⟨g, 0, none⟩ = some (.string p0) → x1.cell? ⟨g, 1, none⟩ = some (.string p1) → x1.heap[W.heap.size]? = some (.cells #[.string ⟨#[]⟩, .slice none 0 0] 50 (0, 0)) →
          x1.cell? ⟨W.heap.size, 0, none⟩ = some (.string ⟨#[]⟩) → x1.frozen? ⟨W.heap.size, 0, none⟩ = false → x1.cell? ⟨W.heap.size, 1, none⟩ = some (.slice none 0 0) → x1.frozen? ⟨W.heap.size, 1, none⟩ = false → Below w1.heap.size w1 x1 → G) → G) := by
      intro G v1 x1 hr hb hG
      obtain ⟨q1, c1, hv1⟩ := row_as hr
      have hb' : Below w1.heap.size w1 x1 := ⟨hb.os, hb.tape, hb.output, hb.size, hb.block⟩
      have hx1 := (hb'.block _ (box_lt hbx)).trans hbx
      obtain ⟨e0, e1⟩ := cells_at (v := .string ⟨#[]⟩) (j := 0) hx1 rfl
      obtain ⟨e2, e3⟩ := cells_at (v := .slice none 0 0) (j := 1) hx1 rfl
      exact hG q1 c1 hv1 ((hb'.cell (p := ⟨g, 0, none⟩) hgl).trans r0) ((hb'.cell (p := ⟨g, 1, none⟩) hgl).trans r1) hx1 e0 e1 e2 e3 hb'
    clear hrow hbx
    go_wp2
    go_region_held3 (fun w' => w'.cell? ⟨g, 0, none⟩ = some (.string p0) ∧ w'.cell? ⟨g, 1, none⟩ = some (.string p1)) (first | ((repeat' apply And.intro) <;> assumption) | go_keep)
      (first | (go_at_call 41; refine (HTY.out _).mono ?_; rintro e x1 ⟨⟨v1, rfl, hrow1⟩, y1⟩; refine HL.out _ v1 x1 hrow1 y1 ?_; intro q1 c1 hv1 s0 s1 hx1 b0 g0 b1 g1 hbb; subst hv1))
    go_wp2
    have hfin : ((x1.setCell ⟨W.heap.size, 0, none⟩ (.string p0)).setCell ⟨W.heap.size, 1, none⟩ (.slice q1 tl.length c1)).heap[W.heap.size]? = some (.cells #[.string p0, .slice q1 tl.length c1] 50 (0, 0)) := cells_put (j := 1) (cells_put (j := 0) hx1 (.string p0)) (.slice q1 tl.length c1)
    have hW1 : W.heap.size < w1.heap.size := by have := hb1.size; simp at this; omega
    have hin : IntsAt ((x1.setCell ⟨W.heap.size, 0, none⟩ (.string p0)).setCell ⟨W.heap.size, 1, none⟩ (.slice q1 tl.length c1)) (.slice q1 tl.length c1) (tl.map fun n => ((n : Nat) : Int)) := by
      have h1 := ownsRow_setCell_below (ownsRow_setCell_below hrow1 (a := ⟨W.heap.size, 0, none⟩) hW1 (.string p0)) (a := ⟨W.heap.size, 1, none⟩) hW1 (.slice q1 tl.length c1)
      exact ints_of_row (W := ((x1.setCell ⟨W.heap.size, 0, none⟩ (.string p0)).setCell ⟨W.heap.size, 1, none⟩ (.slice q1 tl.length c1))) h1
    refine bodyPost_ret (v := .tuple #[.agg #[.string p0, .slice q1 tl.length c1], .int .i64 0]) (by simp [results, Tryz.results16, go_sem, (cells_at (v := .string p0) (j := 0) hfin rfl).1, (cells_at (v := .slice q1 tl.length c1) (j := 1) hfin rfl).1]) rfl ⟨⟨_, _, rfl, p0, .slice q1 tl.length c1, _, _, rfl, hin, by omega, by simpa using hrl, HTK.out.1, fun _ => HTK.out.2.1, .inl rfl, fun _ => ⟨_, rfl, HTK.out.2.2⟩⟩, ?_⟩
    have hW2 : Below W.heap.size W x1 := (((Below.refl _ _).alloc (Nat.le_refl _) _).trans (hb1.mono (by simp))).trans (hbb.mono (by omega))
    exact (hW2.setCell (p := ⟨W.heap.size, 0, none⟩) (Nat.le_refl _) _).setCell (p := ⟨W.heap.size, 1, none⟩) (Nat.le_refl _) _
end Go.Proofs.YtdhcbaennpediaaGreatDoor

/- NSEC of types that do not rise. -/
namespace Go.Proofs.YtdhcbaennpediaaGreatDoor
set_option linter.unusedVariables false
open Go.RowKit

set_option maxRecDepth 100000 in
set_option maxHeartbeats 4000000 in
theorem putNsec_no (nx : ByteArray) (v : Value) (l : List Int) (hl : l.length ≤ 1000000) (he : encR l = none) (W : World) (hv : IntsAt W v l) (xb : Nat) (hx : W.heap[xb]? = some (.cells #[.string nx, v] 50 (0, 0))) :
    Calls Tryz.prog 54 #[boxV xb] W fun e w' => PutPost none W e w' := by
  have hmo : Tryz.prog.follows Departure.mixedOrders = true := by kernel_rfl
  have HB : Hid (∀ W', Below W.heap.size W W' → Calls Tryz.prog 55 #[v] W' fun e w' => e = .panicked mustV ∧ Below W'.heap.size W' w') := fun W' hb => by
    have := bytesOfTypes_in W' v l hl (hv.below hb)
    rw [he] at this
    exact this
  obtain ⟨q, c, hvq, _⟩ := hv
  subst hvq
  have c0 := (cells_at (v := .string nx) (j := 0) hx rfl).1
  have c1 := (cells_at (v := .slice q l.length c) (j := 1) hx rfl).1
  have B0 : Below W.heap.size W W.drew := (Below.refl _ _).drew
  clear hx
  go_enter Tryz.func54, Tryz.ntmps54
  go_wp2
  go_region_with (first | (go_at_call 55; refine (HB.out _ B0).mono ?_; rintro e x1 ⟨rfl, y1⟩; refine with_dummy x1 ⟨rfl, rfl, bth B0 y1 B0.size⟩ ?_))
  all_goals trivial

set_option maxRecDepth 100000 in
theorem ofNsec_no (nx : ByteArray) (v : Value) (l : List Int) (hl : l.length ≤ 1000000) (he : encR l = none) (W : World) (hv : IntsAt W v l) :
    Calls Tryz.prog 29 #[.agg #[.string nx, v]] W fun e w' => e = .returned (.tuple #[.string ⟨#[]⟩, .int .i64 6]) ∧ Below W.heap.size W w' := by
  have hmf := mkf
  have hbw : Below W.heap.size W (W.alloc (.cells #[.string nx, v] 50)) := (Below.refl _ _).alloc (Nat.le_refl _) _
  have HJ := Hid.mk (joined_in (W.alloc (.cells #[.string nx, v] 50)) 47 54 #[boxV W.heap.size] (enters_by Tryz.func54 (by kernel_rfl) rfl) none (fun ps e => by cases e) (fun W' hb => putNsec_no nx v l hl he W' ((hv.below hbw).below hb) W.heap.size ((hb.block _ (by simp)).trans (heap_new _ _))))
  obtain ⟨q, c, hvq, _⟩ := hv
  subst hvq
  go_enter Tryz.func29, Tryz.ntmps29
  go_wp2_with fail
  refine HJ.out.mono ?_
  rintro e w1 ⟨rfl, hb1⟩
  go_wp2
  go_ret2
  exact ⟨rfl, bth hbw hb1 hbw.size⟩
end Go.Proofs.YtdhcbaennpediaaGreatDoor

/- NSEC3: taken apart, and put together. -/
namespace Go.Proofs.YtdhcbaennpediaaGreatDoor
set_option linter.unusedVariables false
open Go.RowKit

/-- the pieces of NSEC3. -/
abbrev pcs3 (n0 n1 n2 : Nat) (sa nx : List UInt8) (bs : List UInt8) : List ByteArray := [⟨(bytesB n0 1).toArray⟩, ⟨(bytesB n1 1).toArray⟩, ⟨(bytesB n2 2).toArray⟩, ⟨(cntd sa).toArray⟩, ⟨(cntd nx).toArray⟩, ⟨bs.toArray⟩]

set_option maxRecDepth 100000 in
set_option maxHeartbeats 4000000 in
theorem putNsec3_in (n0 n1 n2 : Nat) (h0 : n0 < 256) (h1 : n1 < 256) (h2 : n2 < 65536) (sa nx : List UInt8) (hsa : sa.length ≤ 255) (hnx : nx.length ≤ 255) (v : Value) (l : List Int) (bs : List UInt8) (hl : l.length ≤ 1000000) (he : encR l = some bs) (W : World) (hv : IntsAt W v l) (xb : Nat)
    (hx : W.heap[xb]? = some (.cells #[.int .i64 ((n0 : Nat) : Int), .int .i64 ((n1 : Nat) : Int), .int .i64 ((n2 : Nat) : Int), .string ⟨sa.toArray⟩, .string ⟨nx.toArray⟩, v] 56 (0, 0))) :
    Calls Tryz.prog 56 #[boxV xb] W fun e w' => PutPost (some (pcs3 n0 n1 n2 sa nx bs)) W e w' := by
  have hmo : Tryz.prog.follows Departure.mixedOrders = true := by kernel_rfl
  have HB : Hid (∀ W', Below W.heap.size W W' → Calls Tryz.prog 55 #[v] W' fun e w' => e = .returned (.string ⟨bs.toArray⟩) ∧ Below W'.heap.size W' w') := fun W' hb => by
    have := bytesOfTypes_in W' v l hl (hv.below hb)
    rw [he] at this
    exact this
  obtain ⟨q, c, hvq, _⟩ := hv
  subst hvq
  have HB0 := Hid.mk (bytes1_yes n0 h0)
  have HB1 := Hid.mk (bytes1_yes n1 h1)
  have HB2 := Hid.mk (bytes2_yes n2 h2)
  have HC3 := Hid.mk (countedF_in sa hsa)
  have HC4 := Hid.mk (countedF_in nx hnx)
  unfold pcs3
  generalize (⟨(bytesB n0 1).toArray⟩ : ByteArray) = q0 at HB0 ⊢
  generalize (⟨(bytesB n1 1).toArray⟩ : ByteArray) = q1 at HB1 ⊢
  generalize (⟨(bytesB n2 2).toArray⟩ : ByteArray) = q2 at HB2 ⊢
  generalize (⟨(cntd sa).toArray⟩ : ByteArray) = q3 at HC3 ⊢
  generalize (⟨(cntd nx).toArray⟩ : ByteArray) = q4 at HC4 ⊢
  generalize (⟨bs.toArray⟩ : ByteArray) = b at HB ⊢
  generalize (⟨sa.toArray⟩ : ByteArray) = s3 at HC3 hx
  generalize (⟨nx.toArray⟩ : ByteArray) = s4 at HC4 hx
  have c0 := (cells_at (v := .int .i64 ((n0 : Nat) : Int)) (j := 0) hx rfl).1
  have c1 := (cells_at (v := .int .i64 ((n1 : Nat) : Int)) (j := 1) hx rfl).1
  have c2 := (cells_at (v := .int .i64 ((n2 : Nat) : Int)) (j := 2) hx rfl).1
  have c3 := (cells_at (v := .string s3) (j := 3) hx rfl).1
  have c4 := (cells_at (v := .string s4) (j := 4) hx rfl).1
  have c5 := (cells_at (v := .slice q l.length c) (j := 5) hx rfl).1
  have HL : Hid (∀ (G : Prop) (A B : World), A.heap[xb]? = some (.cells #[.int .i64 ((n0 : Nat) : Int), .int .i64 ((n1 : Nat) : Int), .int .i64 ((n2 : Nat) : Int), .string s3, .string s4, .slice q l.length c] 56 (0, 0)) → Below W.heap.size W A → Below A.heap.size A B →
      (B.heap[xb]? = some (.cells #[.int .i64 ((n0 : Nat) : Int), .int .i64 ((n1 : Nat) : Int), .int .i64 ((n2 : Nat) : Int), .string s3, .string s4, .slice q l.length c] 56 (0, 0)) → Below W.heap.size W B → B.cell? ⟨xb, 0, none⟩ = some (.int .i64 ((n0 : Nat) : Int)) → B.cell? ⟨xb, 1, none⟩ = some (.int .i64 ((n1 : Nat) : Int)) → B.cell? ⟨xb, 2, none⟩ = some (.int .i64 ((n2 : Nat) : Int)) → B.cell? ⟨xb, 3, none⟩ = some (.string s3) → B.cell? ⟨xb, 4, none⟩ = some (.string s4) → B.cell? ⟨xb, 5, none⟩ = some (.slice q l.length c) → G) → G) := by
    intro G A B hA hW hB hG
    have hB' := (hB.block xb (box_lt hA)).trans hA
    exact hG hB' (bth hW hB hW.size) (cells_at hB' rfl).1 (cells_at hB' rfl).1 (cells_at hB' rfl).1 (cells_at hB' rfl).1 (cells_at hB' rfl).1 (cells_at hB' rfl).1
  have X0 : W.drew.heap[xb]? = some (.cells #[.int .i64 ((n0 : Nat) : Int), .int .i64 ((n1 : Nat) : Int), .int .i64 ((n2 : Nat) : Int), .string s3, .string s4, .slice q l.length c] 56 (0, 0)) := hx
  have B0 : Below W.heap.size W W.drew := (Below.refl _ _).drew
  clear hx
  go_enter Tryz.func56, Tryz.ntmps56
  go_wp2
  go_region_held3 (fun w' => w'.cell? ⟨xb, 0, none⟩ = some (.int .i64 ((n0 : Nat) : Int)) ∧ w'.cell? ⟨xb, 1, none⟩ = some (.int .i64 ((n1 : Nat) : Int)) ∧ w'.cell? ⟨xb, 2, none⟩ = some (.int .i64 ((n2 : Nat) : Int)) ∧ w'.cell? ⟨xb, 3, none⟩ = some (.string s3) ∧ w'.cell? ⟨xb, 4, none⟩ = some (.string s4) ∧ w'.cell? ⟨xb, 5, none⟩ = some (.slice q l.length c)) (first | ((repeat' apply And.intro) <;> assumption) | go_keep)
    (first
      | (have hck := X5; clear hck; go_at_call 55; refine (HB.out _ B5).mono ?_; rintro e x6 ⟨rfl, y6⟩; refine HL.out _ _ x6 X5 B5 y6 ?_; intro X6 B6 d06 d16 d26 d36 d46 d56)
      | (have hck := X4; clear hck; go_at_call 57; refine (HC4.out _).mono ?_; rintro e x5 ⟨rfl, y5⟩; refine HL.out _ _ x5 X4 B4 y5 ?_; intro X5 B5 d05 d15 d25 d35 d45 d55)
      | (have hck := X3; clear hck; go_at_call 57; refine (HC3.out _).mono ?_; rintro e x4 ⟨rfl, y4⟩; refine HL.out _ _ x4 X3 B3 y4 ?_; intro X4 B4 d04 d14 d24 d34 d44 d54)
      | (have hck := X2; clear hck; go_at_call 46; refine (HB2.out _).mono ?_; rintro e x3 ⟨rfl, y3⟩; refine HL.out _ _ x3 X2 B2 y3 ?_; intro X3 B3 d03 d13 d23 d33 d43 d53)
      | (have hck := X1; clear hck; go_at_call 46; refine (HB1.out _).mono ?_; rintro e x2 ⟨rfl, y2⟩; refine HL.out _ _ x2 X1 B1 y2 ?_; intro X2 B2 d02 d12 d22 d32 d42 d52)
      | (have hck := X0; clear hck; go_at_call 46; refine (HB0.out _).mono ?_; rintro e x1 ⟨rfl, y1⟩; refine HL.out _ _ x1 X0 B0 y1 ?_; intro X1 B1 d01 d11 d21 d31 d41 d51))
  have hsm := B6.size
  go_wp2
  go_ret
  exact ⟨⟨_, rfl, row_down (row_lit x6 [q0, q1, q2, q3, q4, b] (by unfold maxLen; simp) (by simp)) hsm⟩, B6.alloc hsm _⟩

set_option maxRecDepth 100000 in
theorem ofNsec3_in (n0 n1 n2 : Nat) (h0 : n0 < 256) (h1 : n1 < 256) (h2 : n2 < 65536) (sa nx : List UInt8) (hsa : sa.length ≤ 255) (hnx : nx.length ≤ 255) (v : Value) (l : List Int) (bs : List UInt8) (hl : l.length ≤ 1000000) (he : encR l = some bs) (W : World) (hv : IntsAt W v l) :
    Calls Tryz.prog 30 #[.agg #[.int .i64 ((n0 : Nat) : Int), .int .i64 ((n1 : Nat) : Int), .int .i64 ((n2 : Nat) : Int), .string ⟨sa.toArray⟩, .string ⟨nx.toArray⟩, v]] W fun e w' => e = .returned (.tuple #[.string (strOf (joinR 50 (some (pcs3 n0 n1 n2 sa nx bs)))), .int .i64 (errOf (joinR 50 (some (pcs3 n0 n1 n2 sa nx bs))))]) ∧ Below W.heap.size W w' := by
  have hmf := mkf
  have hbl := encR_len he
  have hbw : Below W.heap.size W (W.alloc (.cells #[.int .i64 ((n0 : Nat) : Int), .int .i64 ((n1 : Nat) : Int), .int .i64 ((n2 : Nat) : Int), .string ⟨sa.toArray⟩, .string ⟨nx.toArray⟩, v] 56)) := (Below.refl _ _).alloc (Nat.le_refl _) _
  have HJ := Hid.mk (joined_in (W.alloc (.cells #[.int .i64 ((n0 : Nat) : Int), .int .i64 ((n1 : Nat) : Int), .int .i64 ((n2 : Nat) : Int), .string ⟨sa.toArray⟩, .string ⟨nx.toArray⟩, v] 56)) 50 56 #[boxV W.heap.size] (enters_by Tryz.func56 (by kernel_rfl) rfl) (some (pcs3 n0 n1 n2 sa nx bs)) (fun ps e => by
      cases e
      refine ⟨by simp, ?_⟩
      simp only [cat, app_size, ba_size, bytesB_len, cntd, List.length_cons, List.length_nil]
      omega) (fun W' hb => putNsec3_in n0 n1 n2 h0 h1 h2 sa nx hsa hnx v l bs hl he W' ((hv.below hbw).below hb) W.heap.size ((hb.block _ (by simp)).trans (heap_new _ _))))
  generalize joinR 50 (some (pcs3 n0 n1 n2 sa nx bs)) = J at HJ ⊢
  obtain ⟨q, c, hvq, _⟩ := hv
  subst hvq
  go_enter Tryz.func30, Tryz.ntmps30
  go_wp2_with fail
  refine HJ.out.mono ?_
  rintro e w1 ⟨rfl, hb1⟩
  go_wp2
  go_ret2
  exact ⟨rfl, bth hbw hb1 hbw.size⟩

def TakeNsec3 (d : ByteArray) (W : World) (v : Value) (er : Int) : Prop := ∃ (n0 n1 n2 : Nat) (sa nx : List UInt8) (v' : Value) (l : List Int) (bs : List UInt8), v = .agg #[.int .i64 ((n0 : Nat) : Int), .int .i64 ((n1 : Nat) : Int), .int .i64 ((n2 : Nat) : Int), .string ⟨sa.toArray⟩, .string ⟨nx.toArray⟩, v'] ∧ IntsAt W v' l ∧ (n0 < 256 ∧ n1 < 256 ∧ n2 < 65536 ∧ sa.length ≤ 255 ∧ nx.length ≤ 255) ∧ l.length ≤ 1000000 ∧ encR l = some bs ∧
  (er = 0 → joinR 50 (some (pcs3 n0 n1 n2 sa nx bs)) = some d) ∧ (er = 0 ∨ (er = 6 ∧ splitR 50 d = none ∧ v = .agg #[.int .i64 0, .int .i64 0, .int .i64 0, .string ⟨#[]⟩, .string ⟨#[]⟩, .slice none 0 0])) ∧ (er = 0 → ∃ tl : List Nat, l = tl.map (fun n => ((n : Nat) : Int)) ∧ typesR ⟨bs.toArray⟩ = some tl)
theorem cnt_split {p : ByteArray} (h : cntK p = some p.size) : 1 ≤ p.size ∧ ∃ r : List UInt8, r.length ≤ 255 ∧ p.extract 1 p.size = ⟨r.toArray⟩ ∧ p = ⟨(cntd r).toArray⟩ := by
  obtain ⟨b, r, rfl, hb, hm⟩ := cnt_pos h
  have hu := b.toNat_lt
  rw [ba_size, List.length_cons] at hm
  have hr : r.length = b.toNat := by omega
  refine ⟨by rw [ba_size]; simp, r, by omega, ?_, ?_⟩
  · apply ba_ext
    rw [Lib.extract_data, ba_toList, ba_size, ba_toList, List.drop_succ_cons, List.drop_zero]
    exact List.take_of_length_le (by simp)
  · rw [cntd, hr, UInt8.ofNat_toNat]
end Go.Proofs.YtdhcbaennpediaaGreatDoor

/- NSEC3, taken apart. -/
namespace Go.Proofs.YtdhcbaennpediaaGreatDoor
set_option linter.unusedVariables false
open Go.RowKit

set_option maxRecDepth 100000 in
set_option maxHeartbeats 4000000 in
theorem takeNsec3_in (d : ByteArray) (hm : d.size ≤ maxLen) (W : World) :
    Calls Tryz.prog 18 #[.string d] W fun e w' => (∃ v er, e = .returned (.tuple #[v, .int .i64 er]) ∧ TakeNsec3 d w' v er) ∧ Below W.heap.size W w' := by
  have HS := Hid.mk (split_all 50 d hm)
  have hmo : Tryz.prog.follows Departure.mixedOrders = true := by kernel_rfl
  cases hsp : splitR 50 d with
  | none =>
    rw [hsp] at HS
    have HSP := Hid.mk hsp
    clear hsp
    go_enter Tryz.func18, Tryz.ntmps18
    go_wp2_with fail
    refine (HS.out _).mono ?_
    rintro e w1 ⟨rfl, hb1⟩
    have hbx := (hb1.block _ (by simp)).trans (heap_new W (.cells #[.int .i64 0, .int .i64 0, .int .i64 0, .string ⟨#[]⟩, .string ⟨#[]⟩, .slice none 0 0] 56))
    obtain ⟨a0, f0⟩ := cells_at (v := .int .i64 0) (j := 0) hbx rfl
    obtain ⟨a1, f1⟩ := cells_at (v := .int .i64 0) (j := 1) hbx rfl
    obtain ⟨a2, f2⟩ := cells_at (v := .int .i64 0) (j := 2) hbx rfl
    obtain ⟨a3, f3⟩ := cells_at (v := .string ⟨#[]⟩) (j := 3) hbx rfl
    obtain ⟨a4, f4⟩ := cells_at (v := .string ⟨#[]⟩) (j := 4) hbx rfl
    obtain ⟨a5, f5⟩ := cells_at (v := .slice none 0 0) (j := 5) hbx rfl
    have HBX := Hid.mk hbx
    clear hbx
    go_wp2
    have hfin : (((((((w1.setCell ⟨W.heap.size, 0, none⟩ (.int .i64 0)).setCell ⟨W.heap.size, 1, none⟩ (.int .i64 0)).setCell ⟨W.heap.size, 2, none⟩ (.int .i64 0)).setCell ⟨W.heap.size, 3, none⟩ (.string ⟨#[]⟩)).setCell ⟨W.heap.size, 4, none⟩ (.string ⟨#[]⟩)).setCell ⟨W.heap.size, 5, none⟩ (.slice none 0 0))).heap[W.heap.size]? = some (.cells #[.int .i64 0, .int .i64 0, .int .i64 0, .string ⟨#[]⟩, .string ⟨#[]⟩, .slice none 0 0] 56 (0, 0)) := cells_put (j := 5) (cells_put (j := 4) (cells_put (j := 3) (cells_put (j := 2) (cells_put (j := 1) (cells_put (j := 0) (HBX.out) (.int .i64 0)) (.int .i64 0)) (.int .i64 0)) (.string ⟨#[]⟩)) (.string ⟨#[]⟩)) (.slice none 0 0)
    refine bodyPost_ret (v := .tuple #[.agg #[.int .i64 0, .int .i64 0, .int .i64 0, .string ⟨#[]⟩, .string ⟨#[]⟩, .slice none 0 0], .int .i64 6]) (by simp [results, Tryz.results18, go_sem, (cells_at (v := .int .i64 0) (j := 0) hfin rfl).1, (cells_at (v := .int .i64 0) (j := 1) hfin rfl).1, (cells_at (v := .int .i64 0) (j := 2) hfin rfl).1, (cells_at (v := .string ⟨#[]⟩) (j := 3) hfin rfl).1, (cells_at (v := .string ⟨#[]⟩) (j := 4) hfin rfl).1, (cells_at (v := .slice none 0 0) (j := 5) hfin rfl).1]) rfl ⟨⟨_, _, rfl, 0, 0, 0, [], [], .slice none 0 0, [], [], rfl, ⟨none, 0, rfl, fun j hj => by simp at hj⟩, by decide, by simp, rfl, (fun h => by cases h), .inr ⟨rfl, HSP.out, rfl⟩, fun h => by cases h⟩, ?_⟩
    exact (((((((((Below.refl _ _).alloc (Nat.le_refl _) _).trans (hb1.mono (by simp)))).setCell (p := ⟨W.heap.size, 0, none⟩) (Nat.le_refl _) _).setCell (p := ⟨W.heap.size, 1, none⟩) (Nat.le_refl _) _).setCell (p := ⟨W.heap.size, 2, none⟩) (Nat.le_refl _) _).setCell (p := ⟨W.heap.size, 3, none⟩) (Nat.le_refl _) _).setCell (p := ⟨W.heap.size, 4, none⟩) (Nat.le_refl _) _).setCell (p := ⟨W.heap.size, 5, none⟩) (Nat.le_refl _) _
  | some ps =>
    obtain ⟨p0, p1, p2, p3, p4, p5, hps⟩ : ∃ p0 p1 p2 p3 p4 p5, ps = [p0, p1, p2, p3, p4, p5] := by
      have hl := ((split_iff 50 d ps).1 hsp).2.2.2.len
      match ps, hl with
      | [p0, p1, p2, p3, p4, p5], _ => exact ⟨_, _, _, _, _, _, rfl⟩
    subst hps
    obtain ⟨hk, hs, hd, hg⟩ := (split_iff 50 d _).1 hsp
    have hg' : p0.size = 1 ∧ p1.size = 1 ∧ p2.size = 2 ∧ cntK p3 = some p3.size ∧ (cntK p4 = some p4.size ∧ 1 < p4.size) ∧ (typesR p5).isSome = true ∧ True := hg
    obtain ⟨g0, g1, g2, g3, ⟨g4, _⟩, g5, _⟩ := hg'
    obtain ⟨tl, htl⟩ := Option.isSome_iff_exists.1 g5
    obtain ⟨hrise, hp5⟩ := typesR_back htl
    obtain ⟨z3, r3, hr3, hx3, hc3⟩ := cnt_split g3
    obtain ⟨z4, r4, hr4, hx4, hc4⟩ := cnt_split g4
    have hcs : p0.size + p1.size + p2.size + p3.size + p4.size + p5.size ≤ 2000 := by
      rw [hd] at hs
      simp only [cat, app_size] at hs
      have : (⟨#[]⟩ : ByteArray).size = 0 := rfl
      omega
    have hrl : tl.length ≤ 1000000 := by
      rcases rise_len tl (-1) hrise with h | rfl
      · omega
      · simp
    have e0 : (⟨(bytesB (numB p0.data.toList) 1).toArray⟩ : ByteArray) = p0 := by
      apply ba_ext
      have := bytesB_num p0.data.toList (by rw [size_list]; omega)
      rw [size_list, g0] at this
      exact this
    have e1 : (⟨(bytesB (numB p1.data.toList) 1).toArray⟩ : ByteArray) = p1 := by
      apply ba_ext
      have := bytesB_num p1.data.toList (by rw [size_list]; omega)
      rw [size_list, g1] at this
      exact this
    have e2 : (⟨(bytesB (numB p2.data.toList) 2).toArray⟩ : ByteArray) = p2 := by
      apply ba_ext
      have := bytesB_num p2.data.toList (by rw [size_list]; omega)
      rw [size_list, g2] at this
      exact this
    have HTK : Hid (encR (tl.map fun n => ((n : Nat) : Int)) = some (encT tl) ∧ joinR 50 (some (pcs3 (numB p0.data.toList) (numB p1.data.toList) (numB p2.data.toList) r3 r4 (encT tl))) = some d ∧ typesR ⟨(encT tl).toArray⟩ = some tl) := by
      refine ⟨encR_rise hrise, ?_, by rw [← hp5]; exact htl⟩
      rw [pcs3, e0, e1, e2, ← hc3, ← hc4, ← hp5, joinR, ← hd, hsp]
      exact if_pos rfl
    have HBD : Hid (numB p0.data.toList < 256 ∧ numB p1.data.toList < 256 ∧ numB p2.data.toList < 65536) := by
      have l0 := numB_lt p0.data.toList
      have l1 := numB_lt p1.data.toList
      have l2 := numB_lt p2.data.toList
      rw [size_list, g0] at l0
      rw [size_list, g1] at l1
      rw [size_list, g2] at l2
      exact ⟨by simpa using l0, by simpa using l1, by simpa using l2⟩
    have HTY := Hid.mk (fun w => typesOf_in w p5 (by omega))
    rw [htl] at HTY
    rw [hsp] at HS
    have HN0 := Hid.mk (number_in p0 (by omega))
    have HN1 := Hid.mk (number_in p1 (by omega))
    have HN2 := Hid.mk (number_in p2 (by omega))
    generalize numB p0.data.toList = m0 at HN0 HTK HBD e0
    generalize numB p1.data.toList = m1 at HN1 HTK HBD e1
    generalize numB p2.data.toList = m2 at HN2 HTK HBD e2
    have hi3 : (1 : Int) ≤ (p3.size : Int) := by omega
    have hi4 : (1 : Int) ≤ (p4.size : Int) := by omega
    have hz3 : p3.size ≤ 2000 := by omega
    have hz4 : p4.size ≤ 2000 := by omega
    clear hsp hg g5 hp5 htl hd hs hrise e0 e1 e2 g0 g1 g2 g3 g4 hc3 hc4 z3 z4
    go_enter Tryz.func18, Tryz.ntmps18
    go_wp2_with fail
    refine (HS.out _).mono ?_
    rintro e w1 ⟨⟨v, rfl, hrow⟩, hb1⟩
    obtain ⟨q, c, hv⟩ := row_as hrow
    subst hv
    obtain ⟨g, hq, hgl, _⟩ := row_cell hrow 0 (by simp)
    subst hq
    obtain ⟨_, _, hgb⟩ := row_frozen (j := 0) hrow (by simp)
    simp only [World.size_alloc] at hgb
    have hgne : g ≠ W.heap.size := by omega
    have hoff : ∀ (X : World) (j i : Nat) (v : Value), (X.setCell ⟨W.heap.size, j, none⟩ v).cell? ⟨g, i, none⟩ = X.cell? ⟨g, i, none⟩ := fun X j i v => by simp only [World.cell?, Below.heap_setCell X ⟨W.heap.size, j, none⟩ v g hgne]
    have hdr : ∀ (X : World) (i : Nat), X.drew.cell? ⟨g, i, none⟩ = X.cell? ⟨g, i, none⟩ := fun _ _ => rfl
    have r00 : w1.cell? ⟨g, 0, none⟩ = some (.string p0) := row_at hrow 0 p0 rfl
    have r11 : w1.cell? ⟨g, 1, none⟩ = some (.string p1) := row_at hrow 1 p1 rfl
    have r22 : w1.cell? ⟨g, 2, none⟩ = some (.string p2) := row_at hrow 2 p2 rfl
    have r33 : w1.cell? ⟨g, 3, none⟩ = some (.string p3) := row_at hrow 3 p3 rfl
    have r44 : w1.cell? ⟨g, 4, none⟩ = some (.string p4) := row_at hrow 4 p4 rfl
    have r55 : w1.cell? ⟨g, 5, none⟩ = some (.string p5) := row_at hrow 5 p5 rfl
    have hbx := (hb1.block _ (by simp)).trans (heap_new W (.cells #[.int .i64 0, .int .i64 0, .int .i64 0, .string ⟨#[]⟩, .string ⟨#[]⟩, .slice none 0 0] 56))
    have HL : Hid (∀ (G : Prop) (v1 : Value) (x1 : World), x1.ownsRow w1.drew.heap.size 3 1 v1 tl.length (intsV tl) → Below w1.drew.heap.size w1.drew x1 →
        (∀ q1 c1, v1 = .slice q1 tl.length c1 → x1.cell? ⟨g, 0, none⟩ = some (.string p0) → x1.cell? ⟨g, 1, none⟩ = some (.string p1) → x1.cell? ⟨g, 2, none⟩ = some (.string p2) → x1.cell? ⟨g, 3, none⟩ = some (.string p3) → x1.cell? ⟨g, 4, none⟩ = some (.string p4) → x1.cell? ⟨g, 5, none⟩ = some (.string p5) → x1.heap[W.heap.size]? = some (.cells #[.int .i64 0, .int .i64 0, .int .i64 0, .string ⟨#[]⟩, .string ⟨#[]⟩, .slice none 0 0] 56 (0, 0)) → x1.cell? ⟨W.heap.size, 0, none⟩ = some (.int .i64 0) → x1.frozen? ⟨W.heap.size, 0, none⟩ = false → x1.cell? ⟨W.heap.size, 1, none⟩ = some (.int .i64 0) → x1.frozen? ⟨W.heap.size, 1, none⟩ = false → x1.cell? ⟨W.heap.size, 2, none⟩ = some (.int .i64 0) → x1.frozen? ⟨W.heap.size, 2, none⟩ = false → x1.cell? ⟨W.heap.size, 3, none⟩ = some (.string ⟨#[]⟩) → x1.frozen? ⟨W.heap.size, 3, none⟩ = false → x1.cell? ⟨W.heap.size, 4, none⟩ = some (.string ⟨#[]⟩) → x1.frozen? ⟨W.heap.size, 4, none⟩ = false → x1.cell? ⟨W.heap.size, 5, none⟩ = some (.slice none 0 0) → x1.frozen? ⟨W.heap.size, 5, none⟩ = false → Below w1.heap.size w1 x1 → G) → G) := by
      intro G v1 x1 hr hb hG
      obtain ⟨q1, c1, hv1⟩ := row_as hr
      have hb' : Below w1.heap.size w1 x1 := ⟨hb.os, hb.tape, hb.output, hb.size, hb.block⟩
      have hx1 := (hb'.block _ (box_lt hbx)).trans hbx
      exact hG q1 c1 hv1 ((hb'.cell (p := ⟨g, 0, none⟩) hgl).trans r00) ((hb'.cell (p := ⟨g, 1, none⟩) hgl).trans r11) ((hb'.cell (p := ⟨g, 2, none⟩) hgl).trans r22) ((hb'.cell (p := ⟨g, 3, none⟩) hgl).trans r33) ((hb'.cell (p := ⟨g, 4, none⟩) hgl).trans r44) ((hb'.cell (p := ⟨g, 5, none⟩) hgl).trans r55) hx1 (cells_at (v := .int .i64 0) (j := 0) hx1 rfl).1 (cells_at (v := .int .i64 0) (j := 0) hx1 rfl).2 (cells_at (v := .int .i64 0) (j := 1) hx1 rfl).1 (cells_at (v := .int .i64 0) (j := 1) hx1 rfl).2 (cells_at (v := .int .i64 0) (j := 2) hx1 rfl).1 (cells_at (v := .int .i64 0) (j := 2) hx1 rfl).2 (cells_at (v := .string ⟨#[]⟩) (j := 3) hx1 rfl).1 (cells_at (v := .string ⟨#[]⟩) (j := 3) hx1 rfl).2 (cells_at (v := .string ⟨#[]⟩) (j := 4) hx1 rfl).1 (cells_at (v := .string ⟨#[]⟩) (j := 4) hx1 rfl).2 (cells_at (v := .slice none 0 0) (j := 5) hx1 rfl).1 (cells_at (v := .slice none 0 0) (j := 5) hx1 rfl).2 hb'
    have mk0 : True := trivial
    clear hrow hbx
    go_wp2
    go_region_held3 (fun w' => w'.cell? ⟨g, 0, none⟩ = some (.string p0) ∧ w'.cell? ⟨g, 1, none⟩ = some (.string p1) ∧ w'.cell? ⟨g, 2, none⟩ = some (.string p2) ∧ w'.cell? ⟨g, 3, none⟩ = some (.string p3) ∧ w'.cell? ⟨g, 4, none⟩ = some (.string p4) ∧ w'.cell? ⟨g, 5, none⟩ = some (.string p5)) (first | ((repeat' apply And.intro) <;> (first | (simp only [hoff, hdr]; with_reducible assumption) | with_reducible assumption)) | go_keep)
      (first
        | (have hck := mk3; clear hck; go_at_call 41; refine (HTY.out _).mono ?_; rintro e x1 ⟨⟨v1, rfl, hrow1⟩, y1⟩; refine HL.out _ v1 x1 hrow1 y1 ?_; intro q1 c1 hv1 s0 s1 s2 s3 s4 s5 hx1 b0 f0 b1 f1 b2 f2 b3 f3 b4 f4 b5 f5 hbb; subst hv1)
        | (have hck := mk2; clear hck; go_at_call 37; refine (HN2.out _).mono ?_; rintro e y3 ⟨rfl, rfl⟩; have mk3 : True := trivial)
        | (have hck := mk1; clear hck; go_at_call 37; refine (HN1.out _).mono ?_; rintro e y2 ⟨rfl, rfl⟩; have mk2 : True := trivial)
        | (have hck := mk0; clear hck; go_at_call 37; refine (HN0.out _).mono ?_; rintro e y1 ⟨rfl, rfl⟩; have mk1 : True := trivial))
    go_wp2
    have hfin : (((((((x1.setCell ⟨W.heap.size, 0, none⟩ (.int .i64 ((m0 : Nat) : Int))).setCell ⟨W.heap.size, 1, none⟩ (.int .i64 ((m1 : Nat) : Int))).setCell ⟨W.heap.size, 2, none⟩ (.int .i64 ((m2 : Nat) : Int))).setCell ⟨W.heap.size, 3, none⟩ (.string ⟨r3.toArray⟩)).setCell ⟨W.heap.size, 4, none⟩ (.string ⟨r4.toArray⟩)).setCell ⟨W.heap.size, 5, none⟩ (.slice q1 tl.length c1))).heap[W.heap.size]? = some (.cells #[.int .i64 ((m0 : Nat) : Int), .int .i64 ((m1 : Nat) : Int), .int .i64 ((m2 : Nat) : Int), .string ⟨r3.toArray⟩, .string ⟨r4.toArray⟩, .slice q1 tl.length c1] 56 (0, 0)) := cells_put (j := 5) (cells_put (j := 4) (cells_put (j := 3) (cells_put (j := 2) (cells_put (j := 1) (cells_put (j := 0) (hx1) (.int .i64 ((m0 : Nat) : Int))) (.int .i64 ((m1 : Nat) : Int))) (.int .i64 ((m2 : Nat) : Int))) (.string ⟨r3.toArray⟩)) (.string ⟨r4.toArray⟩)) (.slice q1 tl.length c1)
    have hW1 : W.heap.size < w1.heap.size := by have := hb1.size; simp at this; omega
    have hin : IntsAt (((((((x1.setCell ⟨W.heap.size, 0, none⟩ (.int .i64 ((m0 : Nat) : Int))).setCell ⟨W.heap.size, 1, none⟩ (.int .i64 ((m1 : Nat) : Int))).setCell ⟨W.heap.size, 2, none⟩ (.int .i64 ((m2 : Nat) : Int))).setCell ⟨W.heap.size, 3, none⟩ (.string ⟨r3.toArray⟩)).setCell ⟨W.heap.size, 4, none⟩ (.string ⟨r4.toArray⟩)).setCell ⟨W.heap.size, 5, none⟩ (.slice q1 tl.length c1))) (.slice q1 tl.length c1) (tl.map fun n => ((n : Nat) : Int)) := by
      have h1 := hrow1
      replace h1 := ownsRow_setCell_below h1 (a := ⟨W.heap.size, 0, none⟩) hW1 (.int .i64 ((m0 : Nat) : Int))
      replace h1 := ownsRow_setCell_below h1 (a := ⟨W.heap.size, 1, none⟩) hW1 (.int .i64 ((m1 : Nat) : Int))
      replace h1 := ownsRow_setCell_below h1 (a := ⟨W.heap.size, 2, none⟩) hW1 (.int .i64 ((m2 : Nat) : Int))
      replace h1 := ownsRow_setCell_below h1 (a := ⟨W.heap.size, 3, none⟩) hW1 (.string ⟨r3.toArray⟩)
      replace h1 := ownsRow_setCell_below h1 (a := ⟨W.heap.size, 4, none⟩) hW1 (.string ⟨r4.toArray⟩)
      replace h1 := ownsRow_setCell_below h1 (a := ⟨W.heap.size, 5, none⟩) hW1 (.slice q1 tl.length c1)
      exact ints_of_row (W := ((((((x1.setCell ⟨W.heap.size, 0, none⟩ (.int .i64 ((m0 : Nat) : Int))).setCell ⟨W.heap.size, 1, none⟩ (.int .i64 ((m1 : Nat) : Int))).setCell ⟨W.heap.size, 2, none⟩ (.int .i64 ((m2 : Nat) : Int))).setCell ⟨W.heap.size, 3, none⟩ (.string ⟨r3.toArray⟩)).setCell ⟨W.heap.size, 4, none⟩ (.string ⟨r4.toArray⟩)).setCell ⟨W.heap.size, 5, none⟩ (.slice q1 tl.length c1))) h1
    refine bodyPost_ret (v := .tuple #[.agg #[.int .i64 ((m0 : Nat) : Int), .int .i64 ((m1 : Nat) : Int), .int .i64 ((m2 : Nat) : Int), .string ⟨r3.toArray⟩, .string ⟨r4.toArray⟩, .slice q1 tl.length c1], .int .i64 0]) (by simp [results, Tryz.results18, go_sem, (cells_at (v := .int .i64 ((m0 : Nat) : Int)) (j := 0) hfin rfl).1, (cells_at (v := .int .i64 ((m1 : Nat) : Int)) (j := 1) hfin rfl).1, (cells_at (v := .int .i64 ((m2 : Nat) : Int)) (j := 2) hfin rfl).1, (cells_at (v := .string ⟨r3.toArray⟩) (j := 3) hfin rfl).1, (cells_at (v := .string ⟨r4.toArray⟩) (j := 4) hfin rfl).1, (cells_at (v := .slice q1 tl.length c1) (j := 5) hfin rfl).1]) rfl ⟨⟨_, _, rfl, m0, m1, m2, r3, r4, .slice q1 tl.length c1, _, _, rfl, hin, ⟨HBD.out.1, HBD.out.2.1, HBD.out.2.2, hr3, hr4⟩, by simpa using hrl, HTK.out.1, fun _ => HTK.out.2.1, .inl rfl, fun _ => ⟨_, rfl, HTK.out.2.2⟩⟩, ?_⟩
    have hW2 : Below W.heap.size W x1 := (((Below.refl _ _).alloc (Nat.le_refl _) _).trans (hb1.mono (by simp))).trans (hbb.mono (by omega))
    exact ((((((hW2).setCell (p := ⟨W.heap.size, 0, none⟩) (Nat.le_refl _) _).setCell (p := ⟨W.heap.size, 1, none⟩) (Nat.le_refl _) _).setCell (p := ⟨W.heap.size, 2, none⟩) (Nat.le_refl _) _).setCell (p := ⟨W.heap.size, 3, none⟩) (Nat.le_refl _) _).setCell (p := ⟨W.heap.size, 4, none⟩) (Nat.le_refl _) _).setCell (p := ⟨W.heap.size, 5, none⟩) (Nat.le_refl _) _
end Go.Proofs.YtdhcbaennpediaaGreatDoor

/- Facts for DataRises: what types that rise are put down as, and read. -/
namespace Go.Proofs.YtdhcbaennpediaaGreatDoor
set_option linter.unusedVariables false
open Go.RowKit

theorem addT_count (ws : List Win) (k : Nat) : (addT ws k).length ≤ ws.length + 1 := by
  unfold addT
  split
  · rename_i p h
    split
    · cases ws with
      | nil => simp at h
      | cons x r => simp [List.length_dropLast]
    · simp
  · simp
theorem addAll_count : ∀ (l : List Nat) (ws : List Win), (l.foldl addT ws).length ≤ ws.length + l.length
  | [], ws => by simp
  | k :: r, ws => by
    have h1 := addAll_count r (addT ws k)
    have h2 := addT_count ws k
    rw [List.foldl_cons, List.length_cons]
    omega
theorem encW_short : ∀ (ws : List Win) (last : Int), OkW last ws → (encW ws).length ≤ 34 * ws.length
  | [], _, _ => by simp [encW]
  | p :: r, last, ⟨h1, h2, h3, h4, h5⟩ => by
    have := encW_short r p.1 h5
    simp [encW]
    omega
theorem encT_short {l : List Nat} (h : Rise (-1) l) : (encT l).length ≤ 34 * l.length := by
  obtain ⟨a1, _⟩ := addAll_ok l [] (-1) trivial (by simp [tysW]) h
  have h1 := encW_short _ _ a1
  have h2 := addAll_count l []
  unfold encT
  simp at h2
  omega
theorem name_root : IsName ⟨#[0]⟩ := by
  refine ⟨[], ?_, rfl⟩
  constructor
  all_goals simp [flat]
/-- NSEC of types that rise. -/
theorem nsec_rise {l : List Nat} (h : Rise (-1) l) (hl : l.length ≤ 40) : splitR 47 (cat [⟨#[0]⟩, ⟨(encT l).toArray⟩]) = some [⟨#[0]⟩, ⟨(encT l).toArray⟩] := by
  have hs := encT_short h
  refine (split_iff 47 _ _).2 ⟨by omega, ?_, rfl, ?_⟩
  · simp only [cat, app_size, ba_size, List.length_cons, List.length_nil]
    omega
  · exact ⟨name_root, by show (typesR _).isSome = true; rw [typesR_enc h]; rfl, trivial⟩
theorem nsec_join {l : List Nat} (h : Rise (-1) l) (hl : l.length ≤ 40) : joinR 47 (some [⟨#[0]⟩, ⟨(encT l).toArray⟩]) = some (cat [⟨#[0]⟩, ⟨(encT l).toArray⟩]) := if_pos (nsec_rise h hl)
theorem nsec_took {l : List Nat} (h : Rise (-1) l) (hl : l.length ≤ 40) {W : World} {v : Value} {er : Int} (ht : TakeNsec (cat [⟨#[0]⟩, ⟨(encT l).toArray⟩]) W v er) :
    er = 0 ∧ ∃ nx v', v = .agg #[.string nx, v'] ∧ IntsAt W v' (l.map fun n => ((n : Nat) : Int)) := by
  obtain ⟨nx, v', l', bs, rfl, hi, _, _, _, hj, he, hty⟩ := ht
  have hsp := nsec_rise h hl
  have he0 : er = 0 := by
    rcases he with he | ⟨_, he, _⟩
    · exact he
    · rw [hsp] at he; cases he
  refine ⟨he0, nx, v', rfl, ?_⟩
  obtain ⟨tl, rfl, htl⟩ := hty he0
  have hjj := hj he0
  rw [joinR] at hjj
  split at hjj
  · rename_i hs
    rw [Option.some.inj hjj, hsp] at hs
    have e := (List.cons.inj (Option.some.inj hs)).2
    have e2 := (List.cons.inj e).1
    rw [← e2, typesR_enc h] at htl
    rw [Option.some.inj htl]
    exact hi
  · cases hjj
/-- NSEC3 of types that rise. -/
theorem nsec3_rise {l : List Nat} (h : Rise (-1) l) (hl : l.length ≤ 40) : splitR 50 (cat (pcs3 1 0 0 [] [110] (encT l))) = some (pcs3 1 0 0 [] [110] (encT l)) := by
  have hs := encT_short h
  refine (split_iff 50 _ _).2 ⟨by omega, ?_, rfl, ?_⟩
  · simp only [cat, app_size, ba_size, bytesB_len, cntd, List.length_cons, List.length_nil]
    omega
  · refine ⟨?_, ?_, ?_, ?_, ⟨?_, ?_⟩, ?_, trivial⟩
    · show (⟨(bytesB 1 1).toArray⟩ : ByteArray).size = 1
      rw [ba_size, bytesB_len]
    · show (⟨(bytesB 0 1).toArray⟩ : ByteArray).size = 1
      rw [ba_size, bytesB_len]
    · show (⟨(bytesB 0 2).toArray⟩ : ByteArray).size = 2
      rw [ba_size, bytesB_len]
    · rfl
    · rfl
    · show 1 < (⟨(cntd [110]).toArray⟩ : ByteArray).size
      rw [ba_size]; simp [cntd]
    · show (typesR _).isSome = true
      rw [typesR_enc h]; rfl
theorem nsec3_join {l : List Nat} (h : Rise (-1) l) (hl : l.length ≤ 40) : joinR 50 (some (pcs3 1 0 0 [] [110] (encT l))) = some (cat (pcs3 1 0 0 [] [110] (encT l))) := if_pos (nsec3_rise h hl)
theorem nsec3_took {l : List Nat} (h : Rise (-1) l) (hl : l.length ≤ 40) {W : World} {v : Value} {er : Int} (ht : TakeNsec3 (cat (pcs3 1 0 0 [] [110] (encT l))) W v er) :
    er = 0 ∧ ∃ (n0 n1 n2 : Nat) (sa nx : List UInt8) (v' : Value), v = .agg #[.int .i64 ((n0 : Nat) : Int), .int .i64 ((n1 : Nat) : Int), .int .i64 ((n2 : Nat) : Int), .string ⟨sa.toArray⟩, .string ⟨nx.toArray⟩, v'] ∧ IntsAt W v' (l.map fun n => ((n : Nat) : Int)) := by
  obtain ⟨n0, n1, n2, sa, nx, v', l', bs, rfl, hi, _, _, _, hj, he, hty⟩ := ht
  have hsp := nsec3_rise h hl
  have he0 : er = 0 := by
    rcases he with he | ⟨_, he, _⟩
    · exact he
    · rw [hsp] at he; cases he
  refine ⟨he0, n0, n1, n2, sa, nx, v', rfl, ?_⟩
  obtain ⟨tl, rfl, htl⟩ := hty he0
  have hjj := hj he0
  rw [joinR] at hjj
  split at hjj
  · rename_i hs
    rw [Option.some.inj hjj, hsp] at hs
    simp only [pcs3, Option.some.injEq, List.cons.injEq] at hs
    rw [← hs.2.2.2.2.2.1, typesR_enc h] at htl
    rw [Option.some.inj htl]
    exact hi
  · cases hjj
/-- types turned round do not rise. -/
theorem back_none {l : List Nat} (h : Rise (-1) l) (h2 : 2 ≤ l.length) : encR ((l.reverse).map fun n => ((n : Nat) : Int)) = none := by
  have hp := Rise.pw h
  cases hr : l.reverse with
  | nil => rw [List.reverse_eq_nil_iff] at hr; subst hr; simp at h2
  | cons a r =>
    cases r with
    | nil =>
      have := congrArg List.length hr
      simp at this
      omega
    | cons b r =>
      have hlt : b < a := by
        have hpr : l.reverse.Pairwise (fun x y => y < x) := List.pairwise_reverse.2 hp
        rw [hr, List.pairwise_cons] at hpr
        exact hpr.1 b (by simp)
      rw [encR, List.map_cons, List.map_cons, encGo]
      split
      · rw [encGo, if_neg (by omega)]; rfl
      · rfl
end Go.Proofs.YtdhcbaennpediaaGreatDoor
