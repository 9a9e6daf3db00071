/- Texts of this proof, joined: ZCh, Child, ZNo, ZNn, ZNsec. -/
import Derived.Test.YtaiakpigljcjbaaGreatDoorJ12
import Derived.Test.YtaiakpigljcjbaaGreatDoorJ11
/- A chain: covering, matching. -/
namespace Go.Proofs.YtaiakpigljcjbaaGreatDoor
set_option linter.unusedVariables false
set_option linter.unusedSimpArgs false
open Go.RowKit
attribute [local go_sem ↓] storeAt_lk loadAt_lk
/-- links in a row. -/
def ChAt (W : World) (v : Value) (ks : List Lk) : Prop := ∃ q cap, v = .slice q ks.length cap ∧ ∀ j (h : j < ks.length), ∃ g a b c, q = some ⟨g, 0, none⟩ ∧ g < W.heap.size ∧ W.cell? ⟨g, j * 3, none⟩ = some a ∧ W.cell? ⟨g, j * 3 + 1, none⟩ = some b ∧ W.cell? ⟨g, j * 3 + 2, none⟩ = some c ∧ LkAt W ks[j] a b c
theorem ChAt.blk {W W' : World} {v : Value} {ks : List Lk} (h : ChAt W v ks) (hb : Below W.heap.size W W') : ChAt W' v ks := by
  obtain ⟨q, cap, hv, hc⟩ := h
  refine ⟨q, cap, hv, fun j hj => ?_⟩
  obtain ⟨g, a, b, c, hq, hg, h0, h1, h2, h3⟩ := hc j hj
  exact ⟨g, a, b, c, hq, Nat.lt_of_lt_of_le hg hb.size, (hb.cell (p := ⟨g, j * 3, none⟩) hg).trans h0, (hb.cell (p := ⟨g, j * 3 + 1, none⟩) hg).trans h1, (hb.cell (p := ⟨g, j * 3 + 2, none⟩) hg).trans h2, h3.blk hb⟩
def ChOk (ks : List Lk) : Prop := ks.length ≤ 100000 ∧ ∀ k ∈ ks, k.Ok
/-- a link that was found, or none. -/
def Found (W : World) (r : Option Lk) (a b c : Value) (f : Bool) : Prop := match r with
  | some k => f = true ∧ LkAt W k a b c
  | none => f = false ∧ a.oneCell' = true ∧ b.oneCell' = true ∧ c.oneCell' = true
theorem Fm.tl {W w : World} {x : Nat × Obj} {l : List (Nat × Obj)} (h : Fm W (x :: l) w) : Fm W l w := ⟨fun i b o e => h.has (i + 1) b o (by simpa using e), fun p hp => h.own p (List.mem_cons_of_mem _ hp), (List.nodup_cons.1 h.nd).2, h.bel⟩
theorem find_at (p : Lk → Bool) {ks : List Lk} {i : Nat} (hi : i < ks.length) (hp : p ks[i] = true) (hno : ∀ j (hj : j < ks.length), j < i → p ks[j] = false) : ks.find? p = some ks[i] := by
  rw [List.find?_eq_some_iff_getElem]
  exact ⟨hp, i, hi, rfl, fun j hj => by rw [hno j (by omega) hj]; rfl⟩
theorem find_none {p : Lk → Bool} {ks : List Lk} (hno : ∀ j (hj : j < ks.length), p ks[j] = false) : ks.find? p = none := by
  rw [List.find?_eq_none]
  intro k hk
  obtain ⟨j, hj, rfl⟩ := List.getElem_of_mem hk
  rw [hno j hj]
  simp
theorem lkLoad_mid {W : World} {g o : Nat} {a b c : Value} (h0 : W.cell? ⟨g, o, none⟩ = some a) (h1 : W.cell? ⟨g, o + 1, none⟩ = some b) (h2 : W.cell? ⟨g, o + 2, none⟩ = some c) : (lkLoad (.pointer (some ⟨g, o, none⟩))).run Tryz.prog W = .ok (.agg #[a, b, c]) W := by
  refine run_loadAt_mid W g o _ [a, b, c] _ (fun j v hv => ?_) Tryz.underlying95 rfl (by exact sizeLk)
  match j, hv with
  | 0, hv => cases hv; exact h0
  | 1, hv => cases hv; exact h1
  | 2, hv => cases hv; exact h2
set_option maxRecDepth 100000 in
set_option maxHeartbeats 2000000 in
theorem covering_in (ks : List Lk) (n : List (List UInt8)) (hks : ChOk ks) (hn : OkN n) (v : Value) (W : World) (h : ChAt W v ks) :
    Calls Tryz.prog 68 #[v, .string (nm n)] W fun e w' => (∃ a b c f, e = .returned (.tuple #[.agg #[a, b, c], .bool f]) ∧ Found w' (ks.find? (covB · n)) a b c f) ∧ Below W.heap.size W w' := by
  obtain ⟨q, cap, rfl, hc⟩ := id h
  have HH := Hid.mk h
  have HC := Hid.mk hc
  have HK := Hid.mk hks.2
  have hml := hks.1
  obtain ⟨m, hm⟩ : ∃ m, ks.length = m := ⟨_, rfl⟩
  have HM := Hid.mk hm
  rw [hm] at hml ⊢
  have HP : Hid (∀ k ∈ ks, ∀ a b c w, LkAt w k a b c → Calls Tryz.prog 74 #[.agg #[a, b, c], .string (nm n)] w fun e w' => e = .returned (.bool (covB k n)) ∧ Below w.heap.size w w') := fun k hk a b c w hl => covers_in k a b c n (hks.2 k hk) hn w hl
  generalize nm n = sn at HP ⊢
  clear hm hks h hc hn
  obtain ⟨V, hV, F⟩ : ∃ V, W.alloc (Obj.cells #[.string ⟨#[]⟩, .string ⟨#[]⟩, .slice none 0 0] 95 (0, 0)) = V ∧ Fm W [(W.heap.size, Obj.cells #[.string ⟨#[]⟩, .string ⟨#[]⟩, .slice none 0 0] 95 (0, 0))] V := ⟨_, rfl, Fm.box1 W _⟩
  go_enter Tryz.func68, Tryz.ntmps68
  go_upto_region 1 with fail
  clear hV
  go_wp2_with fail
  go_loopw [10] (fun iv wr => ∃ i : Nat, i ≤ m ∧ iv = .int .i64 (i : Int) ∧ Fm W [(W.heap.size, Obj.cells #[.string ⟨#[]⟩, .string ⟨#[]⟩, .slice none 0 0] 95 (0, 0))] wr ∧ Hid (∀ j (hj : j < ks.length), j < i → covB ks[j] n = false)) (fun iv _ => m - (intOf iv).toNat)
  case atStart => exact ⟨0, Nat.zero_le _, rfl, F, fun j _ hj => absurd hj (Nat.not_lt_zero _)⟩
  case round =>
    obtain ⟨i, hi, rfl, Fr, hno⟩ := hrel
    clear F
    by_cases hlt : i < m
    · have hil : i < ks.length := by rw [HM.out]; exact hlt
      obtain ⟨g, a, b, c, rfl, hg, h0, h1, h2, hl⟩ := HC.out i hil
      obtain ⟨o1, o2, o3⟩ := hl.one
      obtain ⟨kk, hkk⟩ : ∃ kk, ks[i] = kk := ⟨_, rfl⟩
      have HPi := Hid.mk (HP.out kk (by rw [← hkk]; exact List.getElem_mem _) a b c)
      have HFA : Hid (covB kk n = true → ks.find? (covB · n) = some kk) := fun hA1 => by rw [← hkk]; exact find_at _ hil (by rw [hkk]; exact hA1) hno
      have HNA : Hid (covB kk n = false → ∀ j (hj : j < ks.length), j < i + 1 → covB ks[j] n = false)   := fun hA1 j hj hji => by
        rcases Nat.lt_succ_iff_lt_or_eq.1 hji with h | h
        · exact hno j hj h
        · subst h
          rw [hkk]
          exact hA1
      rw [hkk] at hl
      have HL := Hid.mk hl
      have hi' : (i : Int) < (m : Int) := by omega
      obtain ⟨D, hD⟩ : ∃ D, covB kk n = D := ⟨_, rfl⟩
      rw [hD] at HPi HFA HNA
      clear hD hl hil hkk hno
      have k0 : wr.cell? ⟨g, i * 3, none⟩ = some a := (Fr.bel.cell (p := ⟨g, i * 3, none⟩) hg).trans h0
      have k1 : wr.cell? ⟨g, i * 3 + 1, none⟩ = some b := (Fr.bel.cell (p := ⟨g, i * 3 + 1, none⟩) hg).trans h1
      have k2 : wr.cell? ⟨g, i * 3 + 2, none⟩ = some c := (Fr.bel.cell (p := ⟨g, i * 3 + 2, none⟩) hg).trans h2
      have ld := lkLoad_mid k0 k1 k2
      have st := lkst1 wr a b c (.string ⟨#[]⟩) (.string ⟨#[]⟩) (.slice none 0 0) o1 o2 o3
      clear h0 h1 h2 k0 k1 k2
      go_upto_region 4 with fail
      have F2 := Fr.new (Obj.cells #[a, b, c] 95 (0, 0))
      clear ld st Fr
      generalize wr.alloc (Obj.cells #[a, b, c] 95 (0, 0)) = z at F2 ⊢
      generalize wr.heap.size = b7 at F2 ⊢
      have l7 := lkLoad_run (F2.get 0 rfl)
      go_wp2_with fail
      refine (HPi.out _ (HL.out.blk F2.bel)).mono ?_
      rintro e w2 ⟨rfl, hb⟩
      replace F2 := F2.blk hb
      clear hb l7
      cases D with
      | true =>
        have HFi := Hid.mk (HFA.out rfl)
        have l7 := lkLoad_run (F2.get 0 rfl)
        have s4 := lkStore_run (x' := a) (y' := b) (z' := c) (F2.get 1 rfl) o1 o2 o3
        have F4 := F2.put 1 #[a, b, c] rfl
        go_wp2
        refine bodyPost_ret (results_lk_tmp Tryz.results68 rfl rfl (F4.get 1 rfl)) rfl ⟨⟨a, b, c, true, rfl, ?_⟩, F4.bel⟩
        rw [HFi.out]
        exact ⟨rfl, HL.out.blk F4.bel⟩
      | false =>
        have HNo := Hid.mk (HNA.out rfl)
        have F5 := F2.tl
        clear F2
        go_wp2
        go_roundw
        case rel => exact ⟨i + 1, by omega, by go_num, F5, HNo⟩
        case measure => simp [intOf]; omega
    · obtain rfl : i = m := by omega
      have HFn : Hid (ks.find? (covB · n) = none) := find_none fun j hj => hno j hj (by rw [← HM.out]; exact hj)
      have s4 := lkStore_run (x' := .string ⟨#[]⟩) (y' := .string ⟨#[]⟩) (z' := .slice none 0 0) (Fr.get 0 rfl) rfl rfl rfl
      have F4 := Fr.put 0 #[.string ⟨#[]⟩, .string ⟨#[]⟩, .slice none 0 0] rfl
      clear hno
      go_wp2
      refine bodyPost_ret (results_lk_tmp Tryz.results68 rfl rfl (F4.get 0 rfl)) rfl ⟨⟨_, _, _, false, rfl, ?_⟩, F4.bel⟩
      rw [HFn.out]
      exact ⟨rfl, rfl, rfl, rfl⟩
/-- is a link a name's? -/
def mtcB (k : Lk) (n : List (List UInt8)) : Bool := eqB k.o n
set_option maxRecDepth 100000 in
set_option maxHeartbeats 2000000 in
theorem matching_in (ks : List Lk) (n : List (List UInt8)) (hks : ChOk ks) (hn : OkN n) (v : Value) (W : World) (h : ChAt W v ks) :
    Calls Tryz.prog 71 #[v, .string (nm n)] W fun e w' => (∃ a b c f, e = .returned (.tuple #[.agg #[a, b, c], .bool f]) ∧ Found w' (ks.find? (mtcB · n)) a b c f) ∧ Below W.heap.size W w' := by
  obtain ⟨q, cap, rfl, hc⟩ := id h
  have HH := Hid.mk h
  have HC := Hid.mk hc
  have HK := Hid.mk hks.2
  have hml := hks.1
  obtain ⟨m, hm⟩ : ∃ m, ks.length = m := ⟨_, rfl⟩
  have HM := Hid.mk hm
  rw [hm] at hml ⊢
  have HP : Hid (∀ k ∈ ks, ∀ a b c w, LkAt w k a b c → Calls Tryz.prog 12 #[a, .string (nm n)] w fun e w' => e = .returned (.bool (mtcB k n)) ∧ Below w.heap.size w w') := fun k hk a b c w hl => by rw [hl.1]; exact equal_yes k.o n (hks.2 k hk).1 hn w
  generalize nm n = sn at HP ⊢
  clear hm hks h hc hn
  obtain ⟨V, hV, F⟩ : ∃ V, W.alloc (Obj.cells #[.string ⟨#[]⟩, .string ⟨#[]⟩, .slice none 0 0] 95 (0, 0)) = V ∧ Fm W [(W.heap.size, Obj.cells #[.string ⟨#[]⟩, .string ⟨#[]⟩, .slice none 0 0] 95 (0, 0))] V := ⟨_, rfl, Fm.box1 W _⟩
  go_enter Tryz.func71, Tryz.ntmps71
  go_upto_region 1 with fail
  clear hV
  go_wp2_with fail
  go_loopw [10] (fun iv wr => ∃ i : Nat, i ≤ m ∧ iv = .int .i64 (i : Int) ∧ Fm W [(W.heap.size, Obj.cells #[.string ⟨#[]⟩, .string ⟨#[]⟩, .slice none 0 0] 95 (0, 0))] wr ∧ Hid (∀ j (hj : j < ks.length), j < i → mtcB ks[j] n = false)) (fun iv _ => m - (intOf iv).toNat)
  case atStart => exact ⟨0, Nat.zero_le _, rfl, F, fun j _ hj => absurd hj (Nat.not_lt_zero _)⟩
  case round =>
    obtain ⟨i, hi, rfl, Fr, hno⟩ := hrel
    clear F
    by_cases hlt : i < m
    · have hil : i < ks.length := by rw [HM.out]; exact hlt
      obtain ⟨g, a, b, c, rfl, hg, h0, h1, h2, hl⟩ := HC.out i hil
      obtain ⟨o1, o2, o3⟩ := hl.one
      obtain ⟨kk, hkk⟩ : ∃ kk, ks[i] = kk := ⟨_, rfl⟩
      have HPi := Hid.mk (HP.out kk (by rw [← hkk]; exact List.getElem_mem _) a b c)
      have HFA : Hid (mtcB kk n = true → ks.find? (mtcB · n) = some kk) := fun hA1 => by rw [← hkk]; exact find_at _ hil (by rw [hkk]; exact hA1) hno
      have HNA : Hid (mtcB kk n = false → ∀ j (hj : j < ks.length), j < i + 1 → mtcB ks[j] n = false)   := fun hA1 j hj hji => by
        rcases Nat.lt_succ_iff_lt_or_eq.1 hji with h | h
        · exact hno j hj h
        · subst h
          rw [hkk]
          exact hA1
      rw [hkk] at hl
      have HL := Hid.mk hl
      have hi' : (i : Int) < (m : Int) := by omega
      obtain ⟨D, hD⟩ : ∃ D, mtcB kk n = D := ⟨_, rfl⟩
      rw [hD] at HPi HFA HNA
      clear hD hl hil hkk hno
      have k0 : wr.cell? ⟨g, i * 3, none⟩ = some a := (Fr.bel.cell (p := ⟨g, i * 3, none⟩) hg).trans h0
      have k1 : wr.cell? ⟨g, i * 3 + 1, none⟩ = some b := (Fr.bel.cell (p := ⟨g, i * 3 + 1, none⟩) hg).trans h1
      have k2 : wr.cell? ⟨g, i * 3 + 2, none⟩ = some c := (Fr.bel.cell (p := ⟨g, i * 3 + 2, none⟩) hg).trans h2
      have ld := lkLoad_mid k0 k1 k2
      have st := lkst1 wr a b c (.string ⟨#[]⟩) (.string ⟨#[]⟩) (.slice none 0 0) o1 o2 o3
      clear h0 h1 h2 k0 k1 k2
      go_upto_region 4 with fail
      have F2 := Fr.new (Obj.cells #[a, b, c] 95 (0, 0))
      clear ld st Fr
      generalize wr.alloc (Obj.cells #[a, b, c] 95 (0, 0)) = z at F2 ⊢
      generalize wr.heap.size = b7 at F2 ⊢
      have l7 : z.cell? ⟨b7, 0, none⟩ = some a := (cells_at (F2.get 0 rfl) rfl).1
      go_wp2_with fail
      refine (HPi.out _ (HL.out.blk F2.bel)).mono ?_
      rintro e w2 ⟨rfl, hb⟩
      replace F2 := F2.blk hb
      clear hb l7
      cases D with
      | true =>
        have HFi := Hid.mk (HFA.out rfl)
        have l7 := lkLoad_run (F2.get 0 rfl)
        have s4 := lkStore_run (x' := a) (y' := b) (z' := c) (F2.get 1 rfl) o1 o2 o3
        have F4 := F2.put 1 #[a, b, c] rfl
        go_wp2
        refine bodyPost_ret (results_lk_tmp Tryz.results71 rfl rfl (F4.get 1 rfl)) rfl ⟨⟨a, b, c, true, rfl, ?_⟩, F4.bel⟩
        rw [HFi.out]
        exact ⟨rfl, HL.out.blk F4.bel⟩
      | false =>
        have HNo := Hid.mk (HNA.out rfl)
        have F5 := F2.tl
        clear F2
        go_wp2
        go_roundw
        case rel => exact ⟨i + 1, by omega, by go_num, F5, HNo⟩
        case measure => simp [intOf]; omega
    · obtain rfl : i = m := by omega
      have HFn : Hid (ks.find? (mtcB · n) = none) := find_none fun j hj => hno j hj (by rw [← HM.out]; exact hj)
      have s4 := lkStore_run (x' := .string ⟨#[]⟩) (y' := .string ⟨#[]⟩) (z' := .slice none 0 0) (Fr.get 0 rfl) rfl rfl rfl
      have F4 := Fr.put 0 #[.string ⟨#[]⟩, .string ⟨#[]⟩, .slice none 0 0] rfl
      clear hno
      go_wp2
      refine bodyPost_ret (results_lk_tmp Tryz.results71 rfl rfl (F4.get 0 rfl)) rfl ⟨⟨_, _, _, false, rfl, ?_⟩, F4.bel⟩
      rw [HFn.out]
      exact ⟨rfl, rfl, rfl, rfl⟩
end Go.Proofs.YtaiakpigljcjbaaGreatDoor

/- Child. -/
namespace Go.Proofs.YtaiakpigljcjbaaGreatDoor
set_option linter.unusedVariables false
open Go.RowKit

theorem child_bad (s t : ByteArray) (hs : s.size ≤ maxLen) (ht : t.size ≤ maxLen) (h : ¬ (IsName t ∧ 1 ≤ s.size ∧ s.size ≤ 63)) (w : World) :
    Calls Tryz.prog 69 #[.string s, .string t] w fun e w' => e = .returned (.tuple #[.string ⟨#[]⟩, .int .i64 2]) ∧ Below w.heap.size w w' := by
  by_cases h1 : IsName t
  · have h2 : s.size < 1 ∨ 63 < s.size := by
      by_cases h3 : 1 ≤ s.size
      · right; apply Nat.lt_of_not_le; intro h4; exact h ⟨h1, h3, h4⟩
      · left; omega
    obtain ⟨a, ha, rfl⟩ := h1
    go_enter Tryz.func69, Tryz.ntmps69
    go_wp2_with fail
    refine (right_yes a ha _).mono ?_
    rintro e w1 ⟨rfl, hb1⟩
    go_wp2_with fail
    refine (rightLabel_no s _ hs h2).mono ?_
    rintro e w2 ⟨rfl, rfl⟩
    go_wp2
    go_ret2
    exact ⟨rfl, hb1⟩
  · go_enter Tryz.func69, Tryz.ntmps69
    go_wp2_with fail
    refine (right_no t h1 ht _).mono ?_
    rintro e w1 ⟨rfl, hb1⟩
    go_wp2
    go_ret2
    exact ⟨rfl, hb1⟩

theorem child_bytes (l : List UInt8) (ls : List (List UInt8)) : (⟨[UInt8.ofNat l.length].toArray⟩ : ByteArray) ++ ⟨l.toArray⟩ ++ nm ls = nm (l :: ls) := by
  apply ba_ext
  rw [ByteArray.data_append, ByteArray.data_append, Array.toList_append, Array.toList_append, nm_list, nm_list]
  simp [nmL, flat]

set_option maxHeartbeats 400000 in
theorem child_in (l : List UInt8) (ls : List (List UInt8)) (h1 : 1 ≤ l.length) (h2 : l.length ≤ 63) (ho : OkN ls) (w : World) :
    Calls Tryz.prog 69 #[.string ⟨l.toArray⟩, .string (nm ls)] w fun e w' =>
      e = .returned (if (nm (l :: ls)).size ≤ 255 then .tuple #[.string (nm (l :: ls)), .int .i64 0] else .tuple #[.string ⟨#[]⟩, .int .i64 3]) ∧ Below w.heap.size w w' := by
  have HB := Hid.mk (child_bytes l ls)
  obtain ⟨s, hs⟩ : ∃ s : ByteArray, (⟨l.toArray⟩ : ByteArray) = s := ⟨_, rfl⟩
  have hsz : s.size = l.length := by rw [← hs]; rfl
  have hs1 : 1 ≤ s.size := by omega
  have hs2 : s.size ≤ 63 := by omega
  rw [hs] at HB ⊢
  have HZ := Hid.mk hsz
  clear hs hsz h1 h2
  have hlen := ho.len
  have hzz : (nm (l :: ls)).size ≤ 400 := by
    rw [nm_size]; simp [flat]; have := HZ.out; omega
  have hcell : ∀ W : World, (W.alloc (.cells #[.int .u8 (s.size : Int)] 5)).cell? ⟨W.heap.size, 0, none⟩ = some (.int .u8 (s.size : Int)) := fun W => (Boxed.new W 5 _).cell
  have hcv : ∀ W : World, (convert 50 9 (.slice (some ⟨W.heap.size, 0, none⟩) 1 1)).run Tryz.prog (W.alloc (.cells #[.int .u8 (s.size : Int)] 5)) = .ok (.string ⟨[UInt8.ofNat s.size].toArray⟩) (W.alloc (.cells #[.int .u8 (s.size : Int)] 5)) := fun W => by
    have := run_convert_bytes_back (P := Tryz.prog) (W.alloc (.cells #[.int .u8 (s.size : Int)] 5)) 50 9 5 ⟨W.heap.size, 0, none⟩ 1 [UInt8.ofNat s.size] Tryz.underlying50 Tryz.underlying5 Tryz.underlying9 (fun j hj => by
      have e : j = 0 := by simpa using hj
      subst e
      rw [add_at, hcell]
      simp; omega)
    simpa using this
  have hcat : ((⟨#[UInt8.ofNat s.size]⟩ : ByteArray) ++ s).size ≤ 64 := by rw [ByteArray.size_append]; show 1 + s.size ≤ 64; omega
  have hnz : (nm ls).size ≤ 255 := by rw [nm_size]; omega
  by_cases hl : (nm (l :: ls)).size ≤ 255
  · rw [if_pos hl]
    go_enter Tryz.func69, Tryz.ntmps69
    go_wp2_with fail
    refine (right_yes ls ho _).mono ?_
    rintro e w1 ⟨rfl, hb1⟩
    go_wp2_with fail
    refine (rightLabel_yes s _ hs1 hs2).mono ?_
    rintro e w2 ⟨rfl, rfl⟩
    go_wp2_with fail
    rw [HZ.out, HB.out]
    refine (limited_ok _ _ hl).mono ?_
    rintro e w3 ⟨rfl, rfl⟩
    go_wp2
    go_ret2
    exact ⟨rfl, hb1.alloc hb1.size _⟩
  · rw [if_neg hl]
    go_enter Tryz.func69, Tryz.ntmps69
    go_wp2_with fail
    refine (right_yes ls ho _).mono ?_
    rintro e w1 ⟨rfl, hb1⟩
    go_wp2_with fail
    refine (rightLabel_yes s _ hs1 hs2).mono ?_
    rintro e w2 ⟨rfl, rfl⟩
    go_wp2_with fail
    rw [HZ.out, HB.out]
    refine (limited_long _ _ (by unfold maxLen; omega) (by omega)).mono ?_
    rintro e w3 ⟨rfl, rfl⟩
    go_wp2
    go_ret2
    exact ⟨rfl, hb1.alloc hb1.size _⟩

end Go.Proofs.YtaiakpigljcjbaaGreatDoor

/- A chain: noName, noType. -/
namespace Go.Proofs.YtaiakpigljcjbaaGreatDoor
set_option linter.unusedVariables false
set_option linter.unusedSimpArgs false
open Go.RowKit
attribute [local go_sem ↓] storeAt_lk loadAt_lk
theorem Found.one {W : World} {r : Option Lk} {a b c : Value} {f : Bool} (h : Found W r a b c f) : a.oneCell' = true ∧ b.oneCell' = true ∧ c.oneCell' = true := by
  cases r with
  | none => exact h.2
  | some k => exact h.2.one
/-- a name with a star ahead. -/
abbrev starN (e : List (List UInt8)) : List (List UInt8) := [42] :: e
theorem star_ok {e : List (List UInt8)} (h : OkN e) (hs : (nm (starN e)).size ≤ 255) : OkN (starN e) := by
  refine ⟨fun l hl => ?_, ?_⟩
  · rcases List.mem_cons.1 hl with rfl | hl
    · decide
    · exact h.lab l hl
  · rw [nm_size] at hs
    omega
theorem find_ok {p : Lk → Bool} {ks : List Lk} {k : Lk} (hks : ChOk ks) (h : ks.find? p = some k) : k.Ok := hks.2 k (List.mem_of_find?_eq_some h)
/-- what a chain proves of a name. -/
def nameR (ks : List Lk) (n : List (List UInt8)) : Int := match ks.find? (covB · n) with
  | none => 0
  | some k => if undB k.x n then 0 else if (nm (starN (encN k n))).size ≤ 255 then (if (ks.find? (covB · (starN (encN k n)))).isSome then 1 else 0) else 0
/-- what a chain proves of a type. -/
def typeR (ks : List Lk) (n : List (List UInt8)) (kind : Int) : Int := match ks.find? (mtcB · n) with
  | some k => if lackB k.t kind ((nm k.o).toList == [0]) then 1 else 0
  | none => match ks.find? (covB · n) with
    | none => 0
    | some k => if undB k.x n then 1 else if (nm (starN (encN k n))).size ≤ 255 then (match ks.find? (mtcB · (starN (encN k n))) with
      | some j => if lackB j.t kind ((nm j.o).toList == [0]) then 1 else 0
      | none => 0) else 0
set_option maxRecDepth 100000 in
set_option maxHeartbeats 2000000 in
theorem noName_in (ks : List Lk) (n : List (List UInt8)) (hks : ChOk ks) (hn : OkN n) (v : Value) (W : World) (h : ChAt W v ks) :
    Calls Tryz.prog 50 #[v, .string (nm n)] W fun e w' => e = .returned (.int .i64 (nameR ks n)) ∧ Below W.heap.size W w' := by
  have HC : Hid (∀ n', OkN n' → ∀ w, Below W.heap.size W w → Calls Tryz.prog 68 #[v, .string (nm n')] w fun e w' => (∃ a b c f, e = .returned (.tuple #[.agg #[a, b, c], .bool f]) ∧ Found w' (ks.find? (covB · n')) a b c f) ∧ Below w.heap.size w w') := fun n' hn' w hb => covering_in ks n' hks hn' v w (h.blk hb)
  obtain ⟨q, cap, hv, _⟩ := id h
  have HOk : Hid (∀ k, ks.find? (covB · n) = some k → k.Ok) := fun k hk => find_ok hks hk
  obtain ⟨RR, hRR⟩ : ∃ RR, nameR ks n = RR := ⟨_, rfl⟩
  have R0 : Hid (ks.find? (covB · n) = none → RR = 0) := fun h1 => by rw [← hRR]; unfold nameR; rw [h1]
  have R1 : Hid (∀ k, ks.find? (covB · n) = some k → undB k.x n = true → RR = 0) := fun k h1 h2 => by rw [← hRR]; unfold nameR; rw [h1]; simp only [h2, if_true]
  have R2 : Hid (∀ k, ks.find? (covB · n) = some k → undB k.x n = false → ¬ (nm (starN (encN k n))).size ≤ 255 → RR = 0) := fun k h1 h2 h3 => by rw [← hRR]; unfold nameR; rw [h1]; simp only [h2, Bool.false_eq_true, if_false, if_neg h3]
  have R3 : Hid (∀ k, ks.find? (covB · n) = some k → undB k.x n = false → (nm (starN (encN k n))).size ≤ 255 → ks.find? (covB · (starN (encN k n))) = none → RR = 0) := fun k h1 h2 h3 h4 => by rw [← hRR]; unfold nameR; rw [h1]; simp only [h2, Bool.false_eq_true, if_false, if_pos h3, h4, Option.isSome_none]
  have R4 : Hid (∀ k, ks.find? (covB · n) = some k → undB k.x n = false → (nm (starN (encN k n))).size ≤ 255 → ∀ j, ks.find? (covB · (starN (encN k n))) = some j → RR = 1) := fun k h1 h2 h3 j h4 => by rw [← hRR]; unfold nameR; rw [h1]; simp only [h2, Bool.false_eq_true, if_false, if_pos h3, h4, Option.isSome_some, if_true]
  rw [hRR]
  clear h hks hRR
  subst hv
  have F := Fm.start W
  go_enter Tryz.func50, Tryz.ntmps50
  go_wp2_with fail
  refine (HC.out n hn _ F.bel).mono ?_
  rintro e u1 ⟨⟨a1, b1, c1, f1, rfl, hf1⟩, hb⟩
  replace F := F.blk hb
  clear hb
  obtain ⟨oa, ob, oc⟩ := hf1.one
  have st := lkst1 u1 a1 b1 c1 (.string ⟨#[]⟩) (.string ⟨#[]⟩) (.slice none 0 0) oa ob oc
  go_upto_region 2 with fail
  replace F := F.new (Obj.cells #[a1, b1, c1] 95 (0, 0))
  clear st oa ob oc
  have hA := (Below.refl u1.heap.size u1).alloc (Nat.le_refl _) (Obj.cells #[a1, b1, c1] 95 (0, 0))
  generalize u1.alloc (Obj.cells #[a1, b1, c1] 95 (0, 0)) = z1 at F hA ⊢
  generalize hbb : u1.heap.size = b5 at F hA ⊢
  rw [← hbb] at hA
  cases hr : ks.find? (covB · n) with
  | none =>
    rw [hr] at hf1
    have ef := hf1.1
    have er := Hid.mk (R0.out hr)
    subst ef
    clear hf1 hA hbb
    go_wp2
    go_ret
    exact ⟨by rw [er.out]; rfl, F.bel⟩
  | some kk =>
    rw [hr] at hf1
    have hkk := HOk.out kk hr
    have R1k := Hid.mk (R1.out kk hr)
    have R2k := Hid.mk (R2.out kk hr)
    have R3k := Hid.mk (R3.out kk hr)
    have R4k := Hid.mk (R4.out kk hr)
    clear hr HOk R0 R1 R2 R3 R4
    have hl1 : LkAt z1 kk a1 b1 c1 := hf1.2.blk hA
    have ef := hf1.1
    subst ef
    clear hf1 hA hbb
    have HU := Hid.mk (under_yes kk.x n hkk.2.1 hn)
    have HEn : Hid (∀ w a b c, LkAt w kk a b c → Calls Tryz.prog 70 #[.agg #[a, b, c], .string (nm n)] w fun e w' => e = .returned (.string (nm (encN kk n))) ∧ Below w.heap.size w w') := fun w a b c hl => encl_in kk a b c n hkk hn w hl
    have hen := encN_ok (k := kk) hn
    have HCh := Hid.mk (child_in [42] (encN kk n) (by decide) (by decide) hen)
    have eb := hl1.2.1
    subst eb
    obtain ⟨U, hU⟩ : ∃ U, undB kk.x n = U := ⟨_, rfl⟩
    rw [hU] at HU R1k R2k R3k R4k
    clear hU
    obtain ⟨en, he⟩ : ∃ en, encN kk n = en := ⟨_, rfl⟩
    rw [he] at HEn HCh hen R2k R3k R4k
    clear he
    have q1 : z1.cell? ⟨b5, 1, none⟩ = some (.string (nm kk.x)) := (cells_at (F.get 0 rfl) rfl).1
    go_wp2_with fail
    refine (HU.out _).mono ?_
    rintro e u2 ⟨rfl, hb⟩
    replace F := F.blk hb
    replace hl1 := hl1.blk hb
    clear hb q1
    cases U with
    | true =>
      have er := Hid.mk (R1k.out rfl)
      clear R2k R3k R4k R1k
      go_wp2
      go_ret
      exact ⟨by rw [er.out]; rfl, F.bel⟩
    | false =>
      have E2 := Hid.mk (R2k.out rfl)
      have E3 := Hid.mk (R3k.out rfl)
      have E4 := Hid.mk (R4k.out rfl)
      clear R1k R2k R3k R4k
      have l5 := lkLoad_run (F.get 0 rfl)
      go_wp2_with fail
      refine (HEn.out _ _ _ _ hl1).mono ?_
      rintro e u3 ⟨rfl, hb⟩
      replace F := F.blk hb
      clear hb l5
      by_cases hs : (nm (starN en)).size ≤ 255
      · have hso := star_ok hen hs
        have G3 := Hid.mk (E3.out hs)
        have G4 := Hid.mk (E4.out hs)
        rw [if_pos hs] at HCh
        clear E2 E3 E4
        go_wp2_with fail
        refine (HCh.out _).mono ?_
        rintro e u4 ⟨rfl, hb⟩
        replace F := F.blk hb
        clear hb
        have HC2 := Hid.mk (HC.out (starN en) hso)
        obtain ⟨ss, hss⟩ : ∃ ss, nm (starN en) = ss := ⟨_, rfl⟩
        rw [hss] at HC2 ⊢
        clear hss HCh hl1
        go_wp2_with fail
        refine (HC2.out _ F.bel).mono ?_
        rintro e u5 ⟨⟨a5, b5', c5, f5, rfl, hf5⟩, hb⟩
        replace F := F.blk hb
        clear hb
        obtain ⟨oa, ob, oc⟩ := hf5.one
        have st := lkst1 u5 a5 b5' c5 (.string ⟨#[]⟩) (.string ⟨#[]⟩) (.slice none 0 0) oa ob oc
        go_upto_region 8 with fail
        replace F := F.new (Obj.cells #[a5, b5', c5] 95 (0, 0))
        clear st oa ob oc
        generalize u5.alloc (Obj.cells #[a5, b5', c5] 95 (0, 0)) = z5 at F ⊢
        generalize u5.heap.size = b9 at F ⊢
        cases hr2 : ks.find? (covB · (starN en)) with
        | none =>
          rw [hr2] at hf5
          have ef := hf5.1
          have er := Hid.mk (G3.out hr2)
          subst ef
          clear hf5 hr2 G3 G4
          go_wp2
          go_ret
          exact ⟨by rw [er.out]; rfl, F.bel⟩
        | some k2 =>
          rw [hr2] at hf5
          have ef := hf5.1
          have er := Hid.mk (G4.out k2 hr2)
          subst ef
          clear hf5 hr2 G3 G4
          go_wp2
          go_ret
          exact ⟨by rw [er.out]; rfl, F.bel⟩
      · rw [if_neg hs] at HCh
        have er := Hid.mk (E2.out hs)
        clear E2 E3 E4
        go_wp2_with fail
        refine (HCh.out _).mono ?_
        rintro e u4 ⟨rfl, hb⟩
        replace F := F.blk hb
        clear hb
        go_wp2
        go_ret
        exact ⟨by rw [er.out]; rfl, F.bel⟩
set_option maxRecDepth 100000 in
set_option maxHeartbeats 2000000 in
theorem noType_in (ks : List Lk) (n : List (List UInt8)) (kind : Int) (hks : ChOk ks) (hn : OkN n) (v : Value) (W : World) (h : ChAt W v ks) :
    Calls Tryz.prog 51 #[v, .string (nm n), .int .i64 kind] W fun e w' => e = .returned (.int .i64 (typeR ks n kind)) ∧ Below W.heap.size W w' := by
  have HC : Hid (∀ n', OkN n' → ∀ w, Below W.heap.size W w → Calls Tryz.prog 68 #[v, .string (nm n')] w fun e w' => (∃ a b c f, e = .returned (.tuple #[.agg #[a, b, c], .bool f]) ∧ Found w' (ks.find? (covB · n')) a b c f) ∧ Below w.heap.size w w') := fun n' hn' w hb => covering_in ks n' hks hn' v w (h.blk hb)
  have HM : Hid (∀ n', OkN n' → ∀ w, Below W.heap.size W w → Calls Tryz.prog 71 #[v, .string (nm n')] w fun e w' => (∃ a b c f, e = .returned (.tuple #[.agg #[a, b, c], .bool f]) ∧ Found w' (ks.find? (mtcB · n')) a b c f) ∧ Below w.heap.size w w') := fun n' hn' w hb => matching_in ks n' hks hn' v w (h.blk hb)
  obtain ⟨q, cap, hv, _⟩ := id h
  have HOk : Hid (∀ p k, ks.find? p = some k → k.Ok) := fun p k hk => find_ok hks hk
  have HNT : Hid (∀ k : Lk, k.Ok → ∀ a b c w, LkAt w k a b c → Calls Tryz.prog 72 #[.agg #[a, b, c], .int .i64 kind] w fun e w' => e = .returned (.int .i64 (if lackB k.t kind ((nm k.o).toList == [0]) then 1 else 0)) ∧ Below w.heap.size w w') := fun k hk a b c w hl => ntype_in k a b c kind hk w hl
  obtain ⟨RR, hRR⟩ : ∃ RR, typeR ks n kind = RR := ⟨_, rfl⟩
  have T0 : Hid (∀ k, ks.find? (mtcB · n) = some k → RR = if lackB k.t kind ((nm k.o).toList == [0]) then 1 else 0) := fun k h1 => by rw [← hRR]; unfold typeR; rw [h1]
  have RT : Hid (ks.find? (mtcB · n) = none → RR = match ks.find? (covB · n) with | none => 0 | some k => if undB k.x n then 1 else if (nm (starN (encN k n))).size ≤ 255 then (match ks.find? (mtcB · (starN (encN k n))) with | some j => if lackB j.t kind ((nm j.o).toList == [0]) then 1 else 0 | none => 0) else 0) := fun h1 => by rw [← hRR]; unfold typeR; rw [h1]
  rw [hRR]
  clear h hks hRR
  subst hv
  have F := Fm.start W
  go_enter Tryz.func51, Tryz.ntmps51
  go_wp2_with fail
  refine (HM.out n hn _ F.bel).mono ?_
  rintro e u1 ⟨⟨a1, b1, c1, f1, rfl, hf1⟩, hb⟩
  replace F := F.blk hb
  clear hb
  obtain ⟨oa, ob, oc⟩ := hf1.one
  have st := lkst1 u1 a1 b1 c1 (.string ⟨#[]⟩) (.string ⟨#[]⟩) (.slice none 0 0) oa ob oc
  go_upto_region 2 with fail
  replace F := F.new (Obj.cells #[a1, b1, c1] 95 (0, 0))
  clear st oa ob oc
  have hA := (Below.refl u1.heap.size u1).alloc (Nat.le_refl _) (Obj.cells #[a1, b1, c1] 95 (0, 0))
  generalize u1.alloc (Obj.cells #[a1, b1, c1] 95 (0, 0)) = z1 at F hA ⊢
  generalize hbb : u1.heap.size = b7 at F hA ⊢
  rw [← hbb] at hA
  cases hr : ks.find? (mtcB · n) with
  | some kk =>
    rw [hr] at hf1
    have hkk := HOk.out _ kk hr
    have er := Hid.mk (T0.out kk hr)
    clear hr HOk T0 RT
    have hl1 : LkAt z1 kk a1 b1 c1 := hf1.2.blk hA
    have ef := hf1.1
    subst ef
    clear hf1 hA hbb
    have HT1 := Hid.mk (HNT.out kk hkk)
    generalize (if lackB kk.t kind ((nm kk.o).toList == [0]) then (1 : Int) else 0) = R at HT1 er
    have l7 := lkLoad_run (F.get 0 rfl)
    go_wp2_with fail
    refine (HT1.out _ _ _ _ hl1).mono ?_
    rintro e u2 ⟨rfl, hb⟩
    replace F := F.blk hb
    clear hb l7
    go_wp2
    go_ret
    exact ⟨by rw [er.out]; rfl, F.bel⟩
  | none =>
    rw [hr] at hf1
    have ef := hf1.1
    have HRT := Hid.mk (RT.out hr)
    subst ef
    clear hf1 hA hbb hr RT T0
    go_wp2_with fail
    refine (HC.out n hn _ F.bel).mono ?_
    rintro e u2 ⟨⟨a2, b2, c2, f2, rfl, hf2⟩, hb⟩
    replace F := F.blk hb
    clear hb
    obtain ⟨oa, ob, oc⟩ := hf2.one
    have st := lkst1 u2 a2 b2 c2 (.string ⟨#[]⟩) (.string ⟨#[]⟩) (.slice none 0 0) oa ob oc
    go_upto_region 5 with fail
    replace F := F.new (Obj.cells #[a2, b2, c2] 95 (0, 0))
    clear st oa ob oc
    have hA := (Below.refl u2.heap.size u2).alloc (Nat.le_refl _) (Obj.cells #[a2, b2, c2] 95 (0, 0))
    generalize u2.alloc (Obj.cells #[a2, b2, c2] 95 (0, 0)) = z2 at F hA ⊢
    generalize hbb : u2.heap.size = b9 at F hA ⊢
    rw [← hbb] at hA
    cases hr : ks.find? (covB · n) with
    | none =>
      rw [hr] at hf2 HRT
      have ef := hf2.1
      have er : Hid (RR = 0) := HRT.out
      subst ef
      clear hf2 hA hbb HRT
      go_wp2
      go_ret
      exact ⟨by rw [er.out]; rfl, F.bel⟩
    | some kk =>
      rw [hr] at hf2 HRT
      have hkk := HOk.out _ kk hr
      have HR2 : Hid (RR = if undB kk.x n then 1 else if (nm (starN (encN kk n))).size ≤ 255 then (match ks.find? (mtcB · (starN (encN kk n))) with | some j => if lackB j.t kind ((nm j.o).toList == [0]) then 1 else 0 | none => 0) else 0) := HRT.out
      clear hr HRT
      have hl2 : LkAt z2 kk a2 b2 c2 := hf2.2.blk hA
      have ef := hf2.1
      subst ef
      clear hf2 hA hbb
      have HU := Hid.mk (under_yes kk.x n hkk.2.1 hn)
      have HEn : Hid (∀ w a b c, LkAt w kk a b c → Calls Tryz.prog 70 #[.agg #[a, b, c], .string (nm n)] w fun e w' => e = .returned (.string (nm (encN kk n))) ∧ Below w.heap.size w w') := fun w a b c hl => encl_in kk a b c n hkk hn w hl
      have hen := encN_ok (k := kk) hn
      have HCh := Hid.mk (child_in [42] (encN kk n) (by decide) (by decide) hen)
      have eb := hl2.2.1
      subst eb
      obtain ⟨U, hU⟩ : ∃ U, undB kk.x n = U := ⟨_, rfl⟩
      rw [hU] at HU HR2
      clear hU
      obtain ⟨en, he⟩ : ∃ en, encN kk n = en := ⟨_, rfl⟩
      rw [he] at HEn HCh hen HR2
      clear he
      have q1 : z2.cell? ⟨b9, 1, none⟩ = some (.string (nm kk.x)) := (cells_at (F.get 0 rfl) rfl).1
      go_wp2_with fail
      refine (HU.out _).mono ?_
      rintro e u3 ⟨rfl, hb⟩
      replace F := F.blk hb
      replace hl2 := hl2.blk hb
      clear hb q1
      cases U with
      | true =>
        have er : Hid (RR = 1) := HR2.out
        clear HR2
        go_wp2
        go_ret
        exact ⟨by rw [er.out]; rfl, F.bel⟩
      | false =>
        have HR3 : Hid (RR = if (nm (starN en)).size ≤ 255 then (match ks.find? (mtcB · (starN en)) with | some j => if lackB j.t kind ((nm j.o).toList == [0]) then 1 else 0 | none => 0) else 0) := HR2.out
        clear HR2
        have l9 := lkLoad_run (F.get 0 rfl)
        go_wp2_with fail
        refine (HEn.out _ _ _ _ hl2).mono ?_
        rintro e u4 ⟨rfl, hb⟩
        replace F := F.blk hb
        clear hb l9
        by_cases hs : (nm (starN en)).size ≤ 255
        · have hso := star_ok hen hs
          rw [if_pos hs] at HCh HR3
          go_wp2_with fail
          refine (HCh.out _).mono ?_
          rintro e u5 ⟨rfl, hb⟩
          replace F := F.blk hb
          clear hb
          have HM2 := Hid.mk (HM.out (starN en) hso)
          obtain ⟨ss, hss⟩ : ∃ ss, nm (starN en) = ss := ⟨_, rfl⟩
          rw [hss] at HM2 ⊢
          clear hss HCh hl2
          go_wp2_with fail
          refine (HM2.out _ F.bel).mono ?_
          rintro e u6 ⟨⟨a5, b5', c5, f5, rfl, hf5⟩, hb⟩
          replace F := F.blk hb
          clear hb
          obtain ⟨oa, ob, oc⟩ := hf5.one
          have st := lkst1 u6 a5 b5' c5 (.string ⟨#[]⟩) (.string ⟨#[]⟩) (.slice none 0 0) oa ob oc
          go_upto_region 13 with fail
          replace F := F.new (Obj.cells #[a5, b5', c5] 95 (0, 0))
          clear st oa ob oc
          have hA := (Below.refl u6.heap.size u6).alloc (Nat.le_refl _) (Obj.cells #[a5, b5', c5] 95 (0, 0))
          generalize u6.alloc (Obj.cells #[a5, b5', c5] 95 (0, 0)) = z5 at F hA ⊢
          cases hr2 : ks.find? (mtcB · (starN en)) with
          | none =>
            rw [hr2] at hf5 HR3
            have ef := hf5.1
            have er : Hid (RR = 0) := HR3.out
            subst ef
            clear hf5 hr2 HR3
            go_wp2
            go_ret
            exact ⟨by rw [er.out]; rfl, F.bel⟩
          | some k2 =>
            rw [hr2] at hf5 HR3
            have hk2 := HOk.out _ k2 hr2
            have er : Hid (RR = if lackB k2.t kind ((nm k2.o).toList == [0]) then 1 else 0) := HR3.out
            have ef := hf5.1
            have hl5 : LkAt z5 k2 a5 b5' c5 := hf5.2.blk hA
            subst ef
            clear hf5 hr2 hA HR3
            have HT1 := Hid.mk (HNT.out k2 hk2)
            generalize (if lackB k2.t kind ((nm k2.o).toList == [0]) then (1 : Int) else 0) = R at HT1 er
            generalize u6.heap.size = b13 at F ⊢
            have l13 := lkLoad_run (F.get 0 rfl)
            go_wp2_with fail
            refine (HT1.out _ _ _ _ hl5).mono ?_
            rintro e u7 ⟨rfl, hb⟩
            replace F := F.blk hb
            clear hb l13
            go_wp2
            go_ret
            exact ⟨by rw [er.out]; rfl, F.bel⟩
        · rw [if_neg hs] at HCh HR3
          have er := HR3
          clear HR3
          go_wp2_with fail
          refine (HCh.out _).mono ?_
          rintro e u5 ⟨rfl, hb⟩
          replace F := F.blk hb
          clear hb
          go_wp2
          go_ret
          exact ⟨by rw [er.out]; rfl, F.bel⟩
end Go.Proofs.YtaiakpigljcjbaaGreatDoor

/- A chain: noNearer. -/
namespace Go.Proofs.YtaiakpigljcjbaaGreatDoor
set_option linter.unusedVariables false
set_option linter.unusedSimpArgs false
open Go.RowKit
attribute [local go_sem ↓] storeAt_lk loadAt_lk
theorem labels_yes (ls : List (List UInt8)) (ho : OkN ls) (w : World) :
    Calls Tryz.prog 73 #[.string (nm ls)] w fun e w' => (∃ v, e = .returned v ∧ Strs w'.heap.size w' v ls) ∧ Below w.heap.size w w' := by
  have hz : (nm ls).size ≤ 255 := by rw [nm_size]; have := ho.len; omega
  go_enter Tryz.func73, Tryz.ntmps73
  go_wp2_with fail
  refine (right_yes ls ho _).mono ?_
  rintro e w1 ⟨rfl, hb1⟩
  go_wp2_with fail
  refine (clone_in _ _ (Nat.le_trans hz (by decide))).mono ?_
  rintro e w2 ⟨rfl, hb2⟩
  go_wp2_with fail
  refine (labelsOf_in ls ho _).mono ?_
  rintro e w3 ⟨⟨v, rfl, hv⟩, hb3⟩
  go_wp2
  go_ret
  exact ⟨⟨v, rfl, hv⟩, bthen hb1 (bthen hb2 hb3)⟩
/-- does a link prove that nothing is nearer? -/
def nearB (k : Lk) (n : List (List UInt8)) (m : Nat) : Bool := covB k n && (!undB k.x n && decide ((encN k n).length ≤ m))
def nearR (ks : List Lk) (n e : List (List UInt8)) : Int := if ks.any (nearB · n e.length) then 1 else 0
theorem labels_len (ls : List (List UInt8)) (ho : OkN ls) (w : World) : Calls Tryz.prog 73 #[.string (nm ls)] w fun e w' => (∃ q c, e = .returned (.slice q ls.length c)) ∧ Below w.heap.size w w' :=
  (labels_yes ls ho w).mono fun e w' ⟨⟨v, h1, h2⟩, hb⟩ => by
    obtain ⟨q, c, rfl⟩ := h2.form
    exact ⟨⟨q, c, h1⟩, hb⟩
set_option maxRecDepth 100000 in
set_option maxHeartbeats 2000000 in
theorem noNear_in (ks : List Lk) (n en : List (List UInt8)) (hks : ChOk ks) (hn : OkN n) (hen : OkN en) (v : Value) (W : World) (h : ChAt W v ks) :
    Calls Tryz.prog 52 #[v, .string (nm n), .string (nm en)] W fun e w' => e = .returned (.int .i64 (nearR ks n en)) ∧ Below W.heap.size W w' := by
  obtain ⟨q, cap, rfl, hc⟩ := id h
  have HC := Hid.mk hc
  have HK := Hid.mk hks.2
  have hml := hks.1
  obtain ⟨RR, hRR⟩ : ∃ RR, nearR ks n en = RR := ⟨_, rfl⟩
  have R1 : Hid (∀ k ∈ ks, nearB k n en.length = true → RR = 1) := fun k hk h1 => by rw [← hRR]; unfold nearR; rw [if_pos (List.any_eq_true.2 ⟨k, hk, h1⟩)]
  have R0 : Hid ((∀ j (hj : j < ks.length), nearB ks[j] n en.length = false) → RR = 0) := fun h1 => by
    rw [← hRR]; unfold nearR; rw [if_neg]
    intro h2
    obtain ⟨k, hk, h3⟩ := List.any_eq_true.1 h2
    obtain ⟨j, hj, rfl⟩ := List.getElem_of_mem hk
    rw [h1 j hj] at h3
    simp at h3
  rw [hRR]
  clear hRR
  obtain ⟨m, hm⟩ : ∃ m, ks.length = m := ⟨_, rfl⟩
  have HM := Hid.mk hm
  rw [hm] at hml ⊢
  have HP : Hid (∀ k ∈ ks, ∀ a b c w, LkAt w k a b c → Calls Tryz.prog 74 #[.agg #[a, b, c], .string (nm n)] w fun e w' => e = .returned (.bool (covB k n)) ∧ Below w.heap.size w w') := fun k hk a b c w hl => covers_in k a b c n (hks.2 k hk) hn w hl
  have HEc : Hid (∀ k ∈ ks, ∀ a b c w, LkAt w k a b c → Calls Tryz.prog 70 #[.agg #[a, b, c], .string (nm n)] w fun e w' => e = .returned (.string (nm (encN k n))) ∧ Below w.heap.size w w') := fun k hk a b c w hl => encl_in k a b c n (hks.2 k hk) hn w hl
  have HU : Hid (∀ k ∈ ks, ∀ w, Calls Tryz.prog 28 #[.string (nm k.x), .string (nm n)] w fun e w' => e = .returned (.bool (undB k.x n)) ∧ Below w.heap.size w w') := fun k hk w => under_yes k.x n (hks.2 k hk).2.1 hn w
  have HL2 : Hid (∀ k ∈ ks, ∀ w, Calls Tryz.prog 73 #[.string (nm (encN k n))] w fun e w' => (∃ q c, e = .returned (.slice q (encN k n).length c)) ∧ Below w.heap.size w w') := fun k hk w => labels_len _ (encN_ok hn) w
  have HL1 := Hid.mk (labels_len en hen)
  obtain ⟨ml, hmm⟩ : ∃ ml, en.length = ml := ⟨_, rfl⟩
  rw [hmm] at HL1 R0 R1
  generalize nm en = se at HL1 ⊢
  have HSN : Hid (∃ s, s = nm n) := ⟨_, rfl⟩
  clear hm hks h hc hen hmm
  have F := Fm.start W
  go_enter Tryz.func52, Tryz.ntmps52
  go_wp2_with fail
  refine (HL1.out _).mono ?_
  rintro e u1 ⟨⟨ql, cl, rfl⟩, hb⟩
  replace F := F.blk hb
  clear hb
  go_wp2_with fail
  go_loopw [15] (fun iv wr => ∃ i : Nat, i ≤ m ∧ iv = .int .i64 (i : Int) ∧ Fm W [] wr ∧ Hid (∀ j (hj : j < ks.length), j < i → nearB ks[j] n ml = false)) (fun iv _ => m - (intOf iv).toNat)
  case atStart => exact ⟨0, Nat.zero_le _, rfl, F, fun j _ hj => absurd hj (Nat.not_lt_zero _)⟩
  case round =>
    obtain ⟨i, hi, rfl, Fr, hno⟩ := hrel
    clear F
    by_cases hlt : i < m
    · have hil : i < ks.length := by rw [HM.out]; exact hlt
      obtain ⟨g, a, b, c, rfl, hg, h0, h1, h2, hl⟩ := HC.out i hil
      obtain ⟨o1, o2, o3⟩ := hl.one
      obtain ⟨kk, hkk⟩ : ∃ kk, ks[i] = kk := ⟨_, rfl⟩
      have hmem : kk ∈ ks := by rw [← hkk]; exact List.getElem_mem _
      have HPi := Hid.mk (HP.out kk hmem a b c)
      have HEi := Hid.mk (HEc.out kk hmem a b c)
      have HUi := Hid.mk (HU.out kk hmem)
      have HLi := Hid.mk (HL2.out kk hmem)
      have R1i := Hid.mk (R1.out kk hmem)
      have HNA : Hid (nearB kk n ml = false → ∀ j (hj : j < ks.length), j < i + 1 → nearB ks[j] n ml = false) := fun hA1 j hj hji => by
        rcases Nat.lt_succ_iff_lt_or_eq.1 hji with h | h
        · exact hno j hj h
        · subst h
          rw [hkk]
          exact hA1
      rw [hkk] at hl
      have eb := hl.2.1
      subst eb
      have HL := Hid.mk hl
      have hi' : (i : Int) < (m : Int) := by omega
      obtain ⟨el, hel⟩ : ∃ el, (encN kk n).length = el := ⟨_, rfl⟩
      obtain ⟨A, hA⟩ : ∃ A, covB kk n = A := ⟨_, rfl⟩
      obtain ⟨U, hU⟩ : ∃ U, undB kk.x n = U := ⟨_, rfl⟩
      have hnb : nearB kk n ml = (A && (!U && decide (el ≤ ml))) := by unfold nearB; rw [hA, hU, hel]
      rw [hnb] at HNA R1i
      rw [hA] at HPi
      rw [hU] at HUi
      rw [hel] at HLi
      generalize nm (encN kk n) = sE at HEi HLi
      generalize nm n = sn at HPi HUi HEi ⊢
      clear hnb hA hU hel hl hil hkk hno hmem
      have k0 : wr.cell? ⟨g, i * 3, none⟩ = some a := (Fr.bel.cell (p := ⟨g, i * 3, none⟩) hg).trans h0
      have k1 : wr.cell? ⟨g, i * 3 + 1, none⟩ = some (.string (nm kk.x)) := (Fr.bel.cell (p := ⟨g, i * 3 + 1, none⟩) hg).trans h1
      have k2 : wr.cell? ⟨g, i * 3 + 2, none⟩ = some c := (Fr.bel.cell (p := ⟨g, i * 3 + 2, none⟩) hg).trans h2
      have ld := lkLoad_mid k0 k1 k2
      have st := lkst1 wr a (.string (nm kk.x)) c (.string ⟨#[]⟩) (.string ⟨#[]⟩) (.slice none 0 0) o1 o2 o3
      clear h0 h1 h2 k0 k1 k2
      go_upto_region 5 with fail
      have F2 := Fr.new (Obj.cells #[a, .string (nm kk.x), c] 95 (0, 0))
      clear ld st Fr
      generalize wr.alloc (Obj.cells #[a, .string (nm kk.x), c] 95 (0, 0)) = z at F2 ⊢
      generalize wr.heap.size = b9 at F2 ⊢
      have l9 := lkLoad_run (F2.get 0 rfl)
      go_wp2_with fail
      refine (HPi.out _ (HL.out.blk F2.bel)).mono ?_
      rintro e w2 ⟨rfl, hb⟩
      replace F2 := F2.blk hb
      clear hb l9
      cases A with
      | false =>
        have HNo := Hid.mk (HNA.out rfl)
        have F5 := F2.tl
        clear F2 HNA R1i
        go_wp2
        go_roundw
        case rel => exact ⟨i + 1, by omega, by go_num, F5, HNo⟩
        case measure => simp [intOf]; omega
      | true =>
        have q9 : w2.cell? ⟨b9, 1, none⟩ = some (.string (nm kk.x)) := (cells_at (F2.get 0 rfl) rfl).1
        go_wp2_with fail
        refine (HUi.out _).mono ?_
        rintro e w3 ⟨rfl, hb⟩
        replace F2 := F2.blk hb
        clear hb q9
        cases U with
        | true =>
          have HNo := Hid.mk (HNA.out rfl)
          have F5 := F2.tl
          clear F2 HNA R1i
          go_wp2
          go_roundw
          case rel => exact ⟨i + 1, by omega, by go_num, F5, HNo⟩
          case measure => simp [intOf]; omega
        | false =>
          have l9 := lkLoad_run (F2.get 0 rfl)
          go_wp2_with fail
          refine (HEi.out _ (HL.out.blk F2.bel)).mono ?_
          rintro e w4 ⟨rfl, hb⟩
          replace F2 := F2.blk hb
          clear hb l9
          go_wp2_with fail
          refine (HLi.out _).mono ?_
          rintro e w5 ⟨⟨q5, c5, rfl⟩, hb⟩
          replace F2 := F2.blk hb
          clear hb
          by_cases hle : el ≤ ml
          · have hd : decide ((el : Int) ≤ (ml : Int)) = true := decide_eq_true (by omega)
            have er := Hid.mk (R1i.out (by simp [hle]))
            have hle' : (el : Int) ≤ (ml : Int) := by omega
            have hd2 : decide (el ≤ ml) = true := decide_eq_true hle
            clear HNA R1i
            go_wp2
            go_ret
            exact ⟨by rw [er.out]; rfl, F2.bel⟩
          · have hd : decide ((el : Int) ≤ (ml : Int)) = false := decide_eq_false (by omega)
            have HNo := Hid.mk (HNA.out (by simp; omega))
            have F5 := F2.tl
            have hd2 : decide (el ≤ ml) = false := decide_eq_false hle
            clear F2 HNA R1i
            go_wp2
            go_roundw
            case rel => exact ⟨i + 1, by omega, by go_num, F5, HNo⟩
            case measure => simp [intOf]; omega
    · obtain rfl : i = m := by omega
      have er := Hid.mk (R0.out fun j hj => hno j hj (by rw [← HM.out]; exact hj))
      clear hno R0 R1
      go_wp2
      go_ret
      exact ⟨by rw [er.out]; rfl, Fr.bel⟩
end Go.Proofs.YtaiakpigljcjbaaGreatDoor

/- data.Nsec of right data, its types in a row of their own. -/
namespace Go.Proofs.YtaiakpigljcjbaaGreatDoor
set_option linter.unusedVariables false
open Go.RowKit
/-- ints, in a block of ints. -/
def IntsT (W : World) (v : Value) (l : List Int) : Prop := IntsAt W v l ∧ ∀ g o n c, v = .slice (some ⟨g, o, none⟩) n c → ∃ cs fz, W.heap[g]? = some (.cells cs 3 fz)
theorem IntsT.below {W W' : World} {v : Value} {l : List Int} (h : IntsT W v l) (hb : Below W.heap.size W W') : IntsT W' v l := by
  refine ⟨h.1.below hb, fun g o n c hv => ?_⟩
  obtain ⟨cs, fz, hg⟩ := h.2 g o n c hv
  exact ⟨cs, fz, (hb.block g (box_lt hg)).trans hg⟩
theorem intsT_of_row {W : World} {n₀ : Nat} {v : Value} {l : List Nat} (h : W.ownsRow n₀ 3 1 v l.length (intsV l)) : IntsT W v (l.map fun n => ((n : Nat) : Int)) := by
  refine ⟨ints_of_row h, fun g o n c hv => ?_⟩
  rcases h.2 with ⟨h0, _⟩ | ⟨g', cap, cur, h1, _, hg, _⟩
  · rw [h0] at hv; cases hv
  · rw [h1] at hv; cases hv; exact ⟨cur, _, hg⟩
set_option maxRecDepth 100000 in
set_option maxHeartbeats 4000000 in
theorem nsec_good (d p0 p1 : ByteArray) (tl : List Nat) (hsp : splitR 47 d = some [p0, p1]) (htl : typesR p1 = some tl) (W : World) :
    Calls Tryz.prog 67 #[.string d] W fun e w' => (∃ tv, e = .returned (.tuple #[.agg #[.string p0, tv], .int .i64 0]) ∧ IntsT w' tv (tl.map fun n => ((n : Nat) : Int))) ∧ Below W.heap.size W w' := by
  have hsz := ((split_iff 47 d _).1 hsp).2.1
  have HS := Hid.mk (split_all 47 d (by unfold maxLen; omega))
  have hmo : Tryz.prog.follows Departure.mixedOrders = true := by kernel_rfl
  have hcs : p0.size + p1.size ≤ 2000 := by
    have hd := ((split_iff 47 d _).1 hsp).2.2.1
    rw [hd] at hsz
    simp only [cat, app_size] at hsz
    have : (⟨#[]⟩ : ByteArray).size = 0 := rfl
    omega
  have HTY := Hid.mk (fun w => typesOf_in w p1 (by omega))
  rw [htl] at HTY
  rw [hsp] at HS
  clear hsp htl hsz
  go_enter Tryz.func67, Tryz.ntmps67
  go_wp2_with fail
  refine (HS.out _).mono ?_
  rintro e w1 ⟨⟨v, rfl, hrow⟩, hb1⟩
  obtain ⟨q, c, hv⟩ := row_as hrow
  subst hv
  obtain ⟨g, hq, hgl, _⟩ := row_cell hrow 0 (by simp)
  subst hq
  obtain ⟨_, _, hgb⟩ := row_frozen (j := 0) hrow (by simp)
  simp only [World.size_alloc] at hgb
  have hgne : g ≠ W.heap.size := by omega
  have hgne2 : W.heap.size ≠ g := by omega
  have r0 : w1.cell? ⟨g, 0, none⟩ = some (.string p0) := row_at hrow 0 p0 rfl
  have r1 : w1.cell? ⟨g, 1, none⟩ = some (.string p1) := row_at hrow 1 p1 rfl
  have hbx := (hb1.block _ (by simp)).trans (heap_new W (.cells #[.string ⟨#[]⟩, .slice none 0 0] 90))
  have HL : Hid (∀ (G : Prop) (v1 : Value) (x1 : World), x1.ownsRow w1.drew.heap.size 3 1 v1 tl.length (intsV tl) → Below w1.drew.heap.size w1.drew x1 →
      (∀ q1 c1, v1 = .slice q1 tl.length c1 → x1.cell? ⟨g, 0, none⟩ = some (.string p0) → x1.cell? ⟨g, 1, none⟩ = some (.string p1) → x1.heap[W.heap.size]? = some (.cells #[.string ⟨#[]⟩, .slice none 0 0] 90 (0, 0)) →
        x1.cell? ⟨W.heap.size, 0, none⟩ = some (.string ⟨#[]⟩) → x1.frozen? ⟨W.heap.size, 0, none⟩ = false → x1.cell? ⟨W.heap.size, 1, none⟩ = some (.slice none 0 0) → x1.frozen? ⟨W.heap.size, 1, none⟩ = false → Below w1.heap.size w1 x1 → G) → G) := by
    intro G v1 x1 hr hb hG
    obtain ⟨q1, c1, hv1⟩ := row_as hr
    have hb' : Below w1.heap.size w1 x1 := ⟨hb.os, hb.tape, hb.output, hb.size, hb.block⟩
    have hx1 := (hb'.block _ (box_lt hbx)).trans hbx
    obtain ⟨e0, e1⟩ := cells_at (v := .string ⟨#[]⟩) (j := 0) hx1 rfl
    obtain ⟨e2, e3⟩ := cells_at (v := .slice none 0 0) (j := 1) hx1 rfl
    exact hG q1 c1 hv1 ((hb'.cell (p := ⟨g, 0, none⟩) hgl).trans r0) ((hb'.cell (p := ⟨g, 1, none⟩) hgl).trans r1) hx1 e0 e1 e2 e3 hb'
  clear hrow hbx
  go_wp2
  go_region_held3 (fun w' => w'.cell? ⟨g, 0, none⟩ = some (.string p0) ∧ w'.cell? ⟨g, 1, none⟩ = some (.string p1)) (first | ((repeat' apply And.intro) <;> assumption) | go_keep)
    (first | (go_at_call 91; refine (HTY.out _).mono ?_; rintro e x1 ⟨⟨v1, rfl, hrow1⟩, y1⟩; refine HL.out _ v1 x1 hrow1 y1 ?_; intro q1 c1 hv1 s0 s1 hx1 b0 g0 b1 g1 hbb; subst hv1))
  go_wp2
  have hfin : ((x1.setCell ⟨W.heap.size, 0, none⟩ (.string p0)).setCell ⟨W.heap.size, 1, none⟩ (.slice q1 tl.length c1)).heap[W.heap.size]? = some (.cells #[.string p0, .slice q1 tl.length c1] 90 (0, 0)) := cells_put (j := 1) (cells_put (j := 0) hx1 (.string p0)) (.slice q1 tl.length c1)
  have hW1 : W.heap.size < w1.heap.size := by have := hb1.size; simp at this; omega
  have hin : IntsT ((x1.setCell ⟨W.heap.size, 0, none⟩ (.string p0)).setCell ⟨W.heap.size, 1, none⟩ (.slice q1 tl.length c1)) (.slice q1 tl.length c1) (tl.map fun n => ((n : Nat) : Int)) := by
    have h1 := ownsRow_setCell_below (ownsRow_setCell_below hrow1 (a := ⟨W.heap.size, 0, none⟩) hW1 (.string p0)) (a := ⟨W.heap.size, 1, none⟩) hW1 (.slice q1 tl.length c1)
    exact intsT_of_row (W := ((x1.setCell ⟨W.heap.size, 0, none⟩ (.string p0)).setCell ⟨W.heap.size, 1, none⟩ (.slice q1 tl.length c1))) h1
  refine bodyPost_ret (v := .tuple #[.agg #[.string p0, .slice q1 tl.length c1], .int .i64 0]) (by simp [results, Tryz.results67, go_sem, (cells_at (v := .string p0) (j := 0) hfin rfl).1, (cells_at (v := .slice q1 tl.length c1) (j := 1) hfin rfl).1]) rfl ⟨⟨_, rfl, hin⟩, ?_⟩
  have hW2 : Below W.heap.size W x1 := (((Below.refl _ _).alloc (Nat.le_refl _) _).trans (hb1.mono (by simp))).trans (hbb.mono (by omega))
  exact (hW2.setCell (p := ⟨W.heap.size, 0, none⟩) (Nat.le_refl _) _).setCell (p := ⟨W.heap.size, 1, none⟩) (Nat.le_refl _) _
theorem right_good (d : ByteArray) {ps : List ByteArray} (hsp : splitR 47 d = some ps) (W : World) : Calls Tryz.prog 124 #[.int .i64 47, .string d] W fun e w' => e = .returned (.bool true) ∧ Below W.heap.size W w' := by
  have hsz := ((split_iff 47 d _).1 hsp).2.1
  refine (right_all 47 d (by unfold maxLen; omega) W).mono fun e w' ⟨h1, h2⟩ => ⟨?_, h2⟩
  rw [h1, hsp]
  rfl
end Go.Proofs.YtaiakpigljcjbaaGreatDoor
