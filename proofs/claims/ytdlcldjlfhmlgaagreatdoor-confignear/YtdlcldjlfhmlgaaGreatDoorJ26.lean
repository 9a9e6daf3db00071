/- Texts of this proof, joined: LfN, AhNe, AhBy, LfK, DBytes, DRefF. -/
import Derived.Test.YtdlcldjlfhmlgaaGreatDoorJ25
import Derived.Test.YtdlcldjlfhmlgaaGreatDoorJ24
import Derived.Test.YtdlcldjlfhmlgaaGreatDoorJ18
import Derived.Test.YtdlcldjlfhmlgaaGreatDoorJ23
import Derived.Laws.AppendOwn
import Derived.Lib.ItoaMem
import Derived.Deep.RegionHeld3
import Derived.Test.YtdlcldjlfhmlgaaGreatDoorJ20
import Derived.Test.YtdlcldjlfhmlgaaGreatDoorJ6
import Derived.Test.YtdlcldjlfhmlgaaGreatDoorJ9
import Derived.Test.YtdlcldjlfhmlgaaGreatDoorJ7
set_option linter.unusedVariables false
set_option linter.unusedSimpArgs false
/- Layer 15: the law's examples. -/
namespace Go.Proofs.YtdlcldjlfhmlgaaGreatDoor
open Go.RowKit
def cf0 : Cf := ⟨[], [], [], [], [], 0, 0, 0, 0⟩
def cf1 : Cf := ⟨[⟨false, 0, 0⟩], [], [], [], [], 1, 1, 1, 1⟩
def na : N3 := [[97]]
def nba : N3 := [[98], [97]]
def ncba : N3 := [[99], [98], [97]]
def nx : N3 := [[120]]
def cf2 : Cf := ⟨[], [], [], [⟨nm na, [], false⟩, ⟨nm nba, [], true⟩], [], 0, 0, 0, 0⟩
theorem ok_na : OkN na := ok_dec (by decide) (by decide)
theorem ok_nba : OkN nba := ok_dec (by decide) (by decide)
theorem ok_ncba : OkN ncba := ok_dec (by decide) (by decide)
theorem ok_nx : OkN nx := ok_dec (by decide) (by decide)
theorem chk_cf0 : chkR cf0 = 0 := chkR_at cf0 0 (by omega) (by decide) (fun j hj => by omega)
theorem okL_nil : okL [] := ⟨fun z hz => by simp at hz, by simp⟩
theorem chk_cf1 : chkR cf1 = 6 := by
 classical
 refine chkR_none cf1 fun j hj => ?_
 match j, hj with
 | 0, _ => decide
 | 1, _ => exact decide_eq_true A.OkRs.nil
 | 2, _ => exact decide_eq_true okL_nil
 | 3, _ => exact upsR_yes (fun u hu => by simp [cf1] at hu) (by simp [cf1])
 | 4, _ => exact ansOk_yes fun a ha => by simp [cf1] at ha
 | 5, _ => decide
theorem best1 : bestN (cf2.up.map Up.nm) (nm ncba) 2 = some 1 := by
 have e0 : nmI (cf2.up.map Up.nm) 0 = nm na := rfl
 have e1 : nmI (cf2.up.map Up.nm) 1 = nm nba := rfl
 have h0 : bestN (cf2.up.map Up.nm) (nm ncba) 1 = some 0 := bestN_first (by rw [e0, undF_nm ok_ncba ok_na]; decide) rfl
 exact bestN_more (by rw [e1, undF_nm ok_ncba ok_nba]; decide) h0 (by rw [e0, e1, manyF_nm ok_na, manyF_nm ok_nba]; decide)
theorem best2 : bestN (cf2.up.map Up.nm) (nm na) 2 = some 0 := by
 have e0 : nmI (cf2.up.map Up.nm) 0 = nm na := rfl
 have e1 : nmI (cf2.up.map Up.nm) 1 = nm nba := rfl
 have h0 : bestN (cf2.up.map Up.nm) (nm na) 1 = some 0 := bestN_first (by rw [e0, undF_nm ok_na ok_na]; decide) rfl
 rw [bestN_skip (by rw [e1, undF_nm ok_na ok_nba]; decide)]
 exact h0
theorem best3 : bestN (cf2.up.map Up.nm) (nm nx) 2 = none := by
 have e0 : nmI (cf2.up.map Up.nm) 0 = nm na := rfl
 have e1 : nmI (cf2.up.map Up.nm) 1 = nm nba := rfl
 rw [bestN_skip (by rw [e1, undF_nm ok_nx ok_nba]; decide), bestN_skip (by rw [e0, undF_nm ok_nx ok_na]; decide)]
 rfl
theorem ads_nil (w : World) (q : Option Addr) : A.AdsAt w q [] := fun j hj => by simp at hj
theorem rls_nil (w : World) (q : Option Addr) : A.RlsAt w q [] := fun j hj => by simp at hj
theorem lcs_nil (w : World) (q : Option Addr) : LcsAt w q [] := fun j hj => by simp at hj
theorem ups_nil (w : World) (q : Option Addr) : UpsAt w q [] := fun j hj => by simp at hj
theorem ans_nil (w : World) (q : Option Addr) : AnsAt w q [] := fun j hj => by simp at hj
theorem sh_nil : ShC 0 0 none := ⟨Nat.le_refl _, Nat.zero_le _, fun _ => rfl⟩
theorem sh_some (n : Nat) (a : Addr) (h : n ≤ maxLen) : ShC n n (some a) := ⟨Nat.le_refl _, h, fun e => by cases e⟩
theorem ex_check0 (w : World) : Calls Tryz.prog 17 #[.agg #[.slice none 0 0, .slice none 0 0, .slice none 0 0, .slice none 0 0, .slice none 0 0, .int .i64 0, .int .i64 0, .int .i64 0, .int .i64 0]] w fun e w' => e = .returned (.tuple #[.string ⟨#[114, 111, 111, 116, 115]⟩, .int .i64 12]) ∧ Below w.heap.size w w' := by
 have := check_in w ⟨none, 0, none, 0, none, 0, none, 0, none, 0⟩ cf0 ⟨ads_nil _ _, rls_nil _ _, lcs_nil _ _, ups_nil _ _, ans_nil _ _, sh_nil, sh_nil, sh_nil, sh_nil, sh_nil⟩ ⟨fun _ h => by simp [cf0] at h, fun _ h => by simp [cf0] at h, fun _ h => by simp [cf0] at h, fun _ h => by simp [cf0] at h, fun _ h => by simp [cf0] at h, ⟨by decide, by decide⟩, ⟨by decide, by decide⟩, ⟨by decide, by decide⟩, ⟨by decide, by decide⟩, by decide, by decide, by decide, by decide, by decide⟩ (by decide)
 unfold chkE at this
 rw [chk_cf0] at this
 exact this
theorem ex_check1 (w : World) {B : Nat} (hB : w.heap[B]? = some (.cells #[.bool false, .int .u64 0, .int .u64 0] 66 (0, 0))) : Calls Tryz.prog 17 #[.agg #[.slice (some ⟨B, 0, none⟩) 1 1, .slice none 0 0, .slice none 0 0, .slice none 0 0, .slice none 0 0, .int .i64 1, .int .i64 1, .int .i64 1, .int .i64 1]] w fun e w' => e = .returned (.tuple #[.string ⟨#[]⟩, .int .i64 0]) ∧ Below w.heap.size w w' := by
 have := check_in w ⟨some ⟨B, 0, none⟩, 1, none, 0, none, 0, none, 0, none, 0⟩ cf1 ⟨fun j hj => by
  have hj0 : j = 0 := by simp [cf1] at hj; omega
  subst hj0
  exact ⟨B, 0, rfl, (Array.getElem?_eq_some_iff.1 hB).1, by rw [So.cell_blk hB]; rfl, by rw [So.cell_blk hB]; rfl, by rw [So.cell_blk hB]; rfl⟩, rls_nil _ _, lcs_nil _ _, ups_nil _ _, ans_nil _ _, sh_some 1 _ (by decide), sh_nil, sh_nil, sh_nil, sh_nil⟩ ⟨fun a h => by
   simp [cf1] at h
   subst h
   exact ⟨by decide, by decide⟩, fun _ h => by simp [cf1] at h, fun _ h => by simp [cf1] at h, fun _ h => by simp [cf1] at h, fun _ h => by simp [cf1] at h, ⟨by decide, by decide⟩, ⟨by decide, by decide⟩, ⟨by decide, by decide⟩, ⟨by decide, by decide⟩, by decide, by decide, by decide, by decide, by decide⟩ (by decide)
 unfold chkE at this
 rw [chk_cf1] at this
 exact this
theorem own_form {w : World} {N : Nat} {ty : TypeId} {sz n : Nat} {v : Value} {l : List Value} (h : w.ownsRow N ty sz v n l) : ∃ q cap, v = .slice q n cap := by
 rcases h.2 with ⟨rfl, h0⟩ | ⟨g, cap, cur, rfl, _⟩
 ·exact ⟨none, 0, by rw [h0]⟩
 ·exact ⟨_, _, rfl⟩
theorem ex_ups (w : World) {B : Nat} (hB : w.heap[B]? = some (.cells #[.string ⟨#[1, 97, 0]⟩, .slice none 0 0, .bool false, .string ⟨#[1, 98, 1, 97, 0]⟩, .slice none 0 0, .bool true] 61 (0, 0))) (s : ByteArray) (hs : s.size ≤ maxLen) : Calls Tryz.prog 21 #[.agg #[.slice none 0 0, .slice none 0 0, .slice none 0 0, .slice (some ⟨B, 0, none⟩) 2 2, .slice none 0 0, .int .i64 0, .int .i64 0, .int .i64 0, .int .i64 0], .string s] w fun e w' => UpP w cf2 s e w' := by
 have := upstream_in w ⟨none, 0, none, 0, none, 0, some ⟨B, 0, none⟩, 2, none, 0⟩ cf2 ⟨ads_nil _ _, rls_nil _ _, lcs_nil _ _, fun j hj => by
  have hj' : j < 2 := hj
  match j, hj' with
  | 0, _ => exact ⟨B, 0, none, 0, rfl, (Array.getElem?_eq_some_iff.1 hB).1, by rw [So.cell_blk hB]; rfl, by rw [So.cell_blk hB]; rfl, by rw [So.cell_blk hB]; rfl, ads_nil _ _, sh_nil⟩
  | 1, _ => exact ⟨B, 0, none, 0, rfl, (Array.getElem?_eq_some_iff.1 hB).1, by rw [So.cell_blk hB]; rfl, by rw [So.cell_blk hB]; rfl, by rw [So.cell_blk hB]; rfl, ads_nil _ _, sh_nil⟩, ans_nil _ _, sh_nil, sh_nil, sh_nil, sh_some 2 _ (by decide), sh_nil⟩ ⟨fun _ h => by simp [cf2] at h, fun _ h => by simp [cf2] at h, fun _ h => by simp [cf2] at h, fun u h => by
   simp [cf2] at h
   rcases h with rfl | rfl
   ·exact ⟨by decide, fun _ h => by simp at h, by decide⟩
   ·exact ⟨by decide, fun _ h => by simp at h, by decide⟩, fun _ h => by simp [cf2] at h, ⟨by decide, by decide⟩, ⟨by decide, by decide⟩, ⟨by decide, by decide⟩, ⟨by decide, by decide⟩, by decide, by decide, by decide, by decide, by decide⟩ s hs
 exact this
theorem ex_up1 (w : World) {B : Nat} (hB : w.heap[B]? = some (.cells #[.string ⟨#[1, 97, 0]⟩, .slice none 0 0, .bool false, .string ⟨#[1, 98, 1, 97, 0]⟩, .slice none 0 0, .bool true] 61 (0, 0))) : Calls Tryz.prog 21 #[.agg #[.slice none 0 0, .slice none 0 0, .slice none 0 0, .slice (some ⟨B, 0, none⟩) 2 2, .slice none 0 0, .int .i64 0, .int .i64 0, .int .i64 0, .int .i64 0], .string ⟨#[1, 99, 1, 98, 1, 97, 0]⟩] w fun e w' => (∃ q cap, e = .returned (.tuple #[.agg #[.string ⟨#[1, 98, 1, 97, 0]⟩, .slice q 0 cap, .bool true], .bool true])) ∧ Below w.heap.size w w' := by
 refine (ex_ups w hB ⟨#[1, 99, 1, 98, 1, 97, 0]⟩ (by decide)).mono ?_
 rintro e w' ⟨⟨h1, _⟩ | ⟨b, hb, h1, v', rfl, hown⟩, hbel⟩
 ·have := best1.symm.trans h1; cases this
 ·have e1 : (1 : Nat) = b := Option.some.inj (best1.symm.trans h1)
  subst e1
  obtain ⟨q, cap, rfl⟩ := own_form hown
  exact ⟨⟨q, cap, rfl⟩, hbel⟩
theorem ex_up2 (w : World) {B : Nat} (hB : w.heap[B]? = some (.cells #[.string ⟨#[1, 97, 0]⟩, .slice none 0 0, .bool false, .string ⟨#[1, 98, 1, 97, 0]⟩, .slice none 0 0, .bool true] 61 (0, 0))) : Calls Tryz.prog 21 #[.agg #[.slice none 0 0, .slice none 0 0, .slice none 0 0, .slice (some ⟨B, 0, none⟩) 2 2, .slice none 0 0, .int .i64 0, .int .i64 0, .int .i64 0, .int .i64 0], .string ⟨#[1, 97, 0]⟩] w fun e w' => (∃ q cap, e = .returned (.tuple #[.agg #[.string ⟨#[1, 97, 0]⟩, .slice q 0 cap, .bool false], .bool true])) ∧ Below w.heap.size w w' := by
 refine (ex_ups w hB ⟨#[1, 97, 0]⟩ (by decide)).mono ?_
 rintro e w' ⟨⟨h1, _⟩ | ⟨b, hb, h1, v', rfl, hown⟩, hbel⟩
 ·have := best2.symm.trans h1; cases this
 ·have e1 : (0 : Nat) = b := Option.some.inj (best2.symm.trans h1)
  subst e1
  obtain ⟨q, cap, rfl⟩ := own_form hown
  exact ⟨⟨q, cap, rfl⟩, hbel⟩
theorem ex_up3 (w : World) {B : Nat} (hB : w.heap[B]? = some (.cells #[.string ⟨#[1, 97, 0]⟩, .slice none 0 0, .bool false, .string ⟨#[1, 98, 1, 97, 0]⟩, .slice none 0 0, .bool true] 61 (0, 0))) : Calls Tryz.prog 21 #[.agg #[.slice none 0 0, .slice none 0 0, .slice none 0 0, .slice (some ⟨B, 0, none⟩) 2 2, .slice none 0 0, .int .i64 0, .int .i64 0, .int .i64 0, .int .i64 0], .string ⟨#[1, 120, 0]⟩] w fun e w' => e = .returned (.tuple #[.agg #[.string ⟨#[]⟩, .slice none 0 0, .bool false], .bool false]) ∧ Below w.heap.size w w' := by
 refine (ex_ups w hB ⟨#[1, 120, 0]⟩ (by decide)).mono ?_
 rintro e w' ⟨⟨h1, rfl⟩ | ⟨b, hb, h1, v', rfl, hown⟩, hbel⟩
 ·exact ⟨rfl, hbel⟩
 ·have := best3.symm.trans h1; cases this
set_option maxRecDepth 100000 in
set_option maxHeartbeats 4000000 in
theorem examples15_in (W : World) : Calls Tryz.prog 16 #[] W fun e w' => e = .returned (.bool true) ∧ Below W.heap.size W w' := by
 have HC0 := Hid.mk ex_check0
 have HC1 := Hid.mk @ex_check1
 have HU1 := Hid.mk @ex_up1
 have HU2 := Hid.mk @ex_up2
 have HU3 := Hid.mk @ex_up3
 go_enter Tryz.func16, Tryz.ntmps16
 go_wp2_with fail
 refine (HC0.out _).mono ?_
 rintro e w1 ⟨rfl, hb1⟩
 have HB1 := Hid.mk hb1
 clear hb1
 go_wp2_with fail
 obtain ⟨R2, hR2⟩ : ∃ R2, w1.alloc (.cells #[.bool false, .int .u64 0, .int .u64 0] 66) = R2 := ⟨_, rfl⟩
 have hx2 : R2.heap[w1.heap.size]? = some (.cells #[.bool false, .int .u64 0, .int .u64 0] 66 (0, 0)) := hR2 ▸ heap_alloc_new w1 _
 have hb2 : Below w1.heap.size w1 R2 := hR2 ▸ (Below.refl _ _).alloc (Nat.le_refl _) _
 have HB2 := Hid.mk (HB1.out.trans (hb2.mono HB1.out.size))
 rw [hR2]
 refine (HC1.out R2 hx2).mono ?_
 rintro e w3 ⟨rfl, hb3⟩
 have HB3 := Hid.mk (HB2.out.trans (hb3.mono HB2.out.size))
 clear hR2 hx2 hb2 hb3
 obtain ⟨R4, hR4⟩ : ∃ R4, w3.alloc (.cells #[.string ⟨#[1, 97, 0]⟩, .slice none 0 0, .bool false, .string ⟨#[1, 98, 1, 97, 0]⟩, .slice none 0 0, .bool true] 61) = R4 := ⟨_, rfl⟩
 obtain ⟨B, hB⟩ : ∃ B, w3.heap.size = B := ⟨_, rfl⟩
 have hx4 : R4.heap[B]? = some (.cells #[.string ⟨#[1, 97, 0]⟩, .slice none 0 0, .bool false, .string ⟨#[1, 98, 1, 97, 0]⟩, .slice none 0 0, .bool true] 61 (0, 0)) := by rw [← hB, ← hR4]; exact heap_alloc_new w3 _
 have hb4 : Below w3.heap.size w3 R4 := hR4 ▸ (Below.refl _ _).alloc (Nat.le_refl _) _
 have hs4 : R4.heap.size = B + 1 := by rw [← hR4, ← hB]; simp
 obtain ⟨R5, hR5⟩ : ∃ R5, R4.alloc (.cells #[.slice none 0 0, .slice none 0 0, .slice none 0 0, .slice (some ⟨B, 0, none⟩) 2 2, .slice none 0 0, .int .i64 0, .int .i64 0, .int .i64 0, .int .i64 0] 51) = R5 := ⟨_, rfl⟩
 have X5 : Bx R4 R4.heap.size [.slice none 0 0, .slice none 0 0, .slice none 0 0, .slice (some ⟨B, 0, none⟩) 2 2, .slice none 0 0, .int .i64 0, .int .i64 0, .int .i64 0, .int .i64 0] 51 R5 := hR5 ▸ Bx.new R4 _ _
 rw [hs4] at X5
 have HK : Hid (∀ w, Below R5.heap.size R5 w → Below W.heap.size W w ∧ w.heap[B]? = some (.cells #[.string ⟨#[1, 97, 0]⟩, .slice none 0 0, .bool false, .string ⟨#[1, 98, 1, 97, 0]⟩, .slice none 0 0, .bool true] 61 (0, 0)) ∧ ∀ i v, [Value.slice none 0 0, .slice none 0 0, .slice none 0 0, .slice (some ⟨B, 0, none⟩) 2 2, .slice none 0 0, .int .i64 0, .int .i64 0, .int .i64 0, .int .i64 0][i]? = some v → w.cell? ⟨B + 1, i, none⟩ = some v) := fun w hb => by
  have h1 := HB3.out.trans (hb4.mono HB3.out.size)
  have h2 := h1.trans (X5.bel.mono h1.size)
  have h3 := (X5.bel.block B (by omega)).trans hx4
  exact ⟨h2.trans (hb.mono h2.size), (hb.block B (Array.getElem?_eq_some_iff.1 h3).1).trans h3, fun i v hv => (X5.blk hb).cell i v hv⟩
 have HR4 := Hid.mk hR4
 have HR5 := Hid.mk hR5
 have HBe := Hid.mk hB
 clear hR4 hB hx4 hb4 hs4 hR5 X5
 go_upto_region 4 with fail
 rw [HR4.out, HBe.out]
 first | rw [HR5.out] | skip
 obtain ⟨_, k0, kc⟩ := HK.out R5 (Below.refl _ _)
 have z0 := kc 0 _ rfl
 have z1 := kc 1 _ rfl
 have z2 := kc 2 _ rfl
 have z3 := kc 3 _ rfl
 have z4 := kc 4 _ rfl
 have z5 := kc 5 _ rfl
 have z6 := kc 6 _ rfl
 have z7 := kc 7 _ rfl
 have z8 := kc 8 _ rfl
 have HU1a := Hid.mk (HU1.out R5 k0)
 clear k0 kc
 go_wp2_with fail
 refine HU1a.out.mono ?_
 rintro e w6 ⟨⟨q6, c6, rfl⟩, hb6⟩
 clear z0 z1 z2 z3 z4 z5 z6 z7 z8
 obtain ⟨R7, hR7⟩ : ∃ R7, w6.alloc (.cells #[.string ⟨#[1, 98, 1, 97, 0]⟩, .slice q6 0 c6, .bool true] 61) = R7 := ⟨_, rfl⟩
 have X7 : Bx w6 w6.heap.size [.string ⟨#[1, 98, 1, 97, 0]⟩, .slice q6 0 c6, .bool true] 61 R7 := hR7 ▸ Bx.new w6 _ _
 obtain ⟨B7, hB7⟩ : ∃ B7, w6.heap.size = B7 := ⟨_, rfl⟩
 rw [hB7] at X7
 have hb7 : Below R5.heap.size R5 R7 := hb6.trans (X7.bel.mono hb6.size)
 obtain ⟨_, k0, kc⟩ := HK.out R7 hb7
 have z0 := kc 0 _ rfl
 have z1 := kc 1 _ rfl
 have z2 := kc 2 _ rfl
 have z3 := kc 3 _ rfl
 have z4 := kc 4 _ rfl
 have z5 := kc 5 _ rfl
 have z6 := kc 6 _ rfl
 have z7 := kc 7 _ rfl
 have z8 := kc 8 _ rfl
 have HU2a := Hid.mk (HU2.out R7 k0)
 have HR7 := Hid.mk hR7
 have HB7 := Hid.mk hB7
 have HX7 := Hid.mk X7
 have Hb7 := Hid.mk hb7
 clear k0 kc hR7 hB7 X7 hb7 hb6
 go_upto_region 5 with fail
 rw [HR7.out, HB7.out]
 go_wp2_with fail
 refine HU2a.out.mono ?_
 rintro e w8 ⟨⟨q8, c8, rfl⟩, hb8⟩
 clear z0 z1 z2 z3 z4 z5 z6 z7 z8
 obtain ⟨R9, hR9⟩ : ∃ R9, w8.alloc (.cells #[.string ⟨#[1, 97, 0]⟩, .slice q8 0 c8, .bool false] 61) = R9 := ⟨_, rfl⟩
 have X9 : Bx w8 w8.heap.size [.string ⟨#[1, 97, 0]⟩, .slice q8 0 c8, .bool false] 61 R9 := hR9 ▸ Bx.new w8 _ _
 obtain ⟨B9, hB9⟩ : ∃ B9, w8.heap.size = B9 := ⟨_, rfl⟩
 rw [hB9] at X9
 have hb9 : Below R7.heap.size R7 R9 := hb8.trans (X9.bel.mono hb8.size)
 obtain ⟨_, k0, kc⟩ := HK.out R9 (Hb7.out.trans (hb9.mono Hb7.out.size))
 have z0 := kc 0 _ rfl
 have z1 := kc 1 _ rfl
 have z2 := kc 2 _ rfl
 have z3 := kc 3 _ rfl
 have z4 := kc 4 _ rfl
 have z5 := kc 5 _ rfl
 have z6 := kc 6 _ rfl
 have z7 := kc 7 _ rfl
 have z8 := kc 8 _ rfl
 have HU3a := Hid.mk (HU3.out R9 k0)
 have HR9 := Hid.mk hR9
 have HB9 := Hid.mk hB9
 have HX9 := Hid.mk X9
 have Hb9 := Hid.mk hb9
 clear k0 kc hR9 hB9 X9 hb9 hb8
 go_upto_region 6 with fail
 rw [HR9.out, HB9.out]
 go_wp2_with fail
 refine HU3a.out.mono ?_
 rintro e w10 ⟨rfl, hb10⟩
 clear z0 z1 z2 z3 z4 z5 z6 z7 z8
 have HF : Hid (∀ o : Obj, Below W.heap.size W (w10.alloc o) ∧ (w10.alloc o).cell? ⟨B7, 2, none⟩ = some (.bool true) ∧ (w10.alloc o).cell? ⟨B9, 2, none⟩ = some (.bool false)) := fun o => by
  have h1 : Below R9.heap.size R9 (w10.alloc o) := hb10.alloc hb10.size _
  refine ⟨(HK.out _ ((Hb7.out.trans (Hb9.out.mono Hb7.out.size)).trans (h1.mono (Nat.le_trans Hb7.out.size Hb9.out.size)))).1, (HX7.out.blk (Hb9.out.trans (h1.mono Hb9.out.size))).cell 2 _ rfl, (HX9.out.blk h1).cell 2 _ rfl⟩
 obtain ⟨fb, f7, f9⟩ := HF.out (.cells #[.string ⟨#[]⟩, .slice none 0 0, .bool false] 61)
 have HE := Hid.mk fb
 clear fb hb10
 go_wp2
 go_ret
 exact ⟨rfl, HE.out⟩
end Go.Proofs.YtdlcldjlfhmlgaaGreatDoor
/- Layer 13: addresses and prefixes that are not the same. -/
namespace Go.Proofs.YtdlcldjlfhmlgaaGreatDoor.A
open Go.RowKit
def adNeV (x y : Value) : Sem Value := binOp .neq 66 x y
theorem bin_adn (x y : Value) : binOp .neq 66 x y = adNeV x y := rfl
theorem adNeV_run (W : World) (v v' : Bool) (h l h' l' : Nat) : (adNeV (adV v h l) (adV v' h' l')).run Tryz.prog W = .ok (.bool (!decide ((⟨v, h, l⟩ : Ad) = ⟨v', h', l'⟩))) W := by
 unfold adNeV
 rw [run_neq_struct, adEq_run 9997 W]
 rfl
end Go.Proofs.YtdlcldjlfhmlgaaGreatDoor.A
/- Layer 13: the document's Right, width, bytes, bit. -/
namespace Go.Proofs.YtdlcldjlfhmlgaaGreatDoor.A
open Go.RowKit
def bv (l : List UInt8) : List Value := l.map fun b => .int .u8 (b.toNat : Int)
def bAppB (a : Array Value) : Sem Value := Builtin.append_ #[143, 143] 143 a
theorem app_b (a : Array Value) : Builtin.append_ #[143, 143] 143 a = bAppB a := rfl
theorem info5 : (Tryz.prog.info? 5).map (fun i => (i.zero, i.size, i.bytes)) = some (some (.int .u8 0), 1, 1) := by kernel_rfl
section
attribute [local go_sem ↓] app_b
end
end Go.Proofs.YtdlcldjlfhmlgaaGreatDoor.A
/- Layer 15: the document's servers, number, Anchors, upstreams (guidepostref15). -/
namespace Go.Proofs.YtdlcldjlfhmlgaaGreatDoor
open Go.RowKit
end Go.Proofs.YtdlcldjlfhmlgaaGreatDoor
/- bytesOf: a number as one, two or four bytes. -/
namespace Go.Proofs.YtdlcldjlfhmlgaaGreatDoor
open Go.RowKit
end Go.Proofs.YtdlcldjlfhmlgaaGreatDoor
/- The document's own reader, on bytes alone: what its steps say of data in pieces. -/
namespace Go.Proofs.YtdlcldjlfhmlgaaGreatDoor
open Go.RowKit
end Go.Proofs.YtdlcldjlfhmlgaaGreatDoor
