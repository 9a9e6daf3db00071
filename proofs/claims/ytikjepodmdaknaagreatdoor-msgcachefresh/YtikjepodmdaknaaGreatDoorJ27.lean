/- Texts of this proof, joined: McPut, McKv, McKvOps, McG. -/
import Derived.Test.YtikjepodmdaknaaGreatDoorJ26
import Derived.Test.YtikjepodmdaknaaGreatDoorJ16
import Derived.Test.YtikjepodmdaknaaGreatDoorJ25
import Derived.Laws.AppendOwn
import Derived.Laws.OwnMore
import Derived.Maps.AppendAt
set_option linter.unusedVariables false
set_option linter.unusedSimpArgs false
/- Layer 17's table: Look, Get, Drop, Put of a table. -/
namespace Go.Proofs.YtikjepodmdaknaaGreatDoor.Mc
open Go.RowKit
open Go.Proofs.YtikjepodmdaknaaGreatDoor.Rc (pt nilP Ky kV k0 Kp blk_lt frozen_of cell_same cell_set_o heap_set_same KOk KAt drew_heap drew_cell)
open Go.MapKept Go.WideMaps
open Go.Proofs.YtikjepodmdaknaaGreatDoor.Rc (load_all store_all row_self set_blk)
theorem find_hit {w : World} {T E M : Nat} {most : Int} {n : Nat} {L : List Ent} (h : Tab w T E M most n L) {e : Ent} (he : e ∈ L) :
  Calls Tryz.prog 109 #[pt T, kV e.k] w fun r w' => r = .returned (.tuple #[pt e.b, .bool true]) ∧ Below w.heap.size w w' := by
 refine (find_in w T M e.k _ h.c3 (blk_lt h.tb) (fun o0 o1 o2 => (((h.alloc o0).alloc o1).alloc o2).drew.mp.hit he (h.sz e he))).mono ?_
 rintro r w' ⟨rfl, rfl⟩
 exact ⟨rfl, ((((Below.refl _ _).alloc (Nat.le_refl _) _).alloc (by simp) _).alloc (by simp; omega) _).drew⟩
theorem find_miss {w : World} {T E M : Nat} {most : Int} {n : Nat} {L : List Ent} (h : Tab w T E M most n L) {k : Ky} (hk : ∀ e ∈ L, e.k ≠ k) (hs : KOk k) :
  Calls Tryz.prog 109 #[pt T, kV k] w fun r w' => r = .returned (.tuple #[nilP, .bool true]) ∧ Below w.heap.size w w' := by
 refine (find_in w T M k _ h.c3 (blk_lt h.tb) (fun o0 o1 o2 => (((h.alloc o0).alloc o1).alloc o2).drew.mp.miss hk hs)).mono ?_
 rintro r w' ⟨rfl, rfl⟩
 exact ⟨rfl, ((((Below.refl _ _).alloc (Nat.le_refl _) _).alloc (by simp) _).alloc (by simp; omega) _).drew⟩
theorem key_blk {w w1 : World} {k : Ky} (hb : Below (w.alloc (.cells #[.string k.1, .int .i64 k.2] 121 (0, 0))).heap.size (w.alloc (.cells #[.string k.1, .int .i64 k.2] 121 (0, 0))) w1) : w1.cell? ⟨w.heap.size, 0, none⟩ = some (.string k.1) ∧ w1.cell? ⟨w.heap.size, 1, none⟩ = some (.int .i64 k.2) := by
 have g : w1.heap[w.heap.size]? = some (.cells #[.string k.1, .int .i64 k.2] 121 (0, 0)) := (hb.block _ (by simp)).trans (heap_alloc_last _ _)
 exact ⟨by rw [cell_of_row _ _ _ _ _ _ g]; rfl, by rw [cell_of_row _ _ _ _ _ _ g]; rfl⟩
theorem below_key {w w1 : World} {o : Obj} (hb : Below (w.alloc o).heap.size (w.alloc o) w1) : Below w.heap.size w w1 := ((Below.refl _ _).alloc (Nat.le_refl _) _).trans (hb.mono (by simp))
section
attribute [local go_sem ↓] loadAt_kn storeAt_kn
theorem get_hit {w : World} {T E M : Nat} {most : Int} {n : Nat} {X Y : List Ent} {e : Ent} (h : Tab w T E M most n (X ++ e :: Y)) :
  Calls Tryz.prog 76 #[pt T, kV e.k] w fun r w' => r = .returned (.tuple #[vV e.v, .bool true]) ∧ Tab w' T E M most n (e :: (X ++ Y)) ∧ Kp (tS T E M (X ++ e :: Y)) w w' := by
 have HF := Hid.mk (find_hit ((h.alloc (kyO e.k)).alloc (vO vz)) (e := e) (by simp))
 have HP := Hid.mk (Bx.of2 w (kyO e.k) (vO vz))
 have HO := Hid.mk (fun b (hb : tS T E M (X ++ e :: Y) b) => h.lt hb)
 go_enter Tryz.func76, Tryz.ntmps76
 go_wp2_with fail
 refine HF.out.mono ?_
 rintro r w1 ⟨rfl, hb⟩
 have p1 := HP.out.blk hb
 have g1 := p1 0 _ rfl
 rw [Nat.add_zero] at g1
 have ck0 : w1.cell? ⟨w.heap.size, 0, none⟩ = some (.string e.k.1) := by rw [cell_of_row _ _ _ _ _ _ g1]; rfl
 have ck1 : w1.cell? ⟨w.heap.size, 1, none⟩ = some (.int .i64 e.k.2) := by rw [cell_of_row _ _ _ _ _ _ g1]; rfl
 replace hb := below2 hb
 have h1 := h.blk hb
 have HR := Hid.mk (renew_tab h1)
 have HP1 := Hid.mk p1
 clear p1 g1
 go_wp2_with fail
 refine HR.out.mono ?_
 rintro r w2 ⟨rfl, h2, k2⟩
 have cv := kn_at (h2.row.val e (by simp))
 have p2 := HP1.out.kp k2 (fun b hb => .inl (HO.out b hb))
 have g2 := p2 1 _ rfl
 have st := kn_put (v' := e.v) g2
 have HE := Hid.mk (fin_row h2 ((Kp.of_below hb).trans k2 (fun _ _ x => x)) (R := w.heap.size + 1) (by omega) (fun hh => by
  have := HO.out (w.heap.size + 1) (by
   rcases hh with x | x | x | x
   ·exact .inl x
   ·exact .inr (.inl x)
   ·exact .inr (.inr (.inl x))
   ·refine .inr (.inr (.inr (mem_bs_mid.2 ?_)))
    rcases List.mem_cons.1 (show w.heap.size + 1 ∈ e.b :: bs (X ++ Y) from x) with x | x
    ·exact .inr (.inl x)
    ·exact (mem_bs_app.1 x).imp id .inr)
  omega) (vC e.v).toArray)
 have HG := Hid.mk (row_self (c' := vC e.v) g2)
 clear h h1 h2 p2 g2 k2 hb ck0 ck1
 go_wp2
 refine bodyPost_ret (results_kn Tryz.results76 rfl rfl HG.out) rfl ?_
 exact ⟨rfl, HE.out⟩
theorem get_miss {w : World} {T E M : Nat} {most : Int} {n : Nat} {L : List Ent} (h : Tab w T E M most n L) {k : Ky} (hk : ∀ e ∈ L, e.k ≠ k) (hs : KOk k) :
  Calls Tryz.prog 76 #[pt T, kV k] w fun r w' => r = .returned (.tuple #[v0, .bool false]) ∧ Below w.heap.size w w' := by
 have HF := Hid.mk (find_miss ((h.alloc (kyO k)).alloc (vO vz)) hk hs)
 have HP := Hid.mk (Bx.of2 w (kyO k) (vO vz))
 clear hk
 go_enter Tryz.func76, Tryz.ntmps76
 go_wp2_with fail
 refine HF.out.mono ?_
 rintro r w1 ⟨rfl, hb⟩
 have p1 := HP.out.blk hb
 have g1 := p1 0 _ rfl
 rw [Nat.add_zero] at g1
 have ck0 : w1.cell? ⟨w.heap.size, 0, none⟩ = some (.string k.1) := by rw [cell_of_row _ _ _ _ _ _ g1]; rfl
 have ck1 : w1.cell? ⟨w.heap.size, 1, none⟩ = some (.int .i64 k.2) := by rw [cell_of_row _ _ _ _ _ _ g1]; rfl
 replace hb := below2 hb
 have hs1 : w.heap.size + 2 ≤ w1.heap.size := by
  have := p1.lt (by simp)
  simpa using this
 obtain ⟨U, hU⟩ : ∃ U, w1.alloc (vO vz) = U := ⟨_, rfl⟩
 have g0 : U.heap[w1.heap.size]? = some (vO vz) := by rw [← hU]; exact heap_alloc_last _ _
 have bU : Below w1.heap.size w1 U := by rw [← hU]; exact (Below.refl _ _).alloc (Nat.le_refl _) _
 have g2 := (p1.blk bU) 1 _ rfl
 have cv := kn_box g0
 have st := kn_put (v' := vz) g2
 have HE : Hid (Below w.heap.size w (U.setRow (w.heap.size + 1) (vC vz).toArray)) := below_setRow (hb.trans (bU.mono (by omega))) (by omega) _
 have HG := Hid.mk (row_self (c' := vC vz) g2)
 have HU := Hid.mk hU
 clear h p1 g1 g0 bU g2 hb hU hs1
 go_upto_region 4 with fail
 rw [HU.out]
 go_wp2
 refine bodyPost_ret (results_kn Tryz.results76 rfl rfl HG.out) rfl ?_
 exact ⟨rfl, HE.out⟩
end
theorem drop_hit {w : World} {T E M : Nat} {most : Int} {n : Nat} {X Y : List Ent} {e : Ent} (h : Tab w T E M most n (X ++ e :: Y)) :
  Calls Tryz.prog 68 #[pt T, kV e.k] w fun r w' => r = .returned (.bool true) ∧ Tab w' T E M most n (X ++ Y) ∧ Kp (tS T E M (X ++ e :: Y)) w w' := by
 have HF := Hid.mk (find_hit (h.alloc (.cells #[.string e.k.1, .int .i64 e.k.2] 121 (0, 0))) (e := e) (by simp))
 go_enter Tryz.func68, Tryz.ntmps68
 go_wp2_with fail
 refine HF.out.mono ?_
 rintro r w1 ⟨rfl, hb⟩
 obtain ⟨ck0, ck1⟩ := key_blk hb
 replace hb := below_key hb
 have h1 := h.blk hb
 have HR := Hid.mk (remove_tab h1)
 go_wp2_with fail
 refine HR.out.mono ?_
 rintro r w2 ⟨rfl, h2, k2, _⟩
 have HE := Hid.mk h2
 clear h h1 h2
 go_wp2
 go_ret
 exact ⟨rfl, HE.out, (Kp.of_below hb).trans k2 (fun _ _ x => x)⟩
theorem drop_miss {w : World} {T E M : Nat} {most : Int} {n : Nat} {L : List Ent} (h : Tab w T E M most n L) {k : Ky} (hk : ∀ e ∈ L, e.k ≠ k) (hs : KOk k) :
  Calls Tryz.prog 68 #[pt T, kV k] w fun r w' => r = .returned (.bool false) ∧ Below w.heap.size w w' := by
 have HF := Hid.mk (find_miss (h.alloc (.cells #[.string k.1, .int .i64 k.2] 121 (0, 0))) hk hs)
 clear hk
 go_enter Tryz.func68, Tryz.ntmps68
 go_wp2_with fail
 refine HF.out.mono ?_
 rintro r w1 ⟨rfl, hb⟩
 obtain ⟨ck0, ck1⟩ := key_blk hb
 replace hb := below_key hb
 clear h
 go_wp2
 go_ret
 exact ⟨rfl, hb⟩
theorem Tab.setVal {w : World} {T E M : Nat} {most : Int} {n : Nat} {X Y : List Ent} {e : Ent} (h : Tab w T E M most n (X ++ e :: Y)) (v : Vl) {c : List Value} (hc : w.heap[e.b]? = some (.cells c.toArray 197 (0, 0))) (hcl : c.length = 11) : Tab (w.setRow e.b (c.take 2 ++ vC v ++ c.drop 9).toArray) T E M most n (X ++ ⟨e.b, e.k, v⟩ :: Y) := by
 obtain ⟨u, hu⟩ : ∃ u, w.setRow e.b (c.take 2 ++ vC v ++ c.drop 9).toArray = u := ⟨_, rfl⟩
 rw [hu]
 have hself : u.heap[e.b]? = some (.cells (c.take 2 ++ vC v ++ c.drop 9).toArray 197 (0, 0)) := by rw [← hu]; exact row_self hc
 have hoth : ∀ b, b ≠ e.b → u.heap[b]? = w.heap[b]? := fun b hb => by rw [← hu]; exact setRow_other _ _ _ _ hb
 have hce : ∀ b i, i < 2 ∨ 9 ≤ i → u.cell? ⟨b, i, none⟩ = w.cell? ⟨b, i, none⟩ := fun b i hi => by
  by_cases hb : b = e.b
  ·subst hb
   rw [So.cell_blk hself, So.cell_blk hc, List.getElem?_toArray, List.getElem?_toArray]
   exact set_mid hcl hi
  ·exact cell_same (hoth b hb)
 have hbs : bs (X ++ ⟨e.b, e.k, v⟩ :: Y) = bs (X ++ e :: Y) := by simp [bs]
 have hks : ks (X ++ ⟨e.b, e.k, v⟩ :: Y) = ks (X ++ e :: Y) := by simp [ks]
 have pe := h.row.plc e.b (List.mem_cons_of_mem _ (mem_bs_mid.2 (by simp)))
 have ni := h.notIn
 have old : ∀ x ∈ X ++ ⟨e.b, e.k, v⟩ :: Y, (x = ⟨e.b, e.k, v⟩) ∨ (x ∈ X ++ e :: Y ∧ x.b ≠ e.b) := fun x hx => by
  simp at hx
  rcases hx with hx | hx | hx
  ·refine .inr ⟨by simp [hx], fun hh => ni ?_⟩
   rw [← hh]
   exact List.mem_cons_of_mem _ (mem_bs_app.2 (.inl (List.mem_map_of_mem hx)))
  ·exact .inl hx
  ·refine .inr ⟨by simp [hx], fun hh => ni ?_⟩
   rw [← hh]
   exact List.mem_cons_of_mem _ (mem_bs_app.2 (.inr (List.mem_map_of_mem hx)))
 refine ⟨?_, ⟨?_, ?_, ?_, ?_, ?_⟩, ?_, ?_, ?_, ?_⟩
 ·rw [hoth _ (h.noPlc pe), h.tb]
  simp
 ·rw [hbs]
  exact h.row.links.frame _ (fun a _ => hce a 10 (.inr (by omega))) (fun a _ => hce a 9 (.inr (by omega)))
 ·rw [hbs]; exact h.row.nd
 ·intro b hb
  rw [hbs] at hb
  by_cases hbe : b = e.b
  ·subst hbe
   exact ⟨_, hself, by simp; omega⟩
  ·exact (h.row.plc b hb).of_same (hoth b hbe)
 ·intro x hx
  have hx' : KAt w x.b x.k := by
   rcases old x hx with rfl | ⟨hx, _⟩
   ·exact h.row.key e (by simp)
   ·exact h.row.key x hx
  exact ⟨(hce _ 0 (.inl (by omega))).trans hx'.1, (hce _ 1 (.inl (by omega))).trans hx'.2⟩
 ·intro x hx
  rcases old x hx with rfl | ⟨hx, hne⟩
  ·intro j y hy
   have hj := vlt hy
   rw [So.cell_blk hself, List.getElem?_toArray]
   exact (set_in hcl hj).trans hy
  ·exact (h.row.val x hx).same (hoth _ hne)
 ·refine MapAt.perm (MapAt.same h.mp (hoth _ (h.noMap pe))) (fun k b => ?_)
  constructor
  ·rintro ⟨y, hy, h1⟩
   rcases old y hy with rfl | ⟨hy, _⟩
   ·exact ⟨e, by simp, h1⟩
   ·exact ⟨y, hy, h1⟩
  ·rintro ⟨y, hy, h1⟩
   simp at hy
   rcases hy with hy | rfl | hy
   ·exact ⟨y, by simp [hy], h1⟩
   ·exact ⟨⟨y.b, y.k, v⟩, by simp, h1⟩
   ·exact ⟨y, by simp [hy], h1⟩
 ·rw [hks]; exact h.kn
 ·have := h.len
  simpa using this
 ·intro x hx
  rcases old x hx with rfl | ⟨hx, _⟩
  ·exact h.sz e (by simp)
  ·exact h.sz x hx
section
attribute [local go_sem ↓] loadAt_kn storeAt_kn
set_option maxRecDepth 100000 in
theorem put_hit {w : World} {T E M : Nat} {most : Int} {n : Nat} {X Y : List Ent} {e : Ent} (h : Tab w T E M most n (X ++ e :: Y)) (v : Vl) :
  Calls Tryz.prog 69 #[pt T, kV e.k, vV v] w fun r w' => r = .returned (.tuple #[k0, .bool false]) ∧ Tab w' T E M most n (⟨e.b, e.k, v⟩ :: (X ++ Y)) ∧ Kp (tS T E M (X ++ e :: Y)) w w' := by
 have HF := Hid.mk (find_hit ((((h.alloc (kyO e.k)).alloc (vO v)).alloc zO).alloc zO) (e := e) (by simp))
 have HP := Hid.mk (Bx.of4 w (kyO e.k) (vO v) zO zO)
 have HO := Hid.mk (fun b (hb : tS T E M (X ++ e :: Y) b) => h.lt hb)
 go_enter Tryz.func69, Tryz.ntmps69
 go_wp2_with fail
 refine HF.out.mono ?_
 rintro r w1 ⟨rfl, hb⟩
 have p1 := HP.out.blk hb
 have hs4 := p1.lt (by simp)
 replace hb := below4 hb
 have h1 := h.blk hb
 obtain ⟨c, hc, hcl⟩ : ∃ c : List Value, w1.heap[e.b]? = some (.cells c.toArray 197 (0, 0)) ∧ c.length = 11 := by
  obtain ⟨c, h1, h2⟩ := h1.row.plc e.b (List.mem_cons_of_mem _ (mem_bs_mid.2 (by simp)))
  exact ⟨c.toList, by simpa using h1, by simpa using h2⟩
 have lv := kn_box (v := v) (p1 1 _ rfl)
 have sv := kn_into v hc hcl
 obtain ⟨U, hU⟩ : ∃ U, w1.setRow e.b (c.take 2 ++ vC v ++ c.drop 9).toArray = U := ⟨_, rfl⟩
 rw [hU] at sv
 have h2 : Tab U T E M most n (X ++ ⟨e.b, e.k, v⟩ :: Y) := hU ▸ h1.setVal v hc hcl
 have HR := Hid.mk (renew_tab h2)
 have HB := Hid.mk (show bs (X ++ ⟨e.b, e.k, v⟩ :: Y) = bs (X ++ e :: Y) by simp [bs])
 have heb : tS T E M (X ++ e :: Y) e.b := .inr (.inr (.inr (mem_bs_mid.2 (by simp))))
 have HP2 : Hid (Bx w.heap.size [kyO e.k, vO v, zO, zO] U) := hU ▸ p1.row (HO.out _ heb) _
 have HK : Hid (Kp (tS T E M (X ++ e :: Y)) w U) := by
  have k := Kp.of_below (S := tS T E M (X ++ e :: Y)) hb
  refine hU ▸ ⟨k.os, k.tape, k.output, by rw [setRow_size]; exact k.size, fun b hb hs => (setRow_other _ _ _ _ (fun (e' : b = e.b) => hs (e' ▸ heb))).trans (k.same b hb hs)⟩
 clear h h1 h2 p1 hb hU hc hcl heb hs4
 go_wp2_with fail
 refine HR.out.mono ?_
 rintro r w2 ⟨rfl, h3, k3⟩
 have p2 : Bx w.heap.size [kyO e.k, vO v, zO, zO] w2 := HP2.out.kp k3 (fun b hb => .inl (HO.out b (by unfold tS at hb ⊢; rw [HB.out] at hb; exact hb)))
 have k4 : Kp (tS T E M (X ++ e :: Y)) w w2 := by
  refine Kp.trans HK.out k3 (fun x _ hx => ?_)
  unfold tS at hx ⊢
  rw [HB.out] at hx
  exact hx
 have HE := Hid.mk (fin_tab h3 k4 (R := w.heap.size + 1 + 1) (by omega) (fun hh => by
  have := HO.out (w.heap.size + 1 + 1) (by
   unfold tS at hh ⊢
   rw [show bs (⟨e.b, e.k, v⟩ :: (X ++ Y)) = e.b :: bs (X ++ Y) by simp [bs]] at hh
   rcases hh with x | x | x | x
   ·exact .inl x
   ·exact .inr (.inl x)
   ·exact .inr (.inr (.inl x))
   ·refine .inr (.inr (.inr (mem_bs_mid.2 ?_)))
    rcases List.mem_cons.1 x with x | x
    ·exact .inr (.inl x)
    ·exact (mem_bs_app.1 x).imp id .inr)
  omega) (.string ⟨#[]⟩) (.int .i64 0))
 have g2 : w2.heap[w.heap.size + 1 + 1]? = some zO := p2 2 _ rfl
 have g3 : w2.heap[w.heap.size + 1 + 1 + 1]? = some zO := p2 3 _ rfl
 have HR9 := Hid.mk (zfin g2 (.string ⟨#[]⟩) (.int .i64 0))
 obtain ⟨a2, a3, a6, a7⟩ := ky_cells g2
 obtain ⟨a4, a5, -, -⟩ := ky_cells g3
 clear h3 p2 k3 k4 g2 g3 lv sv
 go_wp2
 refine bodyPost_ret (results_ky Tryz.results69 rfl rfl HR9.out) rfl ?_
 exact ⟨rfl, HE.out⟩
end
theorem Tab.lastCell {w : World} {T E M : Nat} {most : Int} {n : Nat} {X : List Ent} {z : Ent} (h : Tab w T E M most n (X ++ [z])) : w.cell? ⟨E, 9, none⟩ = some (pt z.b) := by
 have hl := h.row.links
 rw [show E :: (bs (X ++ [z]) ++ [E]) = (E :: bs X) ++ z.b :: [E] by simp [bs], Links.split] at hl
 exact hl.2.2.1
section
attribute [local go_sem ↓] loadAt_kn storeAt_kn
set_option maxRecDepth 100000 in
theorem put_room {w : World} {T E M : Nat} {most : Int} {n : Nat} {L : List Ent} (h : Tab w T E M most n L) (k : Ky) (v : Vl) (hk : ∀ e ∈ L, e.k ≠ k) (hs : KOk k) (hn : n < maxLen) (hr : ((L.length + 1 : Nat) : Int) ≤ most) (hm : most ≤ 100000) :
  Calls Tryz.prog 69 #[pt T, kV k, vV v] w fun r w' => r = .returned (.tuple #[k0, .bool false]) ∧ ∃ b, w.heap.size ≤ b ∧ Tab w' T E M most (n + 1) (⟨b, k, v⟩ :: L) ∧ Kp (tS T E M L) w w' := by
 have HF := Hid.mk (find_miss ((((h.alloc (kyO k)).alloc (vO v)).alloc zO).alloc zO) hk hs)
 have HP := Hid.mk (Bx.of4 w (kyO k) (vO v) zO zO)
 have HO := Hid.mk (fun b (hb : tS T E M L b) => h.lt hb)
 go_enter Tryz.func69, Tryz.ntmps69
 go_wp2_with fail
 refine HF.out.mono ?_
 rintro r w1 ⟨rfl, hb⟩
 have p1 := HP.out.blk hb
 have hs4 := p1.lt (by simp)
 replace hb := below4 hb
 have h1 := h.blk hb
 have HA := Hid.mk (add_tab h1 k v hk hs hn (by omega))
 have lv := kn_box (v := v) (p1 1 _ rfl)
 have g0 := p1 0 _ rfl
 rw [Nat.add_zero] at g0
 obtain ⟨a0, a1, -, -⟩ := ky_cells g0
 have HP1 := Hid.mk p1
 clear hk p1 g0
 go_wp2_with fail
 refine HA.out.mono ?_
 rintro r w2 ⟨rfl, h2, k2⟩
 have p2 := HP1.out.kp k2 (fun b hb => .inl (HO.out b hb))
 have c0 := h2.c0
 have c2 := h2.c2
 simp only [List.length_cons] at c2
 simp only [List.length_cons, List.length_nil] at hs4
 have HE := Hid.mk (fin_tab h2 ((Kp.of_below hb).trans k2 (fun _ _ x => x)) (R := w.heap.size + 1 + 1) (by omega) (fun hh => by
  rcases hh with x | x | x | x
  ·have := HO.out _ (.inl x); omega
  ·have := HO.out _ (.inr (.inl x)); omega
  ·have := HO.out _ (.inr (.inr (.inl x))); omega
  ·rcases List.mem_cons.1 (show w.heap.size + 1 + 1 ∈ (w1.heap.size + 1 + 1) :: bs L from x) with x | x
   ·omega
   ·have := HO.out _ (.inr (.inr (.inr x))); omega) (.string ⟨#[]⟩) (.int .i64 0))
 have g2 : w2.heap[w.heap.size + 1 + 1]? = some zO := p2 2 _ rfl
 have g3 : w2.heap[w.heap.size + 1 + 1 + 1]? = some zO := p2 3 _ rfl
 have HR9 := Hid.mk (zfin g2 (.string ⟨#[]⟩) (.int .i64 0))
 obtain ⟨a2, a3, a6, a7⟩ := ky_cells g2
 obtain ⟨a4, a5, -, -⟩ := ky_cells g3
 have HS : Hid (w.heap.size ≤ w1.heap.size + 1 + 1) := by show _ ≤ _; omega
 clear h h1 h2 hs4 hb p2 k2 a0 a1 lv g2 g3
 generalize hq : (((L.length + 1 : Nat)) : Int) = q at c2 hr
 clear hq
 go_wp2
 go_region
 go_wp2
 refine bodyPost_ret (results_ky Tryz.results69 rfl rfl (W := World.drew _) HR9.out) rfl ?_
 exact ⟨rfl, _, HS.out, HE.out.1.drew, HE.out.2.drew⟩
set_option maxRecDepth 100000 in
theorem put_full {w : World} {T E M : Nat} {most : Int} {n : Nat} {X : List Ent} {z : Ent} (h : Tab w T E M most n (X ++ [z])) (k : Ky) (v : Vl) (hk : ∀ e ∈ X ++ [z], e.k ≠ k) (hs : KOk k) (hn : n < maxLen) (hr : (((X ++ [z]).length : Nat) : Int) = most) (hm : most ≤ 100000) :
  Calls Tryz.prog 69 #[pt T, kV k, vV v] w fun r w' => r = .returned (.tuple #[kV z.k, .bool true]) ∧ ∃ b, w.heap.size ≤ b ∧ Tab w' T E M most (n + 1) (⟨b, k, v⟩ :: X) ∧ Kp (tS T E M (X ++ [z])) w w' := by
 have HF := Hid.mk (find_miss ((((h.alloc (kyO k)).alloc (vO v)).alloc zO).alloc zO) hk hs)
 have HP := Hid.mk (Bx.of4 w (kyO k) (vO v) zO zO)
 have HO := Hid.mk (fun b (hb : tS T E M (X ++ [z]) b) => h.lt hb)
 go_enter Tryz.func69, Tryz.ntmps69
 go_wp2_with fail
 refine HF.out.mono ?_
 rintro r w1 ⟨rfl, hb⟩
 have p1 := HP.out.blk hb
 have hs4 := p1.lt (by simp)
 simp only [List.length_cons, List.length_nil] at hs4
 replace hb := below4 hb
 have h1 := h.blk hb
 have HA := Hid.mk (add_tab h1 k v hk hs hn (by omega))
 have lv := kn_box (v := v) (p1 1 _ rfl)
 have g0 := p1 0 _ rfl
 rw [Nat.add_zero] at g0
 obtain ⟨a0, a1, -, -⟩ := ky_cells g0
 have HP1 := Hid.mk p1
 clear hk p1 g0
 go_wp2_with fail
 refine HA.out.mono ?_
 rintro r w2 ⟨rfl, h2, k2⟩
 have HP2 := Hid.mk ((HP1.out.kp k2 (fun b hb => .inl (HO.out b hb))).blk (Below.refl _ _).drew)
 have c0 := h2.c0
 have c2 := h2.c2
 have hq : (((⟨w1.heap.size + 1 + 1, k, v⟩ : Ent) :: (X ++ [z])).length : Int) = most + 1 := by rw [← hr]; simp
 rw [hq] at c2
 have c1 := h2.c1
 have h3 : Tab w2.drew T E M most (n + 1) ((⟨w1.heap.size + 1 + 1, k, v⟩ :: X) ++ [z]) := h2.drew
 have ce := h3.lastCell
 have HL := Hid.mk (last_in w2.drew T E z.b c1 ce)
 have HR := Hid.mk (remove_tab (X := ⟨w1.heap.size + 1 + 1, k, v⟩ :: X) (e := z) (Y := []) h3)
 have HK : Hid (w.heap.size + 4 ≤ w1.heap.size ∧ Below w.heap.size w w1 ∧ Kp (tS T E M (X ++ [z])) w1 w2) := ⟨hs4, hb, k2⟩
 clear h h1 h2 h3 hs4 hq hr hb k2 ce c1 a0 a1 lv
 go_wp2
 go_region
 go_wp2_with fail
 refine HL.out.mono ?_
 rintro r w3 ⟨rfl, rfl⟩
 go_wp2_with fail
 refine HR.out.mono ?_
 rintro r w4 ⟨rfl, h4, k4, p1, p2, p3⟩
 have hout : ∀ b, tS T E M (⟨w1.heap.size + 1 + 1, k, v⟩ :: X ++ [z]) b → (tS T E M (X ++ [z]) b ∨ b = w1.heap.size + 1 + 1) := fun b hh => by
  rcases hh with x | x | x | x
  ·exact .inl (.inl x)
  ·exact .inl (.inr (.inl x))
  ·exact .inl (.inr (.inr (.inl x)))
  ·have : b = w1.heap.size + 1 + 1 ∨ b ∈ bs (X ++ [z]) := by simpa [bs] using x
   rcases this with h | h
   ·exact .inr h
   ·exact .inl (.inr (.inr (.inr h)))
 have hl1 := HK.out.1
 have q4 : Bx w.heap.size [kyO k, vO v, zO, zO] w4 := HP2.out.kp k4 (fun b hh => by
  rcases hout b hh with x | x
  ·exact .inl (HO.out b x)
  ·right
   simp only [List.length_cons, List.length_nil]
   omega)
 have kk : Kp (tS T E M (X ++ [z])) w w4 := Kp.trans (((Kp.of_below HK.out.2.1).trans HK.out.2.2 (fun _ _ x => x)).drew) k4 (fun b hb hh => by
  rcases hout b hh with x | x
  ·exact x
  ·omega)
 have HE := Hid.mk (fin_tab (L := ⟨w1.heap.size + 1 + 1, k, v⟩ :: X) (by simpa using h4) kk (R := w.heap.size + 1 + 1) (by omega) (fun hh => by
  rcases hh with x | x | x | x
  ·have := HO.out _ (.inl x); omega
  ·have := HO.out _ (.inr (.inl x)); omega
  ·have := HO.out _ (.inr (.inr (.inl x))); omega
  ·rcases List.mem_cons.1 (show w.heap.size + 1 + 1 ∈ (w1.heap.size + 1 + 1) :: bs X from x) with x | x
   ·omega
   ·have := HO.out _ (.inr (.inr (.inr (mem_bs_app.2 (.inl x))))); omega) (.string z.k.1) (.int .i64 z.k.2))
 have g2 : w4.heap[w.heap.size + 1 + 1]? = some zO := q4 2 _ rfl
 have g3 : w4.heap[w.heap.size + 1 + 1 + 1]? = some zO := q4 3 _ rfl
 have HR9 := Hid.mk (zfin g2 (.string z.k.1) (.int .i64 z.k.2))
 obtain ⟨a2, a3, a6, a7⟩ := ky_cells g2
 obtain ⟨a4, a5, -, -⟩ := ky_cells g3
 obtain ⟨b0, b1⟩ := p2
 have HS : Hid (w.heap.size ≤ w1.heap.size + 1 + 1) := by show _ ≤ _; omega
 clear h4 k4 q4 kk hout hl1 p3 g2 g3
 go_wp2
 refine bodyPost_ret (results_ky Tryz.results69 rfl rfl HR9.out) rfl ?_
 exact ⟨rfl, _, HS.out, HE.out⟩
end
end Go.Proofs.YtikjepodmdaknaaGreatDoor.Mc
/- Layer 17's table: a table as a list of keys and values. -/
namespace Go.Proofs.YtikjepodmdaknaaGreatDoor.Mc
open Go.RowKit
open Go.Proofs.YtikjepodmdaknaaGreatDoor.Rc (pt nilP Ky kV k0 Kp blk_lt frozen_of cell_same cell_set_o heap_set_same KOk KAt drew_heap drew_cell MapFr without putR getR without_map putR_map getR_map)
open Go.MapKept Go.WideMaps
abbrev KV := List (Ky × Vl)
def kv (L : List Ent) : KV := L.map fun e => (e.k, e.v)
theorem mapfr_kp {w w' : World} {T E M : Nat} {most most' : Int} {n n' : Nat} {L L' : List Ent} (h : Tab w T E M most n L) (h' : Tab w' T E M most' n' L') (k : Kp (tS T E M L) w w') : MapFr T w w' := by
 intro M2 hM2
 rw [h.c3] at hM2
 cases hM2
 refine ⟨h'.c3, fun b es cl hb hm => (k.same b (blk_lt hm) ?_).trans hm⟩
 rintro (rfl | rfl | rfl | hx)
 ·rw [h.tb] at hm; cases hm
 ·exact hb rfl
 ·obtain ⟨c', hc, _⟩ := h.row.plc b (by simp)
  rw [hc] at hm; cases hm
 ·obtain ⟨c', hc, _⟩ := h.row.plc b (List.mem_cons_of_mem _ hx)
  rw [hc] at hm; cases hm
structure Frn (T : Nat) (w w' : World) : Prop where
 size : w.heap.size ≤ w'.heap.size
 same : ∀ (b : Nat) (c : Array Value) (t : TypeId) (f : Nat × Nat), w.heap[b]? = some (.cells c t f) → t ≠ 187 → t ≠ 197 → w'.heap[b]? = some (.cells c t f)
 mp : MapFr T w w'
theorem Frn.below {T : Nat} {w w' : World} (h : Below w.heap.size w w') : Frn T w w' := ⟨h.size, fun b c t f hb _ _ => (h.block b (blk_lt hb)).trans hb, Rc.MapFr.below h⟩
theorem Frn.kp {w w' : World} {T E M : Nat} {most most' : Int} {n n' : Nat} {L L' : List Ent} (h : Tab w T E M most n L) (h' : Tab w' T E M most' n' L') (k : Kp (tS T E M L) w w') : Frn T w w' := by
 refine ⟨k.size, fun b c t f hb h1 h2 => (k.same b (blk_lt hb) ?_).trans hb, mapfr_kp h h' k⟩
 rintro (rfl | rfl | rfl | hm)
 ·rw [h.tb] at hb; cases hb; exact h1 rfl
 ·obtain ⟨es, cl, hm⟩ := h.mp.isMap
  rw [hm] at hb; cases hb
 ·obtain ⟨c', hc, _⟩ := h.row.plc b (by simp)
  rw [hc] at hb; cases hb; exact h2 rfl
 ·obtain ⟨c', hc, _⟩ := h.row.plc b (List.mem_cons_of_mem _ hm)
  rw [hc] at hb; cases hb; exact h2 rfl
theorem Frn.row {T : Nat} {w w' : World} (h : Frn T w w') {base e size k : Nat} {v : Value} {xs : List Value} (hr : w.ownsRow base e size v k xs) (h1 : e ≠ 187) (h2 : e ≠ 197) : w'.ownsRow base e size v k xs := by
 obtain ⟨hl, h0 | ⟨g, cap, cur, hv, hb, hg, r⟩⟩ := hr
 ·exact ⟨hl, .inl h0⟩
 ·exact ⟨hl, .inr ⟨g, cap, cur, hv, hb, h.same g _ e _ hg h1 h2, r⟩⟩
structure TabO (W w : World) (T E M : Nat) (most : Int) (n : Nat) (L : List Ent) : Prop where
 tab : Tab w T E M most n L
 own : ∀ b, tS T E M L b → W.heap.size ≤ b
 bel : Below W.heap.size W w
theorem TabO.blk {W w w' : World} {T E M : Nat} {most : Int} {n : Nat} {L : List Ent} (h : TabO W w T E M most n L) (hb : Below w.heap.size w w') : TabO W w' T E M most n L :=
 ⟨h.tab.blk hb, h.own, h.bel.trans (hb.mono h.bel.size)⟩
theorem TabO.step {W w w' : World} {T E M : Nat} {most : Int} {n n' : Nat} {L L' : List Ent} (h : TabO W w T E M most n L) (h' : Tab w' T E M most n' L') (k : Kp (tS T E M L) w w') (hb : ∀ e ∈ L', e.b ∈ bs L ∨ w.heap.size ≤ e.b) : TabO W w' T E M most n' L' := by
 refine ⟨h', fun b hb' => ?_, h.bel.trans (k.below h.bel.size (fun b hb hs => ?_))⟩
 ·rcases hb' with x | x | x | x
  ·exact h.own b (.inl x)
  ·exact h.own b (.inr (.inl x))
  ·exact h.own b (.inr (.inr (.inl x)))
  ·obtain ⟨e, he, rfl⟩ := List.mem_map.1 x
   rcases hb e he with y | y
   ·exact h.own _ (.inr (.inr (.inr y)))
   ·exact Nat.le_trans h.bel.size y
 ·have := h.own b hs; omega
def TabK (W w : World) (T : Nat) (most : Int) (n : Nat) (l : KV) : Prop := ∃ E M L, TabO W w T E M most n L ∧ kv L = l
theorem TabK.blk {W w w' : World} {T : Nat} {most : Int} {n : Nat} {l : KV} (h : TabK W w T most n l) (hb : Below w.heap.size w w') : TabK W w' T most n l := by
 obtain ⟨E, M, L, h, e⟩ := h
 exact ⟨E, M, L, h.blk hb, e⟩
theorem TabK.bel {W w : World} {T : Nat} {most : Int} {n : Nat} {l : KV} (h : TabK W w T most n l) : Below W.heap.size W w := by
 obtain ⟨E, M, L, h, e⟩ := h
 exact h.bel
theorem new_kv (w : World) (m : Int) (h1 : ¬ m < 1) (h2 : ¬ 100000 < m) :
  Calls Tryz.prog 61 #[.int .i64 m] w fun e w' => e = .returned (.tuple #[pt (w.heap.size + 3), .int .i64 0]) ∧ TabK w w' (w.heap.size + 3) m 0 [] ∧ Below w.heap.size w w' := by
 refine (new_in w m h1 h2).mono ?_
 rintro e w' ⟨rfl, rfl⟩
 refine ⟨rfl, ?_⟩
 obtain ⟨o1, ho1⟩ : ∃ o, Obj.cells #[pt (w.heap.size + 1), .int .i64 0] 183 (0, 0) = o := ⟨_, rfl⟩
 obtain ⟨o2, ho2⟩ : ∃ o, Obj.cells #[.string ⟨#[]⟩, .int .i64 0, .int .i64 0, .int .i64 0, .slice none 0 0, .slice none 0 0, .int .i64 0, .slice none 0 0, .slice none 0 0, pt (w.heap.size + 1), pt (w.heap.size + 1)] 197 (0, 0) = o := ⟨_, rfl⟩
 obtain ⟨o4, ho4⟩ : ∃ o, Obj.cells #[.int .i64 m, pt (w.heap.size + 1), .int .i64 0, .map (some (w.heap.size + 2))] 187 (0, 0) = o := ⟨_, rfl⟩
 rw [ho1, ho2, ho4]
 have hb : Below w.heap.size w ((((w.alloc o1).alloc o2).alloc (.map #[] 0)).alloc o4) := ((((Below.refl _ _).alloc (Nat.le_refl _) _).alloc (by simp) _).alloc (by simp; omega) _).alloc (by simp; omega) _
 have g2 : ((((w.alloc o1).alloc o2).alloc (.map #[] 0)).alloc o4).heap[w.heap.size + 1]? = some o2 := by
  rw [Below.heap_alloc _ _ _ (by simp), Below.heap_alloc _ _ _ (by simp)]
  have := heap_alloc_last (w.alloc o1) o2
  simpa using this
 have g3 : (((w.alloc o1).alloc o2).alloc (.map #[] 0)).heap[w.heap.size + 2]? = some (.map #[] 0) := by
  have := heap_alloc_last ((w.alloc o1).alloc o2) (.map #[] 0)
  simpa using this
 have g4 : ((((w.alloc o1).alloc o2).alloc (.map #[] 0)).alloc o4).heap[w.heap.size + 3]? = some o4 := by
  have := heap_alloc_last (((w.alloc o1).alloc o2).alloc (.map #[] 0)) o4
  simpa using this
 have hm := (World.ownsMap_made ((w.alloc o1).alloc o2) Tryz.prog 121 plR).alloc o4
 have e2 : ((w.alloc o1).alloc o2).heap.size = w.heap.size + 2 := by simp
 rw [e2] at hm
 subst ho2 ho4
 refine ⟨⟨w.heap.size + 1, w.heap.size + 2, [], ⟨⟨g4, ⟨?_, ?_, ?_, ?_, ?_⟩, ⟨_, hm, fun _ h => (by cases h), fun k _ _ => rfl⟩, by simp [ks], by simp, fun _ h => (by cases h)⟩, ?_, hb⟩, rfl⟩, hb⟩
 ·show Links _ [w.heap.size + 1, w.heap.size + 1]
  exact ⟨by rw [cell_of_row _ _ _ _ _ _ g2]; rfl, by rw [cell_of_row _ _ _ _ _ _ g2]; rfl, trivial⟩
 ·simp [bs]
 ·intro b hb
  obtain rfl : b = w.heap.size + 1 := by simpa [bs] using hb
  exact ⟨_, g2, rfl⟩
 ·intro _ h; cases h
 ·intro _ h; cases h
 ·intro b hb
  rcases hb with rfl | rfl | rfl | hb
  ·omega
  ·omega
  ·omega
  ·simp [bs] at hb
theorem Tab.key_iff {w : World} {T E M : Nat} {most : Int} {n : Nat} {L : List Ent} (h : Tab w T E M most n L) (k : Ky) : (∃ X e Y, L = X ++ e :: Y ∧ e.k = k ∧ (∀ x ∈ X ++ Y, x.k ≠ k)) ∨ ∀ e ∈ L, e.k ≠ k := by
 by_cases hx : ∃ e ∈ L, e.k = k
 ·obtain ⟨e, he, rfl⟩ := hx
  obtain ⟨X, Y, rfl⟩ := List.append_of_mem he
  refine .inl ⟨X, e, Y, rfl, rfl, fun x hx hh => ?_⟩
  have hkn := h.kn
  rw [show ks (X ++ e :: Y) = ks X ++ e.k :: ks Y by simp [ks]] at hkn
  have hk2 := List.perm_middle.nodup_iff.1 hkn
  exact (List.nodup_cons.1 hk2).1 (by rw [← hh]; simp at hx ⊢; exact hx.imp (fun h => List.mem_map_of_mem h) (fun h => List.mem_map_of_mem h))
 ·exact .inr fun e he hk => hx ⟨e, he, hk⟩
theorem kv_app (X Y : List Ent) : kv (X ++ Y) = kv X ++ kv Y := by simp [kv]
theorem kv_len (L : List Ent) : (kv L).length = L.length := by simp [kv]
theorem without_miss {L : List Ent} {k : Ky} (h : ∀ e ∈ L, e.k ≠ k) : without (kv L) k = kv L := by
 unfold without
 rw [List.filter_eq_self]
 intro p hp
 obtain ⟨e, he, rfl⟩ := List.mem_map.1 hp
 simpa using h e he
theorem without_hit {X Y : List Ent} {e : Ent} (h : ∀ x ∈ X ++ Y, x.k ≠ e.k) : without (kv (X ++ e :: Y)) e.k = kv (X ++ Y) := by
 have h1 := without_miss (L := X) (k := e.k) (fun x hx => h x (by simp [hx]))
 have h2 := without_miss (L := Y) (k := e.k) (fun x hx => h x (by simp [hx]))
 unfold without at h1 h2 ⊢
 rw [kv_app, kv_app, List.filter_append, h1]
 show kv X ++ List.filter _ ((e.k, e.v) :: kv Y) = _
 rw [List.filter_cons_of_neg (by simp), h2]
theorem getR_miss {L : List Ent} {k : Ky} (h : ∀ e ∈ L, e.k ≠ k) : getR (kv L) k = none := by
 unfold getR
 rw [List.find?_eq_none.2 (fun p hp => by
  obtain ⟨e, he, rfl⟩ := List.mem_map.1 hp
  simpa using h e he)]
 rfl
theorem getR_hit {X Y : List Ent} {e : Ent} (h : ∀ x ∈ X ++ Y, x.k ≠ e.k) : getR (kv (X ++ e :: Y)) e.k = some e.v := by
 unfold getR
 rw [kv_app, List.find?_append, List.find?_eq_none.2 (fun p hp => by
  obtain ⟨x, hx, rfl⟩ := List.mem_map.1 hp
  simpa using h x (by simp [hx]))]
 simp [kv]
end Go.Proofs.YtikjepodmdaknaaGreatDoor.Mc
/- Layer 17's table: the calls of a table, by its list. -/
namespace Go.Proofs.YtikjepodmdaknaaGreatDoor.Mc
open Go.RowKit
open Go.Proofs.YtikjepodmdaknaaGreatDoor.Rc (pt nilP Ky kV k0 Kp blk_lt frozen_of cell_same cell_set_o heap_set_same KOk KAt drew_heap drew_cell MapFr without putR getR without_map putR_map getR_map)
open Go.MapKept Go.WideMaps
theorem Tab.more {w : World} {T E M : Nat} {most : Int} {n : Nat} {L : List Ent} (h : Tab w T E M most n L) : Tab w T E M most (n + 1) L := by
 obtain ⟨a, b, ⟨D, hD, hr⟩, c, d, e⟩ := h
 exact ⟨a, b, ⟨D, hD.mono (Nat.le_succ n), hr⟩, c, d, e⟩
theorem put_kv {W w : World} {T m n : Nat} {l : KV} (h : TabK W w T (m : Int) n l) (k : Ky) (v : Vl) (hl : l.length ≤ m) (h1 : 1 ≤ m) (h2 : m ≤ 100000) (hs : KOk k) (hn : n < maxLen) :
  Calls Tryz.prog 69 #[pt T, kV k, vV v] w fun r w' => (∃ x, r = .returned x) ∧ TabK W w' T (m : Int) (n + 1) (putR m l k v) ∧ Frn T w w' := by
 obtain ⟨E, M, L, ho, rfl⟩ := h
 have h := ho.tab
 rw [kv_len] at hl
 rcases h.key_iff k with ⟨X, e, Y, rfl, rfl, hu⟩ | hm
 ·have e0 := without_hit hu
  have hp : putR m (kv (X ++ e :: Y)) e.k v = kv (⟨e.b, e.k, v⟩ :: (X ++ Y)) := by
   unfold putR
   rw [e0, List.take_of_length_le (by simp [kv_len] at hl ⊢; omega)]
   rfl
  rw [hp]
  refine (put_hit h v).mono ?_
  rintro r w' ⟨rfl, h', k'⟩
  refine ⟨⟨_, rfl⟩, ⟨E, M, _, ho.step h'.more k' (fun x hx => ?_), rfl⟩, Frn.kp h h' k'⟩
  rcases List.mem_cons.1 hx with rfl | hx
  ·exact .inl (mem_bs_mid.2 (by simp))
  ·exact .inl (mem_bs_mid.2 ((List.mem_append.1 hx).imp (fun y => List.mem_map_of_mem y) (fun y => .inr (List.mem_map_of_mem y))))
 ·have e0 := without_miss hm
  by_cases hr : L.length + 1 ≤ m
  ·have hp : ∀ b, putR m (kv L) k v = kv (⟨b, k, v⟩ :: L) := fun b => by
    unfold putR
    rw [e0, List.take_of_length_le (by simp [kv_len]; omega)]
    rfl
   refine (put_room h k v hm hs hn (by omega) (by omega)).mono ?_
   rintro r w' ⟨rfl, b, hb, h', k'⟩
   refine ⟨⟨_, rfl⟩, ⟨E, M, _, ho.step h' k' (fun x hx => ?_), (hp b).symm⟩, Frn.kp h h' k'⟩
   rcases List.mem_cons.1 hx with rfl | hx
   ·exact .inr hb
   ·exact .inl (List.mem_map_of_mem hx)
  ·obtain rfl : L.length = m := by omega
   obtain ⟨X, z, rfl⟩ : ∃ X z, L = X ++ [z] := ⟨_, _, (List.dropLast_concat_getLast (l := L) (by intro e; simp [e] at h1)).symm⟩
   have hp : ∀ b, putR (X ++ [z]).length (kv (X ++ [z])) k v = kv (⟨b, k, v⟩ :: X) := fun b => by
    unfold putR
    rw [e0, kv_app, ← List.cons_append]
    rw [show ((k, v) :: kv X ++ kv [z]).take (X ++ [z]).length = (k, v) :: kv X from List.take_left' (by simp [kv_len])]
    rfl
   refine (put_full h k v hm hs hn rfl (by omega)).mono ?_
   rintro r w' ⟨rfl, b, hb, h', k'⟩
   refine ⟨⟨_, rfl⟩, ⟨E, M, _, ho.step h' k' (fun x hx => ?_), (hp b).symm⟩, Frn.kp h h' k'⟩
   rcases List.mem_cons.1 hx with rfl | hx
   ·exact .inr hb
   ·exact .inl (mem_bs_app.2 (.inl (List.mem_map_of_mem hx)))
theorem get_kv {W w : World} {T n : Nat} {most : Int} {l : KV} (h : TabK W w T most n l) (k : Ky) (hs : KOk k) :
  Calls Tryz.prog 76 #[pt T, kV k] w fun r w' => r = .returned (.tuple #[(match getR l k with | some v => vV v | none => v0), .bool (getR l k).isSome]) ∧ TabK W w' T most n (match getR l k with | some v => (k, v) :: without l k | none => l) ∧ Frn T w w' := by
 obtain ⟨E, M, L, ho, rfl⟩ := h
 have h := ho.tab
 rcases h.key_iff k with ⟨X, e, Y, rfl, rfl, hu⟩ | hm
 ·rw [getR_hit hu, without_hit hu]
  refine (get_hit h).mono ?_
  rintro r w' ⟨rfl, h', k'⟩
  refine ⟨rfl, ⟨E, M, _, ho.step h' k' (fun x hx => ?_), rfl⟩, Frn.kp h h' k'⟩
  rcases List.mem_cons.1 hx with rfl | hx
  ·exact .inl (mem_bs_mid.2 (by simp))
  ·exact .inl (mem_bs_mid.2 ((List.mem_append.1 hx).imp (fun y => List.mem_map_of_mem y) (fun y => .inr (List.mem_map_of_mem y))))
 ·rw [getR_miss hm]
  refine (get_miss h hm hs).mono ?_
  rintro r w' ⟨rfl, hb⟩
  exact ⟨rfl, ⟨E, M, L, ho.blk hb, rfl⟩, Frn.below hb⟩
theorem drop_kv {W w : World} {T n : Nat} {most : Int} {l : KV} (h : TabK W w T most n l) (k : Ky) (hs : KOk k) :
  Calls Tryz.prog 68 #[pt T, kV k] w fun r w' => r = .returned (.bool (getR l k).isSome) ∧ TabK W w' T most n (without l k) ∧ Frn T w w' := by
 obtain ⟨E, M, L, ho, rfl⟩ := h
 have h := ho.tab
 rcases h.key_iff k with ⟨X, e, Y, rfl, rfl, hu⟩ | hm
 ·rw [getR_hit hu, without_hit hu]
  refine (drop_hit h).mono ?_
  rintro r w' ⟨rfl, h', k'⟩
  refine ⟨rfl, ⟨E, M, _, ho.step h' k' (fun x hx => ?_), rfl⟩, Frn.kp h h' k'⟩
  exact .inl (mem_bs_mid.2 ((List.mem_append.1 hx).imp (fun y => List.mem_map_of_mem y) (fun y => .inr (List.mem_map_of_mem y))))
 ·rw [getR_miss hm, without_miss hm]
  refine (drop_miss h hm hs).mono ?_
  rintro r w' ⟨rfl, hb⟩
  exact ⟨rfl, ⟨E, M, L, ho.blk hb, rfl⟩, Frn.below hb⟩
theorem len_kv {W w : World} {T n : Nat} {most : Int} {l : KV} (h : TabK W w T most n l) :
  Calls Tryz.prog 79 #[pt T] w fun r w' => r = .returned (.int .i64 (l.length : Int)) ∧ w' = w := by
 obtain ⟨E, M, L, ho, rfl⟩ := h
 rw [kv_len]
 exact len_in w T _ ho.tab.c2
end Go.Proofs.YtikjepodmdaknaaGreatDoor.Mc
/- Layer 17: a cache of answers in memory, beside the cache of sets that it asks. -/
namespace Go.Proofs.YtikjepodmdaknaaGreatDoor.Mc
open Go.RowKit
open Go.Proofs.YtikjepodmdaknaaGreatDoor.Rc (pt nilP Ky kV k0 Kp blk_lt cell_same KOk AL Ev foundA getA toldE timB over getR without putR RC RCA EvAt TxQ FrC MapFr Told evC own_cap mem_without getR_mem mem_putR without_len putR_len)
theorem flat_len {z : Nat} : ∀ {rows : List (List Value)}, (∀ r ∈ rows, r.length = z) → rows.flatten.length = rows.length * z
 | [], _ => by simp
 | r :: rows, h => by
  rw [List.flatten_cons, List.length_append, h r (by simp), flat_len (fun x hx => h x (by simp [hx])), List.length_cons, Nat.add_mul]
  omega
theorem flat_at {z : Nat} : ∀ {rows : List (List Value)}, (∀ r ∈ rows, r.length = z) → ∀ (j : Nat) (hj : j < rows.length) (i : Nat), i < z → rows.flatten[j * z + i]? = rows[j][i]?
 | r :: rows, h, 0, _, i, hi => by
  rw [List.flatten_cons, Nat.zero_mul, Nat.zero_add, List.getElem?_append_left (by rw [h r (by simp)]; exact hi)]
  rfl
 | r :: rows, h, j + 1, hj, i, hi => by
  have hr := h r (by simp)
  have ih := flat_at (rows := rows) (fun x hx => h x (List.mem_cons_of_mem _ hx)) j (by simpa using hj) i hi
  rw [List.flatten_cons, List.getElem?_append_right (by rw [hr, Nat.add_mul]; omega), hr, show (j + 1) * z + i - z = j * z + i by rw [Nat.add_mul]; omega, ih]
  rfl
theorem info_p {e : TypeId} {z : Value} {size bytes : Nat} (h : (Tryz.prog.info? e).map (fun i => (i.zero, i.size, i.bytes)) = some (some z, size, bytes)) : ∃ i0, Tryz.prog.info? e = some i0 ∧ i0.zero = some z ∧ i0.size = size ∧ i0.bytes = bytes := by
 cases hi : Tryz.prog.info? e with
 | none => rw [hi] at h; cases h
 | some i0 =>
  rw [hi] at h
  simp only [Option.map_some, Option.some.injEq, Prod.mk.injEq] at h
  exact ⟨i0, rfl, h.1, h.2.1, h.2.2⟩
abbrev lkC (l : Lk) : List Value := [.string l.k.1, .int .i64 l.k.2, .int .i64 l.ve]
structure LkRow (w : World) (N : Nat) (v : Value) (L : List Lk) : Prop where
 own : w.ownsRow N 249 3 v L.length (L.map lkC).flatten
theorem lk_rows {L : List Lk} : ∀ r ∈ L.map lkC, r.length = 3 := fun r hr => by
 obtain ⟨x, _, rfl⟩ := List.mem_map.1 hr
 rfl
theorem LkRow.nil (w : World) (N : Nat) : LkRow w N (.slice none 0 0) [] := ⟨World.ownsRow_nil ..⟩
theorem LkRow.frc {T : Nat} {w w' : World} {N : Nat} {v : Value} {L : List Lk} (h : LkRow w N v L) (hf : FrC T w w') : LkRow w' N v L := ⟨hf.row h.own (by decide) (by decide) (by decide)⟩
theorem LkRow.frn {T : Nat} {w w' : World} {N : Nat} {v : Value} {L : List Lk} (h : LkRow w N v L) (hf : Frn T w w') : LkRow w' N v L := ⟨hf.row h.own (by decide) (by decide)⟩
theorem LkRow.form {w : World} {N : Nat} {v : Value} {L : List Lk} (h : LkRow w N v L) : ∃ q cap, v = .slice q L.length cap ∧ L.length ≤ cap ∧ cap ≤ 9223372036854775807 := by
 obtain ⟨q, cap, e⟩ := srow_any h.own
 have h1 := h.own
 rw [e] at h1
 have := own_cap h1
 unfold maxLen at this
 exact ⟨q, cap, e, this.1, by omega⟩
theorem LkRow.low {w : World} {N N' : Nat} {v : Value} {L : List Lk} (h : LkRow w N v L) (hN : N' ≤ N) : LkRow w N' v L := ⟨own_lowS h.own hN⟩
theorem LkRow.at {w : World} {N : Nat} {q : Option Addr} {cap : Nat} {L : List Lk} (h : LkRow w N (.slice q L.length cap) L) (j : Nat) (x : Lk) (hx : L[j]? = some x) : ∃ g, q = some ⟨g, 0, none⟩ ∧ (∀ i, i < 3 → w.cell? ⟨g, j * 3 + i, none⟩ = (lkC x)[i]?) := by
 have hj : j < L.length := (List.getElem?_eq_some_iff.1 hx).1
 obtain ⟨hl, ⟨_, h0⟩ | ⟨g, cap', cur, hv, hg0, hg, hn, hm, hs, ht⟩⟩ := h.own
 ·omega
 ·simp only [Value.slice.injEq] at hv
  obtain ⟨rfl, _, _⟩ := hv
  refine ⟨g, rfl, fun i hi => ?_⟩
  have hj' : j < (L.map lkC).length := by simpa using hj
  have e1 : (L.map lkC)[j] = lkC x := by
   rw [List.getElem_map]
   rw [List.getElem?_eq_getElem hj] at hx
   rw [Option.some.inj hx]
  rw [← e1, ← flat_at lk_rows j hj' i hi, ← ht, List.getElem?_take, if_pos (by
   have : (j + 1) * 3 ≤ L.length * 3 := Nat.mul_le_mul_right _ (by omega)
   omega), So.cell_blk hg, Array.getElem?_toList]
theorem infoLk : (Tryz.prog.info? 249).map (fun i => (i.zero, i.size, i.bytes)) = some (some (.agg #[.string ⟨#[]⟩, .int .i64 0, .int .i64 0]), 3, 32) := by kernel_rfl
def aLk (a : Array Value) : Sem Value := Builtin.append_ #[122, 122] 122 a
theorem lk_app {w : World} {N : Nat} {v : Value} {L : List Lk} (h : LkRow w N v L) (hN : N ≤ w.heap.size) (hl : L.length ≤ 1000) (x : Lk) {X : Nat} {c : Array Value} {f : Nat × Nat} (hX : w.heap[X]? = some (.cells (lkC x).toArray 249 f)) :
  ∃ v' w', (aLk #[v, .slice (some ⟨X, 0, none⟩) 1 1]).run Tryz.prog w = .ok v' w' ∧ LkRow w' N v' (L ++ [x]) ∧ Below N w w' ∧ (∀ (b : Nat) (c : Array Value) (t : TypeId) (f : Nat × Nat), w.heap[b]? = some (.cells c t f) → t ≠ 249 → w'.heap[b]? = some (.cells c t f)) ∧ (∀ (b : Nat) es cl, w.heap[b]? = some (.map es cl) → w'.heap[b]? = some (.map es cl)) := by
 obtain ⟨i0, hi0, hz0, hz1, hz2⟩ := info_p infoLk
 obtain ⟨v', w', hrun, hown, hgr, _, hat⟩ := run_append_own_at (P := Tryz.prog) w N 122 122 249 i0 _ 3 32 Tryz.underlying122 hi0 hz0 hz1 hz2 rfl (by decide) v L.length (L.map lkC).flatten h.own ⟨X, 0, none⟩ 1 1 (lkC x) rfl (fun j u hu => by
  rw [So.add_of, Nat.zero_add, So.cell_blk hX, List.getElem?_toArray]
  exact hu) (by intro u hu; simp at hu; rcases hu with rfl | rfl | rfl <;> rfl) (by unfold maxLen; omega) (by omega) hN
 refine ⟨v', w', hrun, ⟨?_⟩, (Below.refl _ _).grown hgr hN (fun b hb => (own_lt h.own hb).2.1), fun b c t f hb ht => (hgr.block b (blk_lt hb) (fun e => ?_)).trans hb, fun b es cl hb => (hgr.block b (blk_lt hb) (fun e => ?_)).trans hb⟩
 ·rw [List.length_append, List.map_append, List.flatten_append]
  simpa using hown
 ·obtain ⟨_, _, c', hc⟩ := own_lt h.own e.symm
  rw [hb] at hc
  simp at hc
  exact ht hc.2.1
 ·obtain ⟨_, _, c', hc⟩ := own_lt h.own e.symm
  rw [hb] at hc
  simp at hc
structure KnAt (w : World) (N : Nat) (v : Vl) (y : Kn) : Prop where
 rc : v.rc = y.rc
 se : v.se = y.se
 un : v.un = y.un
 n1 : v.n1 = y.a.length
 n2 : v.n2 = y.b.length
 a : LkRow w N (.slice v.q1 y.a.length v.c1) y.a
 b : LkRow w N (.slice v.q2 y.b.length v.c2) y.b
structure LkI (x : Lk) : Prop where
 sz : x.k.1.size ≤ maxLen
 ty : I64 x.k.2
 ve : I64 x.ve
 low : lowF x.k.1 = x.k.1
structure KnI (y : Kn) : Prop where
 rc : y.rc = 0 ∨ y.rc = 3
 se : 0 ≤ y.se ∧ y.se ≤ 3
 un : 1 ≤ y.un ∧ y.un ≤ 4294967295 + 604800
 la : y.a.length ≤ 20
 lb : y.b.length ≤ 20
 ia : ∀ x ∈ y.a, LkI x
 ib : ∀ x ∈ y.b, LkI x
theorem KnAt.frc {T : Nat} {w w' : World} {N : Nat} {v : Vl} {y : Kn} (h : KnAt w N v y) (hf : FrC T w w') : KnAt w' N v y := ⟨h.rc, h.se, h.un, h.n1, h.n2, h.a.frc hf, h.b.frc hf⟩
theorem KnAt.frn {T : Nat} {w w' : World} {N : Nat} {v : Vl} {y : Kn} (h : KnAt w N v y) (hf : Frn T w w') : KnAt w' N v y := ⟨h.rc, h.se, h.un, h.n1, h.n2, h.a.frn hf, h.b.frn hf⟩
abbrev MM := List (Ky × (Vl × Kn))
def abs2 (l : MM) : KL := l.map fun p => (p.1, p.2.2)
def kv2 (l : MM) : KV := l.map fun p => (p.1, p.2.1)
structure MC (W w : World) (X T C m n : Nat) (l : MM) : Prop where
 bx : w.heap[X]? = some (.cells #[pt T, pt C] 126 (0, 0))
 own : W.heap.size ≤ X
 tab : TabK W w T (m : Int) n (kv2 l)
 kn : ∀ p ∈ l, KnAt w W.heap.size p.2.1 p.2.2
 ok : ∀ p ∈ l, KnI p.2.2
 len : l.length ≤ m
 mb : 1 ≤ m ∧ m ≤ 100000
section
variable {W w w' : World} {X T C m n : Nat} {l : MM}
theorem MC.blk (h : MC W w X T C m n l) (hb : Below w.heap.size w w') : MC W w' X T C m n l :=
 ⟨(hb.block X (blk_lt h.bx)).trans h.bx, h.own, h.tab.blk hb, fun p hp => (h.kn p hp).frc (FrC.below (T := 0) hb), h.ok, h.len, h.mb⟩
theorem MC.frc {T1 M1 M2 : Nat} (h : MC W w X T C m n l) (hf : FrC T1 w w') (h1 : w.cell? ⟨T1, 3, none⟩ = some (.map (some M1))) (h2 : w.cell? ⟨T, 3, none⟩ = some (.map (some M2))) (hne : M2 ≠ M1) (hb : Below W.heap.size W w') : MC W w' X T C m n l := by
 refine ⟨hf.same _ _ _ _ h.bx (by decide) (by decide) (by decide), h.own, ?_, fun p hp => (h.kn p hp).frc hf, h.ok, h.len, h.mb⟩
 obtain ⟨E, M, L, ho, e⟩ := h.tab
 have hM : M = M2 := by
  have := ho.tab.c3
  rw [h2] at this
  cases this
  rfl
 subst hM
 refine ⟨E, M, L, ⟨ho.tab.same fun b hb => ?_, ho.own, hb⟩, e⟩
 rcases hb with rfl | rfl | rfl | hb
 ·exact (hf.same _ _ _ _ ho.tab.tb (by decide) (by decide) (by decide)).trans ho.tab.tb.symm
 ·obtain ⟨es, cl, hm⟩ := ho.tab.mp.isMap
  exact ((hf.mp M1 h1).2 _ _ _ hne hm).trans hm.symm
 ·obtain ⟨c, hc, _⟩ := ho.tab.row.plc b (by simp)
  exact (hf.same _ _ _ _ hc (by decide) (by decide) (by decide)).trans hc.symm
 ·obtain ⟨c, hc, _⟩ := ho.tab.row.plc b (List.mem_cons_of_mem _ hb)
  exact (hf.same _ _ _ _ hc (by decide) (by decide) (by decide)).trans hc.symm
theorem rc_frn {C T1 m1 n1 M1 M2 : Nat} {ver : Int} {l : Rc.ML} {Q : Nat → Prop} (h : RC W w C T1 m1 n1 ver l Q) (hf : Frn T w w') (h1 : w.cell? ⟨T1, 3, none⟩ = some (.map (some M1))) (h2 : w.cell? ⟨T, 3, none⟩ = some (.map (some M2))) (hne : M2 ≠ M1) (hb : Below W.heap.size W w') : RC W w' C T1 m1 n1 ver l Q := by
 refine ⟨hf.same _ _ _ _ h.bx (by decide) (by decide), h.own, ?_, fun p hp => ⟨?_, (h.ev p hp).2⟩, h.ok, h.len, h.nd, h.vb, h.mb⟩
 ·obtain ⟨E, M, L, ho, e⟩ := h.tab
  have hM : M = M1 := by
   have := ho.tab.c3
   rw [h1] at this
   cases this
   rfl
  subst hM
  refine ⟨E, M, L, ⟨ho.tab.same fun b hb => ?_, ho.own, hb⟩, e⟩
  rcases hb with rfl | rfl | rfl | hb
  ·exact (hf.same _ _ _ _ ho.tab.tb (by decide) (by decide)).trans ho.tab.tb.symm
  ·obtain ⟨es, cl, hm⟩ := ho.tab.mp.isMap
   exact ((hf.mp M2 h2).2 _ _ _ (Ne.symm hne) hm).trans hm.symm
  ·obtain ⟨c, hc, _⟩ := ho.tab.row.plc b (by simp)
   exact (hf.same _ _ _ _ hc (by decide) (by decide)).trans hc.symm
  ·obtain ⟨c, hc, _⟩ := ho.tab.row.plc b (List.mem_cons_of_mem _ hb)
   exact (hf.same _ _ _ _ hc (by decide) (by decide)).trans hc.symm
 ·obtain ⟨qd, cd, qg, cg, h0, h1', h2', r⟩ := (h.ev p hp).1
  exact ⟨qd, cd, qg, cg, hf.same _ _ _ _ h0 (by decide) (by decide), h1'.same (fun b cur _ hb => (hf.same _ _ _ _ hb (by decide) (by decide)).trans hb.symm), h2'.same (fun b cur _ hb => (hf.same _ _ _ _ hb (by decide) (by decide)).trans hb.symm), r⟩
end
structure MS (W w : World) (C T m n : Nat) (ver : Int) (A : AL) (X U m2 n2 : Nat) (L : KL) : Prop where
 rc : RCA W w C T m n ver A
 mc : ∃ l : MM, MC W w X U C m2 n2 l ∧ abs2 l = L
 ap : ∃ M1 M2, w.cell? ⟨T, 3, none⟩ = some (.map (some M1)) ∧ w.cell? ⟨U, 3, none⟩ = some (.map (some M2)) ∧ M2 ≠ M1
structure FrM (w w' : World) : Prop where
 size : w.heap.size ≤ w'.heap.size
 same : ∀ (b : Nat) (c : Array Value) (t : TypeId) (f : Nat × Nat), w.heap[b]? = some (.cells c t f) → t ≠ 161 → t ≠ 166 → t ≠ 97 → t ≠ 187 → t ≠ 197 → w'.heap[b]? = some (.cells c t f)
theorem FrM.refl (w : World) : FrM w w := ⟨Nat.le_refl _, fun _ _ _ _ h _ _ _ _ _ => h⟩
theorem FrM.trans {a b c : World} (h : FrM a b) (k : FrM b c) : FrM a c := ⟨Nat.le_trans h.size k.size, fun i x t f hi h1 h2 h3 h4 h5 => k.same i x t f (h.same i x t f hi h1 h2 h3 h4 h5) h1 h2 h3 h4 h5⟩
theorem FrM.below {w w' : World} (h : Below w.heap.size w w') : FrM w w' := ⟨h.size, fun b c t f hb _ _ _ _ _ => (h.block b (blk_lt hb)).trans hb⟩
theorem FrM.frc {T : Nat} {w w' : World} (h : FrC T w w') : FrM w w' := ⟨h.size, fun b c t f hb h1 h2 h3 _ _ => h.same b c t f hb h1 h2 h3⟩
theorem FrM.frn {T : Nat} {w w' : World} (h : Frn T w w') : FrM w w' := ⟨h.size, fun b c t f hb _ _ _ h4 h5 => h.same b c t f hb h4 h5⟩
theorem FrM.row {w w' : World} (h : FrM w w') {base e size k : Nat} {v : Value} {xs : List Value} (hr : w.ownsRow base e size v k xs) (h1 : e ≠ 161) (h2 : e ≠ 166) (h3 : e ≠ 97) (h4 : e ≠ 187) (h5 : e ≠ 197) : w'.ownsRow base e size v k xs := by
 obtain ⟨hl, h0 | ⟨g, cap, cur, hv, hb, hg, r⟩⟩ := hr
 ·exact ⟨hl, .inl h0⟩
 ·exact ⟨hl, .inr ⟨g, cap, cur, hv, hb, h.same g _ e _ hg h1 h2 h3 h4 h5, r⟩⟩
section
variable {W w w' : World} {C T m n : Nat} {ver : Int} {A : AL} {X U m2 n2 : Nat} {L : KL}
theorem MS.bel (h : MS W w C T m n ver A X U m2 n2 L) : Below W.heap.size W w := h.rc.bel
theorem MS.blk (h : MS W w C T m n ver A X U m2 n2 L) (hb : Below w.heap.size w w') : MS W w' C T m n ver A X U m2 n2 L := by
 obtain ⟨l, h1, h2⟩ := h.mc
 obtain ⟨M1, M2, h3, h4, h5⟩ := h.ap
 exact ⟨h.rc.blk hb, ⟨l, h1.blk hb, h2⟩, M1, M2, ((FrC.below (T := T) hb).mp M1 h3).1, ((FrC.below (T := U) hb).mp M2 h4).1, h5⟩
theorem MS.rcop {n' : Nat} {ver' : Int} {A' : AL} (h : MS W w C T m n ver A X U m2 n2 L) (hf : FrC T w w') (hr : RCA W w' C T m n' ver' A') : MS W w' C T m n' ver' A' X U m2 n2 L := by
 obtain ⟨l, h1, h2⟩ := h.mc
 obtain ⟨M1, M2, h3, h4, h5⟩ := h.ap
 have hb := h1.frc hf h3 h4 h5 hr.bel
 obtain ⟨E, M, L', ho, e⟩ := h1.tab
 refine ⟨hr, ⟨l, hb, h2⟩, M1, M2, (hf.mp M1 h3).1, ?_, h5⟩
 rw [cell_same ((hf.same _ _ _ _ ho.tab.tb (by decide) (by decide) (by decide)).trans ho.tab.tb.symm)]
 exact h4
theorem MS.mcop {n2' : Nat} {l l' : MM} (h : MS W w C T m n ver A X U m2 n2 L) (h1 : MC W w X U C m2 n2 l) (hf : Frn U w w') (hm : MC W w' X U C m2 n2' l') (hb : Below W.heap.size W w') : MS W w' C T m n ver A X U m2 n2' (abs2 l') := by
 obtain ⟨M1, M2, h3, h4, h5⟩ := h.ap
 obtain ⟨lr, Q, hr, e⟩ := h.rc.ex
 have hr' := rc_frn hr hf h3 h4 h5 hb
 refine ⟨⟨lr, Q, hr', e⟩, ⟨l', hm, rfl⟩, M1, M2, ?_, (hf.mp M2 h4).1, h5⟩
 obtain ⟨E, M, L', ho, e⟩ := hr.tab
 rw [cell_same ((hf.same _ _ _ _ ho.tab.tb (by decide) (by decide)).trans ho.tab.tb.symm)]
 exact h3
theorem MC.next {l l' : MM} {n2' : Nat} (h : MC W w X U C m2 n2 l) (hf : Frn U w w') (ht : TabK W w' U (m2 : Int) n2' (kv2 l')) (hmem : ∀ p ∈ l', p ∈ l ∨ (KnAt w W.heap.size p.2.1 p.2.2 ∧ KnI p.2.2)) (hlen : l'.length ≤ m2) : MC W w' X U C m2 n2' l' := by
 refine ⟨hf.same _ _ _ _ h.bx (by decide) (by decide), h.own, ht, fun p hp => ?_, fun p hp => ?_, hlen, h.mb⟩
 ·rcases hmem p hp with h1 | h1
  ·exact (h.kn p h1).frn hf
  ·exact h1.1.frn hf
 ·rcases hmem p hp with h1 | h1
  ·exact h.ok p h1
  ·exact h1.2
theorem kv2_len (l : MM) : (kv2 l).length = l.length := by simp [kv2]
theorem kv2_get (l : MM) (k : Ky) : getR (kv2 l) k = (getR l k).map Prod.fst := Rc.getR_map Prod.fst l k
theorem abs2_get (l : MM) (k : Ky) : getR (abs2 l) k = (getR l k).map Prod.snd := Rc.getR_map Prod.snd l k
theorem kv2_put (m : Nat) (l : MM) (k : Ky) (v : Vl × Kn) : putR m (kv2 l) k v.1 = kv2 (putR m l k v) := Rc.putR_map Prod.fst m l k v
theorem abs2_put (m : Nat) (l : MM) (k : Ky) (v : Vl × Kn) : putR m (abs2 l) k v.2 = abs2 (putR m l k v) := Rc.putR_map Prod.snd m l k v
theorem kv2_without (l : MM) (k : Ky) : without (kv2 l) k = kv2 (without l k) := Rc.without_map Prod.fst l k
theorem abs2_without (l : MM) (k : Ky) : without (abs2 l) k = abs2 (without l k) := Rc.without_map Prod.snd l k
theorem ms_put (h : MS W w C T m n ver A X U m2 n2 L) (k : Ky) (hk : KOk k) (v : Vl) (y : Kn) (hv : KnAt w W.heap.size v y) (hy : KnI y) (hn : n2 < maxLen) :
  Calls Tryz.prog 69 #[pt U, kV k, vV v] w fun r w' => (∃ x, r = .returned x) ∧ MS W w' C T m n ver A X U m2 (n2 + 1) (putR m2 L k y) ∧ FrM w w' := by
 obtain ⟨l, hm, rfl⟩ := h.mc
 refine (put_kv hm.tab k v (by rw [kv2_len]; exact hm.len) hm.mb.1 hm.mb.2 hk hn).mono ?_
 rintro r w' ⟨hr, ht, hf⟩
 rw [kv2_put m2 l k (v, y)] at ht
 refine ⟨hr, ?_, FrM.frn hf⟩
 rw [abs2_put m2 l k (v, y)]
 refine h.mcop hm hf (hm.next hf ht (fun p hp => ?_) putR_len) ht.bel
 rcases mem_putR hp with rfl | ⟨hp, _⟩
 ·exact .inr ⟨hv, hy⟩
 ·exact .inl hp
theorem ms_drop (h : MS W w C T m n ver A X U m2 n2 L) (k : Ky) (hk : KOk k) :
  Calls Tryz.prog 68 #[pt U, kV k] w fun r w' => (∃ b, r = .returned (.bool b)) ∧ MS W w' C T m n ver A X U m2 n2 (without L k) ∧ FrM w w' := by
 obtain ⟨l, hm, rfl⟩ := h.mc
 refine (drop_kv hm.tab k hk).mono ?_
 rintro r w' ⟨hr, ht, hf⟩
 rw [kv2_without] at ht
 refine ⟨⟨_, hr⟩, ?_, FrM.frn hf⟩
 rw [abs2_without]
 exact h.mcop hm hf (hm.next hf ht (fun p hp => .inl (mem_without.1 hp).1) (Nat.le_trans without_len hm.len)) ht.bel
theorem ms_get (h : MS W w C T m n ver A X U m2 n2 L) (k : Ky) (hk : KOk k) :
  Calls Tryz.prog 76 #[pt U, kV k] w fun r w' => FrM w w' ∧ ((getR L k = none ∧ r = .returned (.tuple #[v0, .bool false]) ∧ MS W w' C T m n ver A X U m2 n2 L) ∨ (∃ y v, getR L k = some y ∧ KnI y ∧ r = .returned (.tuple #[vV v, .bool true]) ∧ KnAt w' W.heap.size v y ∧ MS W w' C T m n ver A X U m2 n2 ((k, y) :: without L k))) := by
 obtain ⟨l, hm, rfl⟩ := h.mc
 refine (get_kv hm.tab k hk).mono ?_
 rintro r w' ⟨hr, ht, hf⟩
 refine ⟨FrM.frn hf, ?_⟩
 rw [kv2_get] at hr ht
 cases hg : getR l k with
 | none =>
  rw [hg] at hr ht
  refine .inl ⟨by rw [abs2_get, hg]; rfl, hr, ?_⟩
  exact h.mcop hm hf (hm.next hf ht (fun p hp => .inl hp) hm.len) ht.bel
 | some q =>
  obtain ⟨v, y⟩ := q
  rw [hg] at hr ht
  have hp := getR_mem hg
  refine .inr ⟨y, v, by rw [abs2_get, hg]; rfl, hm.ok _ hp, hr, (hm.kn _ hp).frn hf, ?_⟩
  rw [abs2_without]
  have ht' : TabK W w' U (m2 : Int) n2 (kv2 ((k, (v, y)) :: without l k)) := by
   have e : kv2 ((k, (v, y)) :: without l k) = (k, v) :: without (kv2 l) k := by rw [kv2_without]; rfl
   rw [e]
   exact ht
  refine h.mcop (l' := (k, (v, y)) :: without l k) hm hf (hm.next hf ht' (fun p hp' => .inl ?_) ?_) ht'.bel
  ·rcases List.mem_cons.1 hp' with rfl | hp'
   ·exact hp
   ·exact (mem_without.1 hp').1
  ·have := Rc.getR_split hg
   have := hm.len
   simp only [List.length_cons]
   omega
theorem ms_len (h : MS W w C T m n ver A X U m2 n2 L) : Calls Tryz.prog 79 #[pt U] w fun e w' => e = .returned (.int .i64 (L.length : Int)) ∧ w' = w := by
 obtain ⟨l, hm, rfl⟩ := h.mc
 have := len_kv hm.tab
 rw [kv2_len] at this
 rw [show (abs2 l).length = l.length by simp [abs2]]
 exact this
theorem MS.box (h : MS W w C T m n ver A X U m2 n2 L) : w.heap[X]? = some (.cells #[pt U, pt C] 126 (0, 0)) := by
 obtain ⟨l, hm, rfl⟩ := h.mc
 exact hm.bx
theorem MS.ok (h : MS W w C T m n ver A X U m2 n2 L) : ∀ p ∈ L, KnI p.2 := by
 obtain ⟨l, hm, rfl⟩ := h.mc
 intro p hp
 obtain ⟨q, hq, rfl⟩ := List.mem_map.1 hp
 exact hm.ok q hq
theorem MS.len (h : MS W w C T m n ver A X U m2 n2 L) : L.length ≤ m2 := by
 obtain ⟨l, hm, rfl⟩ := h.mc
 have := hm.len
 simpa [abs2] using this
end
end Go.Proofs.YtikjepodmdaknaaGreatDoor.Mc
