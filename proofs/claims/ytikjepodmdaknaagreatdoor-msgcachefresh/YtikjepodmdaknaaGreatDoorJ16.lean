/- Texts of this proof, joined: RcPut, RcKv, RcKvOps, RcF, RcS, RsB. -/
import Derived.Test.YtikjepodmdaknaaGreatDoorJ15
import Derived.Test.YtikjepodmdaknaaGreatDoorJ11
import Derived.Test.YtikjepodmdaknaaGreatDoorJ13
set_option linter.unusedVariables false
set_option linter.unusedSimpArgs false
/- Layer 16's table: Look, Get, Drop, Put of a table. -/
namespace Go.Proofs.YtikjepodmdaknaaGreatDoor.Rc
open Go.RowKit
open Go.MapKept Go.WideMaps
theorem find_hit {w : World} {T E M : Nat} {most : Int} {n : Nat} {L : List Ent} (h : Tab w T E M most n L) {e : Ent} (he : e ∈ L) :
  Calls Tryz.prog 89 #[pt T, kV e.k] w fun r w' => r = .returned (.tuple #[pt e.b, .bool true]) ∧ Below w.heap.size w w' := by
 refine (find_in w T M e.k _ h.c3 (blk_lt h.tb) (fun o0 o1 o2 => (((h.alloc o0).alloc o1).alloc o2).drew.mp.hit he (h.sz e he))).mono ?_
 rintro r w' ⟨rfl, rfl⟩
 exact ⟨rfl, ((((Below.refl _ _).alloc (Nat.le_refl _) _).alloc (by simp) _).alloc (by simp; omega) _).drew⟩
theorem find_miss {w : World} {T E M : Nat} {most : Int} {n : Nat} {L : List Ent} (h : Tab w T E M most n L) {k : Ky} (hk : ∀ e ∈ L, e.k ≠ k) (hs : KOk k) :
  Calls Tryz.prog 89 #[pt T, kV k] w fun r w' => r = .returned (.tuple #[nilP, .bool true]) ∧ Below w.heap.size w w' := by
 refine (find_in w T M k _ h.c3 (blk_lt h.tb) (fun o0 o1 o2 => (((h.alloc o0).alloc o1).alloc o2).drew.mp.miss hk hs)).mono ?_
 rintro r w' ⟨rfl, rfl⟩
 exact ⟨rfl, ((((Below.refl _ _).alloc (Nat.le_refl _) _).alloc (by simp) _).alloc (by simp; omega) _).drew⟩
theorem key_blk {w w1 : World} {k : Ky} (hb : Below (w.alloc (.cells #[.string k.1, .int .i64 k.2] 94 (0, 0))).heap.size (w.alloc (.cells #[.string k.1, .int .i64 k.2] 94 (0, 0))) w1) : w1.cell? ⟨w.heap.size, 0, none⟩ = some (.string k.1) ∧ w1.cell? ⟨w.heap.size, 1, none⟩ = some (.int .i64 k.2) := by
 have g : w1.heap[w.heap.size]? = some (.cells #[.string k.1, .int .i64 k.2] 94 (0, 0)) := (hb.block _ (by simp)).trans (heap_alloc_last _ _)
 exact ⟨by rw [cell_of_row _ _ _ _ _ _ g]; rfl, by rw [cell_of_row _ _ _ _ _ _ g]; rfl⟩
theorem below_key {w w1 : World} {o : Obj} (hb : Below (w.alloc o).heap.size (w.alloc o) w1) : Below w.heap.size w w1 := ((Below.refl _ _).alloc (Nat.le_refl _) _).trans (hb.mono (by simp))
theorem look_hit {w : World} {T E M : Nat} {most : Int} {n : Nat} {L : List Ent} (h : Tab w T E M most n L) {e : Ent} (he : e ∈ L) :
  Calls Tryz.prog 43 #[pt T, kV e.k] w fun r w' => r = .returned (.tuple #[pt e.v, .bool true]) ∧ Below w.heap.size w w' := by
 have HF := Hid.mk (find_hit (h.alloc (.cells #[.string e.k.1, .int .i64 e.k.2] 94 (0, 0))) he)
 go_enter Tryz.func43, Tryz.ntmps43
 go_wp2_with fail
 refine HF.out.mono ?_
 rintro r w1 ⟨rfl, hb⟩
 obtain ⟨ck0, ck1⟩ := key_blk hb
 replace hb := below_key hb
 have cv := (h.blk hb).row.val e he
 clear h
 go_wp2
 go_ret2
 exact ⟨rfl, hb⟩
theorem look_miss {w : World} {T E M : Nat} {most : Int} {n : Nat} {L : List Ent} (h : Tab w T E M most n L) {k : Ky} (hk : ∀ e ∈ L, e.k ≠ k) (hs : KOk k) :
  Calls Tryz.prog 43 #[pt T, kV k] w fun r w' => r = .returned (.tuple #[nilP, .bool false]) ∧ Below w.heap.size w w' := by
 have HF := Hid.mk (find_miss (h.alloc (.cells #[.string k.1, .int .i64 k.2] 94 (0, 0))) hk hs)
 clear hk
 go_enter Tryz.func43, Tryz.ntmps43
 go_wp2_with fail
 refine HF.out.mono ?_
 rintro r w1 ⟨rfl, hb⟩
 obtain ⟨ck0, ck1⟩ := key_blk hb
 replace hb := below_key hb
 clear h
 go_wp2
 go_ret2
 exact ⟨rfl, hb⟩
theorem get_hit {w : World} {T E M : Nat} {most : Int} {n : Nat} {X Y : List Ent} {e : Ent} (h : Tab w T E M most n (X ++ e :: Y)) :
  Calls Tryz.prog 55 #[pt T, kV e.k] w fun r w' => r = .returned (.tuple #[pt e.v, .bool true]) ∧ Tab w' T E M most n (e :: (X ++ Y)) ∧ Kp (tS T E M (X ++ e :: Y)) w w' := by
 have HF := Hid.mk (find_hit (h.alloc (.cells #[.string e.k.1, .int .i64 e.k.2] 94 (0, 0))) (e := e) (by simp))
 go_enter Tryz.func55, Tryz.ntmps55
 go_wp2_with fail
 refine HF.out.mono ?_
 rintro r w1 ⟨rfl, hb⟩
 obtain ⟨ck0, ck1⟩ := key_blk hb
 replace hb := below_key hb
 have h1 := h.blk hb
 have HR := Hid.mk (renew_tab h1)
 go_wp2_with fail
 refine HR.out.mono ?_
 rintro r w2 ⟨rfl, h2, k2⟩
 have cv := h2.row.val e (by simp)
 have HE := Hid.mk h2
 clear h h1 h2
 go_wp2
 go_ret2
 exact ⟨rfl, HE.out, (Kp.of_below hb).trans k2 (fun _ _ x => x)⟩
theorem get_miss {w : World} {T E M : Nat} {most : Int} {n : Nat} {L : List Ent} (h : Tab w T E M most n L) {k : Ky} (hk : ∀ e ∈ L, e.k ≠ k) (hs : KOk k) :
  Calls Tryz.prog 55 #[pt T, kV k] w fun r w' => r = .returned (.tuple #[nilP, .bool false]) ∧ Below w.heap.size w w' := by
 have HF := Hid.mk (find_miss (h.alloc (.cells #[.string k.1, .int .i64 k.2] 94 (0, 0))) hk hs)
 clear hk
 go_enter Tryz.func55, Tryz.ntmps55
 go_wp2_with fail
 refine HF.out.mono ?_
 rintro r w1 ⟨rfl, hb⟩
 obtain ⟨ck0, ck1⟩ := key_blk hb
 replace hb := below_key hb
 clear h
 go_wp2
 go_ret2
 exact ⟨rfl, hb⟩
theorem drop_hit {w : World} {T E M : Nat} {most : Int} {n : Nat} {X Y : List Ent} {e : Ent} (h : Tab w T E M most n (X ++ e :: Y)) :
  Calls Tryz.prog 56 #[pt T, kV e.k] w fun r w' => r = .returned (.bool true) ∧ Tab w' T E M most n (X ++ Y) ∧ Kp (tS T E M (X ++ e :: Y)) w w' ∧
   Plc w' e.b ∧ KAt w' e.b e.k ∧ w'.cell? ⟨e.b, 3, none⟩ = some nilP ∧ w'.cell? ⟨e.b, 2, none⟩ = some (pt e.v) := by
 have HF := Hid.mk (find_hit (h.alloc (.cells #[.string e.k.1, .int .i64 e.k.2] 94 (0, 0))) (e := e) (by simp))
 go_enter Tryz.func56, Tryz.ntmps56
 go_wp2_with fail
 refine HF.out.mono ?_
 rintro r w1 ⟨rfl, hb⟩
 obtain ⟨ck0, ck1⟩ := key_blk hb
 replace hb := below_key hb
 have h1 := h.blk hb
 have HR := Hid.mk (remove_tab h1)
 go_wp2_with fail
 refine HR.out.mono ?_
 rintro r w2 ⟨rfl, h2, k2, p1, p2, p3⟩
 have HE := Hid.mk (And.intro h2 (And.intro p1 (And.intro p2 p3)))
 clear h h1 h2 p1 p2 p3
 go_wp2
 go_ret
 exact ⟨rfl, HE.out.1, (Kp.of_below hb).trans k2 (fun _ _ x => x), HE.out.2⟩
theorem drop_miss {w : World} {T E M : Nat} {most : Int} {n : Nat} {L : List Ent} (h : Tab w T E M most n L) {k : Ky} (hk : ∀ e ∈ L, e.k ≠ k) (hs : KOk k) :
  Calls Tryz.prog 56 #[pt T, kV k] w fun r w' => r = .returned (.bool false) ∧ Below w.heap.size w w' := by
 have HF := Hid.mk (find_miss (h.alloc (.cells #[.string k.1, .int .i64 k.2] 94 (0, 0))) hk hs)
 clear hk
 go_enter Tryz.func56, Tryz.ntmps56
 go_wp2_with fail
 refine HF.out.mono ?_
 rintro r w1 ⟨rfl, hb⟩
 obtain ⟨ck0, ck1⟩ := key_blk hb
 replace hb := below_key hb
 clear h
 go_wp2
 go_ret
 exact ⟨rfl, hb⟩
theorem Tab.setVal {w : World} {T E M : Nat} {most : Int} {n : Nat} {X Y : List Ent} {e : Ent} (h : Tab w T E M most n (X ++ e :: Y)) (v : Nat) : Tab (w.setCell ⟨e.b, 2, none⟩ (pt v)) T E M most n (X ++ ⟨e.b, e.k, v⟩ :: Y) := by
 have hbs : bs (X ++ ⟨e.b, e.k, v⟩ :: Y) = bs (X ++ e :: Y) := by simp [bs]
 have hks : ks (X ++ ⟨e.b, e.k, v⟩ :: Y) = ks (X ++ e :: Y) := by simp [ks]
 have pe := h.row.plc e.b (List.mem_cons_of_mem _ (mem_bs_mid.2 (by simp)))
 have ni := h.notIn
 have old : ∀ x ∈ X ++ ⟨e.b, e.k, v⟩ :: Y, (x = ⟨e.b, e.k, v⟩) ∨ (x ∈ X ++ e :: Y ∧ x.b ≠ e.b) := fun x hx => by
  simp at hx
  rcases hx with hx | hx | hx
  ·refine .inr ⟨by simp [hx], fun hh => ni ?_⟩
   rw [← hh]
   exact List.mem_cons_of_mem _ (mem_bs_app.2 (.inl (List.mem_map_of_mem hx)))
  ·exact .inl hx
  ·refine .inr ⟨by simp [hx], fun hh => ni ?_⟩
   rw [← hh]
   exact List.mem_cons_of_mem _ (mem_bs_app.2 (.inr (List.mem_map_of_mem hx)))
 refine ⟨?_, ⟨?_, ?_, ?_, ?_, ?_⟩, ?_, ?_, ?_, ?_⟩
 ·rw [Below.heap_setCell _ _ _ _ (h.noPlc pe), h.tb]
  simp
 ·rw [hbs]
  exact h.row.links.frame _ (fun a _ => cell_set_o (fun _ => by decide)) (fun a _ => cell_set_o (fun _ => by decide))
 ·rw [hbs]; exact h.row.nd
 ·intro b hb
  rw [hbs] at hb
  exact (h.row.plc b hb).set _ _
 ·intro x hx
  have hx' : KAt w x.b x.k := by
   rcases old x hx with rfl | ⟨hx, _⟩
   ·exact h.row.key e (by simp)
   ·exact h.row.key x hx
  exact ⟨(cell_set_o (fun _ => by decide)).trans hx'.1, (cell_set_o (fun _ => by decide)).trans hx'.2⟩
 ·intro x hx
  rcases old x hx with rfl | ⟨hx, hne⟩
  ·exact World.cell?_setCell_same _ _ _ (h.row.val e (by simp))
  ·rw [cell_set_o (fun hh => absurd hh.symm hne)]
   exact h.row.val x hx
 ·refine MapAt.perm (MapAt.same h.mp (Below.heap_setCell _ _ _ _ (h.noMap pe))) (fun k b => ?_)
  constructor
  ·rintro ⟨y, hy, h1⟩
   rcases old y hy with rfl | ⟨hy, _⟩
   ·exact ⟨e, by simp, h1⟩
   ·exact ⟨y, hy, h1⟩
  ·rintro ⟨y, hy, h1⟩
   simp at hy
   rcases hy with hy | rfl | hy
   ·exact ⟨y, by simp [hy], h1⟩
   ·exact ⟨⟨y.b, y.k, v⟩, by simp, h1⟩
   ·exact ⟨y, by simp [hy], h1⟩
 ·rw [hks]; exact h.kn
 ·have := h.len
  simpa using this
 ·intro x hx
  rcases old x hx with rfl | ⟨hx, _⟩
  ·exact h.sz e (by simp)
  ·exact h.sz x hx
abbrev kyO (k : Ky) : Obj := .cells #[.string k.1, .int .i64 k.2] 94 (0, 0)
abbrev zO : Obj := .cells #[.string ⟨#[]⟩, .int .i64 0] 94 (0, 0)
structure P3 (N : Nat) (k : Ky) (w : World) : Prop where
 k0 : w.heap[N]? = some (kyO k)
 r : w.heap[N + 1]? = some zO
 g : w.heap[N + 1 + 1]? = some zO
theorem P3.new (w : World) (k : Ky) : P3 w.heap.size k (((w.alloc (kyO k)).alloc zO).alloc zO) := by
 refine ⟨?_, ?_, ?_⟩
 ·rw [Below.heap_alloc _ _ _ (by simp; omega), Below.heap_alloc _ _ _ (by simp)]
  exact heap_alloc_last _ _
 ·rw [Below.heap_alloc _ _ _ (by simp)]
  have := heap_alloc_last (w.alloc (kyO k)) zO
  simpa using this
 ·have := heap_alloc_last ((w.alloc (kyO k)).alloc zO) zO
  simpa using this
theorem P3.lt {N : Nat} {k : Ky} {w : World} (h : P3 N k w) : N + 1 + 1 < w.heap.size := blk_lt h.g
theorem P3.blk {N : Nat} {k : Ky} {w w' : World} (h : P3 N k w) (hb : Below w.heap.size w w') : P3 N k w' :=
 ⟨(hb.block _ (blk_lt h.k0)).trans h.k0, (hb.block _ (blk_lt h.r)).trans h.r, (hb.block _ (blk_lt h.g)).trans h.g⟩
theorem P3.kp {S : Nat → Prop} {N : Nat} {k : Ky} {w w' : World} (h : P3 N k w) (hk : Kp S w w') (hS : ∀ b, S b → b ≠ N ∧ b ≠ N + 1 ∧ b ≠ N + 1 + 1) : P3 N k w' :=
 ⟨(hk.same _ (blk_lt h.k0) (fun e => (hS _ e).1 rfl)).trans h.k0, (hk.same _ (blk_lt h.r) (fun e => (hS _ e).2.1 rfl)).trans h.r, (hk.same _ (blk_lt h.g) (fun e => (hS _ e).2.2 rfl)).trans h.g⟩
theorem P3.set {N b i : Nat} {k : Ky} {w : World} {v : Value} (h : P3 N k w) (hb : b < N) : P3 N k (w.setCell ⟨b, i, none⟩ v) :=
 ⟨(Below.heap_setCell _ _ _ _ (by show N ≠ b; omega)).trans h.k0, (Below.heap_setCell _ _ _ _ (by show N + 1 ≠ b; omega)).trans h.r, (Below.heap_setCell _ _ _ _ (by show N + 1 + 1 ≠ b; omega)).trans h.g⟩
theorem P3.cells {N : Nat} {k : Ky} {w : World} (h : P3 N k w) : (w.cell? ⟨N, 0, none⟩ = some (.string k.1) ∧ w.cell? ⟨N, 1, none⟩ = some (.int .i64 k.2)) ∧ (w.cell? ⟨N + 1, 0, none⟩ = some (.string ⟨#[]⟩) ∧ w.cell? ⟨N + 1, 1, none⟩ = some (.int .i64 0)) ∧ (w.cell? ⟨N + 1 + 1, 0, none⟩ = some (.string ⟨#[]⟩) ∧ w.cell? ⟨N + 1 + 1, 1, none⟩ = some (.int .i64 0)) ∧ (w.frozen? ⟨N + 1, 0, none⟩ = false ∧ w.frozen? ⟨N + 1, 1, none⟩ = false) := by
 refine ⟨⟨?_, ?_⟩, ⟨?_, ?_⟩, ⟨?_, ?_⟩, frozen_of h.r 0, frozen_of h.r 1⟩ <;> first | (rw [cell_of_row _ _ _ _ _ _ h.k0]; rfl) | (rw [cell_of_row _ _ _ _ _ _ h.r]; rfl) | (rw [cell_of_row _ _ _ _ _ _ h.g]; rfl)
theorem set_blk {w : World} {b : Nat} {c : Array Value} {t : TypeId} {f : Nat × Nat} (h : w.heap[b]? = some (.cells c t f)) (i : Nat) (v : Value) : (w.setCell ⟨b, i, none⟩ v).heap[b]? = some (.cells (c.setIfInBounds i v) t f) := by
 simp only [World.setCell, Array.getElem?_modify, if_true, h]
 rfl
theorem P3.fin {N : Nat} {k : Ky} {w : World} (h : P3 N k w) (x y : Value) : ((w.setCell ⟨N + 1, 0, none⟩ x).setCell ⟨N + 1, 1, none⟩ y).heap[N + 1]? = some (.cells #[x, y] 94 (0, 0)) := set_blk (set_blk h.r 0 x) 1 y
theorem fin_tab {w u : World} {T E M : Nat} {most : Int} {n : Nat} {L : List Ent} {S : Nat → Prop} (h : Tab u T E M most n L) (k : Kp S w u) {R : Nat} (hR : w.heap.size ≤ R) (hn : ¬ tS T E M L R) (x y : Value) : Tab ((u.setCell ⟨R, 0, none⟩ x).setCell ⟨R, 1, none⟩ y) T E M most n L ∧ Kp S w ((u.setCell ⟨R, 0, none⟩ x).setCell ⟨R, 1, none⟩ y) := by
 refine ⟨h.same fun b hb => ?_, (k.set (.inr hR) _).set (.inr hR) _⟩
 have hne : b ≠ R := fun e => hn (e ▸ hb)
 exact (Below.heap_setCell _ _ _ _ hne).trans (Below.heap_setCell _ _ _ _ hne)
theorem sizeKy : (Tryz.prog.info? 94).map (·.size) = some 2 := by kernel_rfl
theorem results_ky {fn : Func} {p j : Tmp} (h : fn.results = #[.cell p 94, .tmp j]) {tmps : Array Value} {W : World} {b : Nat} {x y : Value} {t : Value} (hp : tmps.getD p undef = .pointer (some ⟨b, 0, none⟩)) (ht : tmps.getD j undef = t) (hb : W.heap[b]? = some (.cells #[x, y] 94 (0, 0))) : (results fn tmps).run Tryz.prog W = .ok (.tuple #[.agg #[x, y], t]) W := by
 have ht' : tmps[j]?.getD undef = t := by simpa using ht
 have hp' : tmps[p]?.getD undef = .pointer (some ⟨b, 0, none⟩) := by simpa using hp
 have hl : (loadVar 94 ⟨b, 0, none⟩).run Tryz.prog W = .ok (.agg #[x, y]) W := run_loadVar_row W b _ _ _ (0, 0) _ hb Tryz.underlying94 rfl sizeKy
 simp only [results, h]
 simp [hp', ht', asAddr, hl]
theorem out3 {w : World} {T E M : Nat} {most : Int} {n : Nat} {L : List Ent} (h : Tab w T E M most n L) : ∀ b, tS T E M L b → b ≠ w.heap.size ∧ b ≠ w.heap.size + 1 ∧ b ≠ w.heap.size + 1 + 1 := fun b hb => by
 have := h.lt hb
 omega
theorem below3 {w w1 : World} {k : Ky} (hb : Below (((w.alloc (kyO k)).alloc zO).alloc zO).heap.size (((w.alloc (kyO k)).alloc zO).alloc zO) w1) : Below w.heap.size w w1 :=
 ((((Below.refl _ _).alloc (Nat.le_refl _) _).alloc (by simp) _).alloc (by simp; omega) _).trans (hb.mono (by simp; omega))
set_option maxRecDepth 100000 in
theorem put_hit {w : World} {T E M : Nat} {most : Int} {n : Nat} {X Y : List Ent} {e : Ent} (h : Tab w T E M most n (X ++ e :: Y)) (v : Nat) :
  Calls Tryz.prog 45 #[pt T, kV e.k, pt v] w fun r w' => r = .returned (.tuple #[k0, .bool false]) ∧ Tab w' T E M most n (⟨e.b, e.k, v⟩ :: (X ++ Y)) ∧ Kp (tS T E M (X ++ e :: Y)) w w' := by
 have HF := Hid.mk (find_hit (((h.alloc (kyO e.k)).alloc zO).alloc zO) (e := e) (by simp))
 have HP := Hid.mk (P3.new w e.k)
 go_enter Tryz.func45, Tryz.ntmps45
 go_wp2_with fail
 refine HF.out.mono ?_
 rintro r w1 ⟨rfl, hb⟩
 have p1 := HP.out.blk hb
 replace hb := below3 hb
 have h1 := h.blk hb
 have pe := h1.row.plc e.b (List.mem_cons_of_mem _ (mem_bs_mid.2 (by simp)))
 have cv := h1.row.val e (by simp)
 have fv := pe.frozen 2
 have h2 := h1.setVal v
 have HR := Hid.mk (renew_tab h2)
 have hbs : bs (X ++ ⟨e.b, e.k, v⟩ :: Y) = bs (X ++ e :: Y) := by simp [bs]
 have HB := Hid.mk hbs
 have heb : e.b < w.heap.size := h.lt (.inr (.inr (.inr (mem_bs_mid.2 (by simp)))))
 have HP2 := Hid.mk (p1.set (b := e.b) (i := 2) (v := pt v) heb)
 have HO := Hid.mk (out3 h)
 clear hbs heb p1
 go_wp2_with fail
 refine HR.out.mono ?_
 rintro r w2 ⟨rfl, h3, k3⟩
 have p2 : P3 w.heap.size e.k w2 := HP2.out.kp k3 (fun b hb => HO.out b (by unfold tS at hb ⊢; rw [HB.out] at hb; exact hb))
 have k4 : Kp (tS T E M (X ++ e :: Y)) w w2 := by
  refine Kp.trans ((Kp.of_below (S := tS T E M (X ++ e :: Y)) hb).set (.inl ?_) _) k3 (fun x _ hx => ?_)
  ·exact .inr (.inr (.inr (mem_bs_mid.2 (by simp))))
  ·unfold tS at hx ⊢
   rw [HB.out] at hx
   exact hx
 have HE := Hid.mk (fin_tab h3 k4 (R := w.heap.size + 1) (by omega) (fun hh => by
  have := h.lt (w := w) (b := w.heap.size + 1) (by
   unfold tS at hh ⊢
   rw [show bs (⟨e.b, e.k, v⟩ :: (X ++ Y)) = e.b :: bs (X ++ Y) by simp [bs]] at hh
   rcases hh with x | x | x | x
   ·exact .inl x
   ·exact .inr (.inl x)
   ·exact .inr (.inr (.inl x))
   ·refine .inr (.inr (.inr (mem_bs_mid.2 ?_)))
    rcases List.mem_cons.1 x with x | x
    ·exact .inr (.inl x)
    ·exact (mem_bs_app.1 x).imp id .inr)
  omega) (.string ⟨#[]⟩) (.int .i64 0))
 have HR9 := Hid.mk (p2.fin (.string ⟨#[]⟩) (.int .i64 0))
 obtain ⟨⟨a0, a1⟩, ⟨a2, a3⟩, ⟨a4, a5⟩, a6, a7⟩ := p2.cells
 clear h h1 h2 h3 pe cv fv p2 k3 k4
 go_wp2
 refine bodyPost_ret (results_ky Tryz.results45 rfl rfl HR9.out) rfl ?_
 exact ⟨rfl, HE.out⟩
theorem Tab.lastCell {w : World} {T E M : Nat} {most : Int} {n : Nat} {X : List Ent} {z : Ent} (h : Tab w T E M most n (X ++ [z])) : w.cell? ⟨E, 3, none⟩ = some (pt z.b) := by
 have hl := h.row.links
 rw [show E :: (bs (X ++ [z]) ++ [E]) = (E :: bs X) ++ z.b :: [E] by simp [bs], Links.split] at hl
 exact hl.2.2.1
set_option maxRecDepth 100000 in
theorem put_room {w : World} {T E M : Nat} {most : Int} {n : Nat} {L : List Ent} (h : Tab w T E M most n L) (k : Ky) (v : Nat) (hk : ∀ e ∈ L, e.k ≠ k) (hs : KOk k) (hn : n < maxLen) (hr : ((L.length + 1 : Nat) : Int) ≤ most) (hm : most ≤ 100000) :
  Calls Tryz.prog 45 #[pt T, kV k, pt v] w fun r w' => r = .returned (.tuple #[k0, .bool false]) ∧ ∃ b, w.heap.size ≤ b ∧ Tab w' T E M most (n + 1) (⟨b, k, v⟩ :: L) ∧ Kp (tS T E M L) w w' := by
 have HF := Hid.mk (find_miss (((h.alloc (kyO k)).alloc zO).alloc zO) hk hs)
 have HP := Hid.mk (P3.new w k)
 go_enter Tryz.func45, Tryz.ntmps45
 go_wp2_with fail
 refine HF.out.mono ?_
 rintro r w1 ⟨rfl, hb⟩
 have p1 := HP.out.blk hb
 replace hb := below3 hb
 have h1 := h.blk hb
 have HA := Hid.mk (add_tab h1 k v hk hs hn (by omega))
 obtain ⟨⟨a0, a1⟩, -⟩ := p1.cells
 have HO := Hid.mk (out3 h)
 have HP1 := Hid.mk p1
 clear hk p1
 go_wp2_with fail
 refine HA.out.mono ?_
 rintro r w2 ⟨rfl, h2, k2⟩
 have p2 := HP1.out.kp k2 HO.out
 have c0 := h2.c0
 have c2 := h2.c2
 simp only [List.length_cons] at c2
 have hsz := hb.size
 have hlt := HP1.out.lt
 have HE := Hid.mk (fin_tab h2 ((Kp.of_below hb).trans k2 (fun _ _ x => x)) (R := w.heap.size + 1) (by omega) (fun hh => by
  rcases hh with x | x | x | x
  ·exact (HO.out _ (.inl x)).2.1 rfl
  ·exact (HO.out _ (.inr (.inl x))).2.1 rfl
  ·exact (HO.out _ (.inr (.inr (.inl x)))).2.1 rfl
  ·rcases List.mem_cons.1 (show w.heap.size + 1 ∈ (w1.heap.size + 1) :: bs L from x) with x | x
   ·omega
   ·exact (HO.out _ (.inr (.inr (.inr x)))).2.1 rfl) (.string ⟨#[]⟩) (.int .i64 0))
 have HR9 := Hid.mk (p2.fin (.string ⟨#[]⟩) (.int .i64 0))
 obtain ⟨-, ⟨a2, a3⟩, ⟨a4, a5⟩, a6, a7⟩ := p2.cells
 have HS : Hid (w.heap.size ≤ w1.heap.size + 1) := by show _ ≤ _; omega
 clear h h1 h2 hsz hlt p2 k2 a0 a1
 generalize hq : (((L.length + 1 : Nat)) : Int) = q at c2 hr
 clear hq
 go_wp2
 go_region
 go_wp2
 refine bodyPost_ret (results_ky Tryz.results45 rfl rfl (W := World.drew _) HR9.out) rfl ?_
 exact ⟨rfl, _, HS.out, HE.out.1.drew, HE.out.2.drew⟩
set_option maxRecDepth 100000 in
theorem put_full {w : World} {T E M : Nat} {most : Int} {n : Nat} {X : List Ent} {z : Ent} (h : Tab w T E M most n (X ++ [z])) (k : Ky) (v : Nat) (hk : ∀ e ∈ X ++ [z], e.k ≠ k) (hs : KOk k) (hn : n < maxLen) (hr : (((X ++ [z]).length : Nat) : Int) = most) (hm : most ≤ 100000) :
  Calls Tryz.prog 45 #[pt T, kV k, pt v] w fun r w' => r = .returned (.tuple #[kV z.k, .bool true]) ∧ ∃ b, w.heap.size ≤ b ∧ Tab w' T E M most (n + 1) (⟨b, k, v⟩ :: X) ∧ Kp (tS T E M (X ++ [z])) w w' := by
 have HF := Hid.mk (find_miss (((h.alloc (kyO k)).alloc zO).alloc zO) hk hs)
 have HP := Hid.mk (P3.new w k)
 go_enter Tryz.func45, Tryz.ntmps45
 go_wp2_with fail
 refine HF.out.mono ?_
 rintro r w1 ⟨rfl, hb⟩
 have p1 := HP.out.blk hb
 replace hb := below3 hb
 have h1 := h.blk hb
 have HA := Hid.mk (add_tab h1 k v hk hs hn (by omega))
 obtain ⟨⟨a0, a1⟩, -⟩ := p1.cells
 have HO := Hid.mk (out3 h)
 have HP1 := Hid.mk p1
 clear hk p1
 go_wp2_with fail
 refine HA.out.mono ?_
 rintro r w2 ⟨rfl, h2, k2⟩
 have HP2 := Hid.mk ((HP1.out.kp k2 HO.out).blk (Below.refl _ _).drew)
 have c0 := h2.c0
 have c2 := h2.c2
 have hq : (((⟨w1.heap.size + 1, k, v⟩ : Ent) :: (X ++ [z])).length : Int) = most + 1 := by rw [← hr]; simp
 rw [hq] at c2
 have c1 := h2.c1
 have h3 : Tab w2.drew T E M most (n + 1) ((⟨w1.heap.size + 1, k, v⟩ :: X) ++ [z]) := h2.drew
 have ce := h3.lastCell
 have HL := Hid.mk (last_in w2.drew T E z.b c1 ce)
 have HR := Hid.mk (remove_tab (X := ⟨w1.heap.size + 1, k, v⟩ :: X) (e := z) (Y := []) h3)
 have hsz := hb.size
 have hlt := HP1.out.lt
 have HK : Hid (w.heap.size + 1 + 1 < w1.heap.size ∧ Below w.heap.size w w1 ∧ Kp (tS T E M (X ++ [z])) w1 w2) := ⟨hlt, hb, k2⟩
 clear h h1 h2 h3 hsz hq hr hb k2 ce c1 hlt a0 a1
 go_wp2
 go_region
 go_wp2_with fail
 refine HL.out.mono ?_
 rintro r w3 ⟨rfl, rfl⟩
 go_wp2_with fail
 refine HR.out.mono ?_
 rintro r w4 ⟨rfl, h4, k4, p1, p2, p3⟩
 have hout : ∀ b, tS T E M (⟨w1.heap.size + 1, k, v⟩ :: X ++ [z]) b → (tS T E M (X ++ [z]) b ∨ b = w1.heap.size + 1) := fun b hh => by
  rcases hh with x | x | x | x
  ·exact .inl (.inl x)
  ·exact .inl (.inr (.inl x))
  ·exact .inl (.inr (.inr (.inl x)))
  ·have : b = w1.heap.size + 1 ∨ b ∈ bs (X ++ [z]) := by simpa [bs] using x
   rcases this with h | h
   ·exact .inr h
   ·exact .inl (.inr (.inr (.inr h)))
 have hl1 := HK.out.1
 have q4 : P3 w.heap.size k w4 := HP2.out.kp k4 (fun b hh => by
  rcases hout b hh with x | x
  ·exact HO.out b x
  ·omega)
 have kk : Kp (tS T E M (X ++ [z])) w w4 := Kp.trans (((Kp.of_below HK.out.2.1).trans HK.out.2.2 (fun _ _ x => x)).drew) k4 (fun b hb hh => by
  rcases hout b hh with x | x
  ·exact x
  ·omega)
 have HE := Hid.mk (fin_tab (L := ⟨w1.heap.size + 1, k, v⟩ :: X) (by simpa using h4) kk (R := w.heap.size + 1) (by omega) (fun hh => by
  rcases hh with x | x | x | x
  ·exact (HO.out _ (.inl x)).2.1 rfl
  ·exact (HO.out _ (.inr (.inl x))).2.1 rfl
  ·exact (HO.out _ (.inr (.inr (.inl x)))).2.1 rfl
  ·rcases List.mem_cons.1 (show w.heap.size + 1 ∈ (w1.heap.size + 1) :: bs X from x) with x | x
   ·omega
   ·exact (HO.out _ (.inr (.inr (.inr (mem_bs_app.2 (.inl x)))))).2.1 rfl) (.string z.k.1) (.int .i64 z.k.2))
 have HR9 := Hid.mk (q4.fin (.string z.k.1) (.int .i64 z.k.2))
 obtain ⟨-, ⟨a2, a3⟩, ⟨a4, a5⟩, a6, a7⟩ := q4.cells
 obtain ⟨b0, b1⟩ := p2
 have HS : Hid (w.heap.size ≤ w1.heap.size + 1) := by show _ ≤ _; omega
 clear h4 k4 q4 kk hout hl1 p3
 go_wp2
 refine bodyPost_ret (results_ky Tryz.results45 rfl rfl HR9.out) rfl ?_
 exact ⟨rfl, _, HS.out, HE.out⟩
end Go.Proofs.YtikjepodmdaknaaGreatDoor.Rc
/- Layer 16's table: a table as a list of keys and values. -/
namespace Go.Proofs.YtikjepodmdaknaaGreatDoor.Rc
open Go.RowKit
open Go.MapKept Go.WideMaps
abbrev KV := List (Ky × Nat)
def kv (L : List Ent) : KV := L.map fun e => (e.k, e.v)
def MapFr (T : Nat) (w w' : World) : Prop := ∀ M, w.cell? ⟨T, 3, none⟩ = some (.map (some M)) → w'.cell? ⟨T, 3, none⟩ = some (.map (some M)) ∧ ∀ b es cl, b ≠ M → w.heap[b]? = some (.map es cl) → w'.heap[b]? = some (.map es cl)
theorem MapFr.refl (T : Nat) (w : World) : MapFr T w w := fun M h => ⟨h, fun _ _ _ _ h => h⟩
theorem MapFr.trans {T : Nat} {a b c : World} (h : MapFr T a b) (k : MapFr T b c) : MapFr T a c := fun M hM => ⟨(k M (h M hM).1).1, fun x es cl hx hb => (k M (h M hM).1).2 x es cl hx ((h M hM).2 x es cl hx hb)⟩
theorem MapFr.below {T : Nat} {w w' : World} (h : Below w.heap.size w w') : MapFr T w w' := fun M hM => ⟨(h.cell (p := ⟨T, 3, none⟩) (by
 unfold World.cell? at hM
 cases hb : w.heap[T]? with
 | none => rw [show (⟨T, 3, none⟩ : Addr).block = T from rfl, hb] at hM; simp at hM
 | some o => exact blk_lt hb)).trans hM, fun b es cl _ hb => (h.block b (blk_lt hb)).trans hb⟩
theorem MapFr.kp {w w' : World} {T E M : Nat} {most most' : Int} {n n' : Nat} {L L' : List Ent} (h : Tab w T E M most n L) (h' : Tab w' T E M most' n' L') (k : Kp (tS T E M L) w w') : MapFr T w w' := by
 intro M2 hM2
 rw [h.c3] at hM2
 cases hM2
 refine ⟨h'.c3, fun b es cl hb hm => (k.same b (blk_lt hm) ?_).trans hm⟩
 rintro (rfl | rfl | rfl | hx)
 ·rw [h.tb] at hm; cases hm
 ·exact hb rfl
 ·obtain ⟨c', hc, _⟩ := h.row.plc b (by simp)
  rw [hc] at hm; cases hm
 ·obtain ⟨c', hc, _⟩ := h.row.plc b (List.mem_cons_of_mem _ hx)
  rw [hc] at hm; cases hm
structure Frn (T : Nat) (w w' : World) : Prop where
 size : w.heap.size ≤ w'.heap.size
 same : ∀ (b : Nat) (c : Array Value) (t : TypeId) (f : Nat × Nat), w.heap[b]? = some (.cells c t f) → t ≠ 161 → t ≠ 166 → w'.heap[b]? = some (.cells c t f)
 mp : MapFr T w w'
theorem Frn.below {T : Nat} {w w' : World} (h : Below w.heap.size w w') : Frn T w w' := ⟨h.size, fun b c t f hb _ _ => (h.block b (blk_lt hb)).trans hb, MapFr.below h⟩
theorem Frn.kp {w w' : World} {T E M : Nat} {most most' : Int} {n n' : Nat} {L L' : List Ent} (h : Tab w T E M most n L) (h' : Tab w' T E M most' n' L') (k : Kp (tS T E M L) w w') : Frn T w w' := by
 refine ⟨k.size, fun b c t f hb h1 h2 => (k.same b (blk_lt hb) ?_).trans hb, MapFr.kp h h' k⟩
 rintro (rfl | rfl | rfl | hm)
 ·rw [h.tb] at hb; cases hb; exact h1 rfl
 ·obtain ⟨es, cl, hm⟩ := h.mp.isMap
  rw [hm] at hb; cases hb
 ·obtain ⟨c', hc, _⟩ := h.row.plc b (by simp)
  rw [hc] at hb; cases hb; exact h2 rfl
 ·obtain ⟨c', hc, _⟩ := h.row.plc b (List.mem_cons_of_mem _ hm)
  rw [hc] at hb; cases hb; exact h2 rfl
theorem Frn.row {T : Nat} {w w' : World} (h : Frn T w w') {base e size k : Nat} {v : Value} {xs : List Value} (hr : w.ownsRow base e size v k xs) (h1 : e ≠ 161) (h2 : e ≠ 166) : w'.ownsRow base e size v k xs := by
 obtain ⟨hl, h0 | ⟨g, cap, cur, hv, hb, hg, r⟩⟩ := hr
 ·exact ⟨hl, .inl h0⟩
 ·exact ⟨hl, .inr ⟨g, cap, cur, hv, hb, h.same g _ e _ hg h1 h2, r⟩⟩
structure TabO (W w : World) (T E M : Nat) (most : Int) (n : Nat) (L : List Ent) : Prop where
 tab : Tab w T E M most n L
 own : ∀ b, tS T E M L b → W.heap.size ≤ b
 bel : Below W.heap.size W w
theorem TabO.blk {W w w' : World} {T E M : Nat} {most : Int} {n : Nat} {L : List Ent} (h : TabO W w T E M most n L) (hb : Below w.heap.size w w') : TabO W w' T E M most n L :=
 ⟨h.tab.blk hb, h.own, h.bel.trans (hb.mono h.bel.size)⟩
theorem TabO.step {W w w' : World} {T E M : Nat} {most : Int} {n n' : Nat} {L L' : List Ent} (h : TabO W w T E M most n L) (h' : Tab w' T E M most n' L') (k : Kp (tS T E M L) w w') (hb : ∀ e ∈ L', e.b ∈ bs L ∨ w.heap.size ≤ e.b) : TabO W w' T E M most n' L' := by
 refine ⟨h', fun b hb' => ?_, h.bel.trans (k.below h.bel.size (fun b hb hs => ?_))⟩
 ·rcases hb' with x | x | x | x
  ·exact h.own b (.inl x)
  ·exact h.own b (.inr (.inl x))
  ·exact h.own b (.inr (.inr (.inl x)))
  ·obtain ⟨e, he, rfl⟩ := List.mem_map.1 x
   rcases hb e he with y | y
   ·exact h.own _ (.inr (.inr (.inr y)))
   ·exact Nat.le_trans h.bel.size y
 ·have := h.own b hs; omega
def TabK (W w : World) (T : Nat) (most : Int) (n : Nat) (l : KV) : Prop := ∃ E M L, TabO W w T E M most n L ∧ kv L = l
theorem TabK.blk {W w w' : World} {T : Nat} {most : Int} {n : Nat} {l : KV} (h : TabK W w T most n l) (hb : Below w.heap.size w w') : TabK W w' T most n l := by
 obtain ⟨E, M, L, h, e⟩ := h
 exact ⟨E, M, L, h.blk hb, e⟩
theorem TabK.bel {W w : World} {T : Nat} {most : Int} {n : Nat} {l : KV} (h : TabK W w T most n l) : Below W.heap.size W w := by
 obtain ⟨E, M, L, h, e⟩ := h
 exact h.bel
theorem new_kv (w : World) (m : Int) (h1 : ¬ m < 1) (h2 : ¬ 100000 < m) :
  Calls Tryz.prog 37 #[.int .i64 m] w fun e w' => e = .returned (.tuple #[pt (w.heap.size + 3), .int .i64 0]) ∧ TabK w w' (w.heap.size + 3) m 0 [] ∧ Below w.heap.size w w' := by
 refine (new_in w m h1 h2).mono ?_
 rintro e w' ⟨rfl, rfl⟩
 refine ⟨rfl, ?_⟩
 obtain ⟨o1, ho1⟩ : ∃ o, Obj.cells #[pt (w.heap.size + 1), .int .i64 0] 157 (0, 0) = o := ⟨_, rfl⟩
 obtain ⟨o2, ho2⟩ : ∃ o, Obj.cells #[.string ⟨#[]⟩, .int .i64 0, nilP, pt (w.heap.size + 1), pt (w.heap.size + 1)] 166 (0, 0) = o := ⟨_, rfl⟩
 obtain ⟨o4, ho4⟩ : ∃ o, Obj.cells #[.int .i64 m, pt (w.heap.size + 1), .int .i64 0, .map (some (w.heap.size + 2))] 161 (0, 0) = o := ⟨_, rfl⟩
 rw [ho1, ho2, ho4]
 have hb : Below w.heap.size w ((((w.alloc o1).alloc o2).alloc (.map #[] 0)).alloc o4) := ((((Below.refl _ _).alloc (Nat.le_refl _) _).alloc (by simp) _).alloc (by simp; omega) _).alloc (by simp; omega) _
 have g2 : ((((w.alloc o1).alloc o2).alloc (.map #[] 0)).alloc o4).heap[w.heap.size + 1]? = some o2 := by
  rw [Below.heap_alloc _ _ _ (by simp), Below.heap_alloc _ _ _ (by simp)]
  have := heap_alloc_last (w.alloc o1) o2
  simpa using this
 have g3 : (((w.alloc o1).alloc o2).alloc (.map #[] 0)).heap[w.heap.size + 2]? = some (.map #[] 0) := by
  have := heap_alloc_last ((w.alloc o1).alloc o2) (.map #[] 0)
  simpa using this
 have g4 : ((((w.alloc o1).alloc o2).alloc (.map #[] 0)).alloc o4).heap[w.heap.size + 3]? = some o4 := by
  have := heap_alloc_last (((w.alloc o1).alloc o2).alloc (.map #[] 0)) o4
  simpa using this
 have hm := (World.ownsMap_made ((w.alloc o1).alloc o2) Tryz.prog 94 plR).alloc o4
 have e2 : ((w.alloc o1).alloc o2).heap.size = w.heap.size + 2 := by simp
 rw [e2] at hm
 subst ho2 ho4
 refine ⟨⟨w.heap.size + 1, w.heap.size + 2, [], ⟨⟨g4, ⟨?_, ?_, ?_, ?_, ?_⟩, ⟨_, hm, fun _ h => (by cases h), fun k _ _ => rfl⟩, by simp [ks], by simp, fun _ h => (by cases h)⟩, ?_, hb⟩, rfl⟩, hb⟩
 ·show Links _ [w.heap.size + 1, w.heap.size + 1]
  exact ⟨by rw [cell_of_row _ _ _ _ _ _ g2]; rfl, by rw [cell_of_row _ _ _ _ _ _ g2]; rfl, trivial⟩
 ·simp [bs]
 ·intro b hb
  obtain rfl : b = w.heap.size + 1 := by simpa [bs] using hb
  exact ⟨_, g2, rfl⟩
 ·intro _ h; cases h
 ·intro _ h; cases h
 ·intro b hb
  rcases hb with rfl | rfl | rfl | hb
  ·omega
  ·omega
  ·omega
  ·simp [bs] at hb
theorem Tab.key_iff {w : World} {T E M : Nat} {most : Int} {n : Nat} {L : List Ent} (h : Tab w T E M most n L) (k : Ky) : (∃ X e Y, L = X ++ e :: Y ∧ e.k = k ∧ (∀ x ∈ X ++ Y, x.k ≠ k)) ∨ ∀ e ∈ L, e.k ≠ k := by
 by_cases hx : ∃ e ∈ L, e.k = k
 ·obtain ⟨e, he, rfl⟩ := hx
  obtain ⟨X, Y, rfl⟩ := List.append_of_mem he
  refine .inl ⟨X, e, Y, rfl, rfl, fun x hx hh => ?_⟩
  have hkn := h.kn
  rw [show ks (X ++ e :: Y) = ks X ++ e.k :: ks Y by simp [ks]] at hkn
  have hk2 := List.perm_middle.nodup_iff.1 hkn
  exact (List.nodup_cons.1 hk2).1 (by rw [← hh]; simp at hx ⊢; exact hx.imp (fun h => List.mem_map_of_mem h) (fun h => List.mem_map_of_mem h))
 ·exact .inr fun e he hk => hx ⟨e, he, hk⟩
def without {α : Type} (l : List (Ky × α)) (k : Ky) : List (Ky × α) := l.filter fun p => decide (p.1 ≠ k)
def putR {α : Type} (m : Nat) (l : List (Ky × α)) (k : Ky) (v : α) : List (Ky × α) := ((k, v) :: without l k).take m
def getR {α : Type} (l : List (Ky × α)) (k : Ky) : Option α := (l.find? fun p => decide (p.1 = k)).map Prod.snd
theorem without_map {α β : Type} (f : α → β) (l : List (Ky × α)) (k : Ky) : without (l.map fun p => (p.1, f p.2)) k = (without l k).map fun p => (p.1, f p.2) := by
 unfold without
 rw [List.filter_map]
 rfl
theorem putR_map {α β : Type} (f : α → β) (m : Nat) (l : List (Ky × α)) (k : Ky) (v : α) : putR m (l.map fun p => (p.1, f p.2)) k (f v) = (putR m l k v).map fun p => (p.1, f p.2) := by
 unfold putR
 rw [without_map, List.map_take]
 rfl
theorem getR_map {α β : Type} (f : α → β) (l : List (Ky × α)) (k : Ky) : getR (l.map fun p => (p.1, f p.2)) k = (getR l k).map f := by
 unfold getR
 rw [List.find?_map, Option.map_map, Option.map_map]
 rfl
theorem kv_app (X Y : List Ent) : kv (X ++ Y) = kv X ++ kv Y := by simp [kv]
theorem kv_len (L : List Ent) : (kv L).length = L.length := by simp [kv]
theorem without_miss {L : List Ent} {k : Ky} (h : ∀ e ∈ L, e.k ≠ k) : without (kv L) k = kv L := by
 unfold without
 rw [List.filter_eq_self]
 intro p hp
 obtain ⟨e, he, rfl⟩ := List.mem_map.1 hp
 simpa using h e he
theorem without_hit {X Y : List Ent} {e : Ent} (h : ∀ x ∈ X ++ Y, x.k ≠ e.k) : without (kv (X ++ e :: Y)) e.k = kv (X ++ Y) := by
 have h1 := without_miss (L := X) (k := e.k) (fun x hx => h x (by simp [hx]))
 have h2 := without_miss (L := Y) (k := e.k) (fun x hx => h x (by simp [hx]))
 unfold without at h1 h2 ⊢
 rw [kv_app, kv_app, List.filter_append, h1]
 show kv X ++ List.filter _ ((e.k, e.v) :: kv Y) = _
 rw [List.filter_cons_of_neg (by simp), h2]
theorem getR_miss {L : List Ent} {k : Ky} (h : ∀ e ∈ L, e.k ≠ k) : getR (kv L) k = none := by
 unfold getR
 rw [List.find?_eq_none.2 (fun p hp => by
  obtain ⟨e, he, rfl⟩ := List.mem_map.1 hp
  simpa using h e he)]
 rfl
theorem getR_hit {X Y : List Ent} {e : Ent} (h : ∀ x ∈ X ++ Y, x.k ≠ e.k) : getR (kv (X ++ e :: Y)) e.k = some e.v := by
 unfold getR
 rw [kv_app, List.find?_append, List.find?_eq_none.2 (fun p hp => by
  obtain ⟨x, hx, rfl⟩ := List.mem_map.1 hp
  simpa using h x (by simp [hx]))]
 simp [kv]
end Go.Proofs.YtikjepodmdaknaaGreatDoor.Rc
/- Layer 16's table: the calls of a table, by its list. -/
namespace Go.Proofs.YtikjepodmdaknaaGreatDoor.Rc
open Go.RowKit
open Go.MapKept Go.WideMaps
theorem Tab.more {w : World} {T E M : Nat} {most : Int} {n : Nat} {L : List Ent} (h : Tab w T E M most n L) : Tab w T E M most (n + 1) L := by
 obtain ⟨a, b, ⟨D, hD, hr⟩, c, d, e⟩ := h
 exact ⟨a, b, ⟨D, hD.mono (Nat.le_succ n), hr⟩, c, d, e⟩
theorem put_kv {W w : World} {T m n : Nat} {l : KV} (h : TabK W w T (m : Int) n l) (k : Ky) (v : Nat) (hl : l.length ≤ m) (h1 : 1 ≤ m) (h2 : m ≤ 100000) (hs : KOk k) (hn : n < maxLen) :
  Calls Tryz.prog 45 #[pt T, kV k, pt v] w fun r w' => (∃ x, r = .returned x) ∧ TabK W w' T (m : Int) (n + 1) (putR m l k v) ∧ Frn T w w' := by
 obtain ⟨E, M, L, ho, rfl⟩ := h
 have h := ho.tab
 rw [kv_len] at hl
 rcases h.key_iff k with ⟨X, e, Y, rfl, rfl, hu⟩ | hm
 ·have e0 := without_hit hu
  have hp : putR m (kv (X ++ e :: Y)) e.k v = kv (⟨e.b, e.k, v⟩ :: (X ++ Y)) := by
   unfold putR
   rw [e0, List.take_of_length_le (by simp [kv_len] at hl ⊢; omega)]
   rfl
  rw [hp]
  refine (put_hit h v).mono ?_
  rintro r w' ⟨rfl, h', k'⟩
  refine ⟨⟨_, rfl⟩, ⟨E, M, _, ho.step h'.more k' (fun x hx => ?_), rfl⟩, Frn.kp h h' k'⟩
  rcases List.mem_cons.1 hx with rfl | hx
  ·exact .inl (mem_bs_mid.2 (by simp))
  ·exact .inl (mem_bs_mid.2 ((List.mem_append.1 hx).imp (fun y => List.mem_map_of_mem y) (fun y => .inr (List.mem_map_of_mem y))))
 ·have e0 := without_miss hm
  by_cases hr : L.length + 1 ≤ m
  ·have hp : ∀ b, putR m (kv L) k v = kv (⟨b, k, v⟩ :: L) := fun b => by
    unfold putR
    rw [e0, List.take_of_length_le (by simp [kv_len]; omega)]
    rfl
   refine (put_room h k v hm hs hn (by omega) (by omega)).mono ?_
   rintro r w' ⟨rfl, b, hb, h', k'⟩
   refine ⟨⟨_, rfl⟩, ⟨E, M, _, ho.step h' k' (fun x hx => ?_), (hp b).symm⟩, Frn.kp h h' k'⟩
   rcases List.mem_cons.1 hx with rfl | hx
   ·exact .inr hb
   ·exact .inl (List.mem_map_of_mem hx)
  ·obtain rfl : L.length = m := by omega
   obtain ⟨X, z, rfl⟩ : ∃ X z, L = X ++ [z] := ⟨_, _, (List.dropLast_concat_getLast (l := L) (by intro e; simp [e] at h1)).symm⟩
   have hp : ∀ b, putR (X ++ [z]).length (kv (X ++ [z])) k v = kv (⟨b, k, v⟩ :: X) := fun b => by
    unfold putR
    rw [e0, kv_app, ← List.cons_append]
    rw [show ((k, v) :: kv X ++ kv [z]).take (X ++ [z]).length = (k, v) :: kv X from List.take_left' (by simp [kv_len])]
    rfl
   refine (put_full h k v hm hs hn rfl (by omega)).mono ?_
   rintro r w' ⟨rfl, b, hb, h', k'⟩
   refine ⟨⟨_, rfl⟩, ⟨E, M, _, ho.step h' k' (fun x hx => ?_), (hp b).symm⟩, Frn.kp h h' k'⟩
   rcases List.mem_cons.1 hx with rfl | hx
   ·exact .inr hb
   ·exact .inl (mem_bs_app.2 (.inl (List.mem_map_of_mem hx)))
theorem get_kv {W w : World} {T n : Nat} {most : Int} {l : KV} (h : TabK W w T most n l) (k : Ky) (hs : KOk k) :
  Calls Tryz.prog 55 #[pt T, kV k] w fun r w' => r = .returned (.tuple #[(match getR l k with | some v => pt v | none => nilP), .bool (getR l k).isSome]) ∧ TabK W w' T most n (match getR l k with | some v => (k, v) :: without l k | none => l) ∧ Frn T w w' := by
 obtain ⟨E, M, L, ho, rfl⟩ := h
 have h := ho.tab
 rcases h.key_iff k with ⟨X, e, Y, rfl, rfl, hu⟩ | hm
 ·rw [getR_hit hu, without_hit hu]
  refine (get_hit h).mono ?_
  rintro r w' ⟨rfl, h', k'⟩
  refine ⟨rfl, ⟨E, M, _, ho.step h' k' (fun x hx => ?_), rfl⟩, Frn.kp h h' k'⟩
  rcases List.mem_cons.1 hx with rfl | hx
  ·exact .inl (mem_bs_mid.2 (by simp))
  ·exact .inl (mem_bs_mid.2 ((List.mem_append.1 hx).imp (fun y => List.mem_map_of_mem y) (fun y => .inr (List.mem_map_of_mem y))))
 ·rw [getR_miss hm]
  refine (get_miss h hm hs).mono ?_
  rintro r w' ⟨rfl, hb⟩
  exact ⟨rfl, ⟨E, M, L, ho.blk hb, rfl⟩, Frn.below hb⟩
theorem look_kv {W w : World} {T n : Nat} {most : Int} {l : KV} (h : TabK W w T most n l) (k : Ky) (hs : KOk k) :
  Calls Tryz.prog 43 #[pt T, kV k] w fun r w' => r = .returned (.tuple #[(match getR l k with | some v => pt v | none => nilP), .bool (getR l k).isSome]) ∧ Below w.heap.size w w' := by
 obtain ⟨E, M, L, ho, rfl⟩ := h
 have h := ho.tab
 rcases h.key_iff k with ⟨X, e, Y, rfl, rfl, hu⟩ | hm
 ·rw [getR_hit hu]
  exact look_hit h (by simp)
 ·rw [getR_miss hm]
  exact look_miss h hm hs
theorem drop_kv {W w : World} {T n : Nat} {most : Int} {l : KV} (h : TabK W w T most n l) (k : Ky) (hs : KOk k) :
  Calls Tryz.prog 56 #[pt T, kV k] w fun r w' => r = .returned (.bool (getR l k).isSome) ∧ TabK W w' T most n (without l k) ∧ Frn T w w' := by
 obtain ⟨E, M, L, ho, rfl⟩ := h
 have h := ho.tab
 rcases h.key_iff k with ⟨X, e, Y, rfl, rfl, hu⟩ | hm
 ·rw [getR_hit hu, without_hit hu]
  refine (drop_hit h).mono ?_
  rintro r w' ⟨rfl, h', k', _⟩
  refine ⟨rfl, ⟨E, M, _, ho.step h' k' (fun x hx => ?_), rfl⟩, Frn.kp h h' k'⟩
  exact .inl (mem_bs_mid.2 ((List.mem_append.1 hx).imp (fun y => List.mem_map_of_mem y) (fun y => .inr (List.mem_map_of_mem y))))
 ·rw [getR_miss hm, without_miss hm]
  refine (drop_miss h hm hs).mono ?_
  rintro r w' ⟨rfl, hb⟩
  exact ⟨rfl, ⟨E, M, L, ho.blk hb, rfl⟩, Frn.below hb⟩
theorem len_kv {W w : World} {T n : Nat} {most : Int} {l : KV} (h : TabK W w T most n l) :
  Calls Tryz.prog 59 #[pt T] w fun r w' => r = .returned (.int .i64 (l.length : Int)) ∧ w' = w := by
 obtain ⟨E, M, L, ho, rfl⟩ := h
 rw [kv_len]
 exact len_in w T _ ho.tab.c2
end Go.Proofs.YtikjepodmdaknaaGreatDoor.Rc
/- Layer 16: what a cache holds, as a list. Facts alone. -/
namespace Go.Proofs.YtikjepodmdaknaaGreatDoor.Rc
open Go.RowKit
structure Ev where
 s : Sv
 rk : Int
 se : Int
 ve : Int
 un : Int
noncomputable def keyS (n : ByteArray) (k : Int) : Ky := (lowF n, k)
def timB (n : Int) : Bool := decide (0 ≤ n) && decide (n ≤ 4294967295)
def rnkB (n : Int) : Bool := decide (1 ≤ n) && decide (n ≤ 4)
def secB (n : Int) : Bool := decide (0 ≤ n) && decide (n ≤ 3)
noncomputable def putOk (s : Sv) (rk se now : Int) : Bool := (decide (s.cl = 1) && setOk s) && rnkB rk && secB se && timB now
def ttl (s : Sv) : Int := min s.tl 604800
def over (x : Ev) (now : Int) : Bool := decide (x.un ≤ now)
def stops (o : Option Ev) (rk now : Int) : Bool := match o with
 | none => false
 | some x => !over x now && decide (rk < x.rk)
noncomputable def keeps (o : Option Ev) (s : Sv) : Bool := match o with
 | none => false
 | some x => decide (x.s.sg = s.sg) && sameS x.s s
noncomputable def verN (ver : Int) (o : Option Ev) (s : Sv) : Int := match o with
 | none => ver + 1
 | some x => if keeps (some x) s then x.ve else ver + 1
noncomputable def verC (ver : Int) (o : Option Ev) (s : Sv) : Int := if keeps o s then ver else ver + 1
abbrev AL := List (Ky × Ev)
noncomputable def putX (ver : Int) (l : AL) (s : Sv) (rk se now : Int) : Ev := ⟨s, rk, se, verN ver (getR l (keyS s.nm s.ty)) s, now + ttl s⟩
noncomputable def refused (l : AL) (s : Sv) (rk now : Int) : Bool := decide (ttl s = 0) || stops (getR l (keyS s.nm s.ty)) rk now
section
variable {α : Type}
theorem mem_without {l : List (Ky × α)} {k : Ky} {p : Ky × α} : p ∈ without l k ↔ p ∈ l ∧ p.1 ≠ k := by unfold without; simp
theorem mem_putR {m : Nat} {l : List (Ky × α)} {k : Ky} {v : α} {p : Ky × α} (h : p ∈ putR m l k v) : p = (k, v) ∨ (p ∈ l ∧ p.1 ≠ k) := by
 have := List.mem_of_mem_take h
 rcases List.mem_cons.1 this with h | h
 ·exact .inl h
 ·exact .inr (mem_without.1 h)
theorem getR_mem {l : List (Ky × α)} {k : Ky} {v : α} (h : getR l k = some v) : (k, v) ∈ l := by
 unfold getR at h
 rw [Option.map_eq_some_iff] at h
 obtain ⟨p, hp, rfl⟩ := h
 have h1 := List.find?_some hp
 have h2 := List.mem_of_find?_eq_some hp
 obtain rfl : p.1 = k := of_decide_eq_true h1
 exact h2
theorem getR_cons (p : Ky × α) (l : List (Ky × α)) (k : Ky) : getR (p :: l) k = if p.1 = k then some p.2 else getR l k := by
 unfold getR
 rw [List.find?_cons]
 split
 ·rename_i h
  rw [if_pos (of_decide_eq_true h)]
  rfl
 ·rename_i h
  rw [if_neg (of_decide_eq_false h)]
theorem getR_without_same {l : List (Ky × α)} {k : Ky} : getR (without l k) k = none := by
 unfold getR
 rw [List.find?_eq_none.2 fun p hp => by simpa using (mem_without.1 hp).2]
 rfl
theorem getR_without {l : List (Ky × α)} {k j : Ky} (h : j ≠ k) : getR (without l k) j = getR l j := by
 induction l with
 | nil => rfl
 | cons p l ih =>
  have e : without (p :: l) k = if p.1 ≠ k then p :: without l k else without l k := by
   unfold without
   rw [List.filter_cons]
   by_cases hp : p.1 = k <;> simp [hp]
  rw [e, getR_cons]
  split
  ·rw [getR_cons, ih]
  ·rename_i hp
   have hp' : p.1 = k := by simpa using hp
   rw [ih, if_neg (fun e => h (e.symm.trans hp'))]
theorem getR_put_same {m : Nat} (hm : 1 ≤ m) {l : List (Ky × α)} {k : Ky} {v : α} : getR (putR m l k v) k = some v := by
 unfold putR
 obtain ⟨j, rfl⟩ : ∃ j, m = j + 1 := ⟨m - 1, by omega⟩
 rw [List.take_succ_cons, getR_cons, if_pos rfl]
theorem putR_len {m : Nat} {l : List (Ky × α)} {k : Ky} {v : α} : (putR m l k v).length ≤ m := by
 unfold putR
 rw [List.length_take]
 omega
theorem without_len {l : List (Ky × α)} {k : Ky} : (without l k).length ≤ l.length := by
 unfold without
 exact List.length_filter_le _ _
end
end Go.Proofs.YtikjepodmdaknaaGreatDoor.Rc
/- Layer 16: sets that are the same. Facts alone. -/
namespace Go.Proofs.YtikjepodmdaknaaGreatDoor.Rc
open Go.RowKit
theorem setOk_nm {s : Sv} (h : setOk s = true) : IsName s.nm := by
 unfold setOk headOk at h
 simp only [Bool.and_eq_true] at h
 exact isN_iff.1 h.1.1.1.1.1
theorem eqF_key {a b : ByteArray} (ha : IsName a) (hb : IsName b) : eqF a b = true ↔ lowF a = lowF b := by
 obtain ⟨x, hx, rfl⟩ := ha
 obtain ⟨y, hy, rfl⟩ := hb
 rw [eqF_nm hx hy, lowF_nm hx, lowF_nm hy]
 unfold eqB
 rw [decide_eq_true_eq]
 exact ⟨fun h => by rw [h], fun h => nm_inj (hx.low) (hy.low) h⟩
theorem sameS_iff {a b : Sv} : sameS a b = true ↔ setOk a = true ∧ setOk b = true ∧ a.ty = b.ty ∧ a.cl = b.cl ∧ lowF a.nm = lowF b.nm ∧ sortB (lowsS a) = sortB (lowsS b) := by
 unfold sameS
 simp only [Bool.and_eq_true, beq_iff_eq, decide_eq_true_eq]
 constructor
 ·rintro ⟨⟨⟨⟨⟨h1, h2⟩, h3⟩, h4⟩, h5⟩, h6⟩
  exact ⟨h1, h2, h3, h4, (eqF_key (setOk_nm h1) (setOk_nm h2)).1 h5, h6⟩
 ·rintro ⟨h1, h2, h3, h4, h5, h6⟩
  exact ⟨⟨⟨⟨⟨h1, h2⟩, h3⟩, h4⟩, (eqF_key (setOk_nm h1) (setOk_nm h2)).2 h5⟩, h6⟩
theorem sameS_refl {a : Sv} (h : setOk a = true) : sameS a a = true := sameS_iff.2 ⟨h, h, rfl, rfl, rfl, rfl⟩
theorem ftB31 {t : Int} : ftB t 31 = true ↔ 0 ≤ t ∧ t < 2147483648 := by
 unfold ftB
 simp
theorem setOk_tl {s : Sv} {t : Int} (h : setOk s = true) (h0 : 0 ≤ t) (h1 : t < 2147483648) : setOk { s with tl := t } = true := by
 unfold setOk headOk at h ⊢
 simp only [Bool.and_eq_true] at h ⊢
 obtain ⟨⟨⟨⟨⟨a, b⟩, c⟩, d⟩, e⟩, f⟩ := h
 exact ⟨⟨⟨⟨⟨a, b⟩, c⟩, ftB31.2 ⟨h0, h1⟩⟩, e⟩, f⟩
theorem setOk_head {s : Sv} (h : setOk s = true) : (0 ≤ s.tl ∧ s.tl < 2147483648) ∧ (0 ≤ s.ty ∧ s.ty ≤ 65535) := by
 unfold setOk headOk datOk at h
 simp only [Bool.and_eq_true, decide_eq_true_eq, List.all_eq_true] at h
 obtain ⟨⟨⟨⟨⟨a, b⟩, c⟩, d⟩, ⟨⟨⟨h1, h2⟩, hd⟩, _⟩⟩, f⟩ := h
 refine ⟨ftB31.1 d, ?_⟩
 obtain ⟨x, hx⟩ : ∃ x, x ∈ s.ds := by
  cases hs : s.ds with
  | nil => rw [hs] at h1; simp at h1
  | cons x l => exact ⟨x, by simp⟩
 have := hd x hx
 unfold dRt at this
 rw [Option.isSome_iff_exists] at this
 obtain ⟨xs, hxs⟩ := this
 exact ((split_iff _ _ _).1 hxs).1
theorem sameS_tl {a : Sv} {t : Int} (h : setOk a = true) (h0 : 0 ≤ t) (h1 : t < 2147483648) : sameS a { a with tl := t } = true := sameS_iff.2 ⟨h, setOk_tl h h0 h1, rfl, rfl, rfl, rfl⟩
end Go.Proofs.YtikjepodmdaknaaGreatDoor.Rc
/- Layer 8: rightSigs. -/
namespace Go.Proofs.YtikjepodmdaknaaGreatDoor
open Go.RowKit
theorem tx_cell {W : World} {q : Option Addr} {ds : List ByteArray} (h : TxAt W q ds) (i : Nat) (hi : i < ds.length) : ∃ (b off : Nat) (d : ByteArray), q = some ⟨b, off, none⟩ ∧ Hid (ds[i]? = some d ∧ d ∈ ds) ∧ Hid (∀ w, Below W.heap.size W w → w.cell? ⟨b, off + i, none⟩ = some (.string d)) := by
 obtain ⟨b, off, e, hlt, hc⟩ := h i hi
 exact ⟨b, off, ds[i], e, ⟨List.getElem?_eq_getElem hi, List.getElem_mem hi⟩, fun w hb => (hb.cell (p := ⟨b, off + i, none⟩) hlt).trans hc⟩
theorem sig_no {s : Sv} {d : ByteArray} (h : d ∈ s.sg) (hc : covOk s.ty d = false) : sigOk s = false := by
 unfold sigOk
 rw [show s.sg.all (covOk s.ty) = false from List.all_eq_false.2 ⟨d, h, by simp [hc]⟩, Bool.and_false]
theorem sig_many {s : Sv} (h : ¬ s.sg.length ≤ 200) : sigOk s = false := by
 unfold sigOk
 rw [decide_eq_false h]
 rfl
theorem sig_yes {s : Sv} (h : s.sg.length ≤ 200) (hc : ∀ (i : Nat) d, s.sg[i]? = some d → covOk s.ty d = true) : sigOk s = true := by
 unfold sigOk
 rw [decide_eq_true h, List.all_eq_true.2 fun d hd => ?_]
 ·rfl
 ·obtain ⟨i, hi, rfl⟩ := List.getElem_of_mem hd
  exact hc i _ (List.getElem?_eq_getElem hi)
set_option maxRecDepth 100000 in
set_option maxHeartbeats 4000000 in
theorem rsigs_in (s : Sv) (hin : SvIn s) (qd : Option Addr) (cd : Nat) (qg : Option Addr) (cg : Nat) (W : World) (hat : SvAt W s qd cd qg cg) : Calls Tryz.prog 120 #[.agg (svC s qd cd qg cg).toArray] W fun e w' => e = .returned (.bool (sigOk s)) ∧ Below W.heap.size W w' := by
 obtain ⟨N, hN⟩ : ∃ N, W.heap.size = N := ⟨_, rfl⟩
 obtain ⟨n, hn⟩ : ∃ n, s.sg.length = n := ⟨_, rfl⟩
 have HTx : Hid (∀ i, i < n → ∃ (b off : Nat) (d : ByteArray), qg = some ⟨b, off, none⟩ ∧ Hid (s.sg[i]? = some d ∧ d ∈ s.sg) ∧ Hid (∀ w, Below N W w → w.cell? ⟨b, off + i, none⟩ = some (.string d))) := fun i hi => by
  have := tx_cell hat.sg i (by rw [hn]; exact hi)
  rw [hN] at this
  exact this
 have HSig : Hid (∀ d, d ∈ s.sg → ∀ w, Calls Tryz.prog 158 #[.string d] w fun e w' => (∃ v er, e = .returned (.tuple #[v, .int .i64 er]) ∧ TakeSig d v er) ∧ Below w.heap.size w w') := fun d hd w => takeSig_in d (hin.sg d hd) w
 have HNo : Hid (∀ d, d ∈ s.sg → covOk s.ty d = false → sigOk s = false) := fun d h1 h2 => sig_no h1 h2
 have HMany : Hid (200 < n → sigOk s = false) := fun h => sig_many (by rw [hn]; omega)
 have HYes : Hid (n ≤ 200 → (∀ (i : Nat) d, s.sg[i]? = some d → covOk s.ty d = true) → sigOk s = true) := fun h1 h2 => sig_yes (by rw [hn]; exact h1) h2
 have HLen : Hid (∀ (i : Nat) d, s.sg[i]? = some d → i < n) := fun i d h => by rw [← hn]; exact (List.getElem?_eq_some_iff.1 h).1
 have hncg : n ≤ cg ∧ cg ≤ 9223372036854775807 := by have := hat.cg; rw [hn] at this; unfold maxLen at this; omega
 have X0 := Bx.new W (svC s qd cd qg cg) 34
 simp only [svC] at X0 ⊢
 rw [hn] at X0 ⊢
 rw [hN] at X0 ⊢
 obtain ⟨V, hV⟩ : ∃ V, W.alloc (.cells [.string s.nm, .int .i64 s.ty, .int .i64 s.cl, .int .i64 s.tl, .slice qd s.ds.length cd, .slice qg n cg].toArray 34) = V := ⟨_, rfl⟩
 rw [hV] at X0
 have HX : Hid (∀ w, Below V.heap.size V w → Below N W w ∧ (w.cell? ⟨N, 0, none⟩ = some (.string s.nm) ∧ w.cell? ⟨N, 1, none⟩ = some (.int .i64 s.ty) ∧ w.cell? ⟨N, 2, none⟩ = some (.int .i64 s.cl) ∧ w.cell? ⟨N, 3, none⟩ = some (.int .i64 s.tl) ∧ w.cell? ⟨N, 4, none⟩ = some (.slice qd s.ds.length cd) ∧ w.cell? ⟨N, 5, none⟩ = some (.slice qg n cg))) := fun w hb => ⟨by have := (X0.blk hb).bel; rw [hN] at this; exact this, (X0.blk hb).cells6⟩
 have HV := Hid.mk hV
 obtain ⟨R, hR⟩ : ∃ R, sigOk s = R := ⟨_, rfl⟩
 rw [hR] at HNo HMany HYes ⊢
 generalize s.ds.length = m0 at *
 generalize s.nm = y0 at *
 generalize s.cl = y2 at *
 generalize s.tl = y3 at *
 clear hin hat X0 hV hn hR
 go_enter Tryz.func120, Tryz.ntmps120
 go_upto_region 1 with fail
 (try rw [hN])
 rw [HV.out]
 clear hN
 obtain ⟨_, x0, x1, x2, x3, x4, x5⟩ := HX.out _ (Below.refl _ _)
 by_cases hbig : 200 < n
 ·have hbz : (200 : Int) < (n : Int) := by omega
  have hR := HMany.out hbig
  have HF := Hid.mk (HX.out _ (Below.refl _ _)).1
  subst hR
  go_wp2
  go_ret
  exact ⟨rfl, HF.out⟩
 have hbz : ¬ (200 : Int) < (n : Int) := by omega
 go_wp2_with fail
 clear x0 x1 x2 x3 x4 x5
 go_loopw [14] (fun iv wr => ∃ (i : Nat) (wq : World), wq = wr ∧ i ≤ n ∧ iv = .int .i64 (i : Int) ∧ Hid (Below V.heap.size V wq ∧ ∀ j d, j < i → s.sg[j]? = some d → covOk s.ty d = true)) (fun iv _ => n - (intOf iv).toNat)
 case atStart => exact ⟨0, _, rfl, Nat.zero_le _, rfl, Below.refl _ _, fun j d hj => absurd hj (Nat.not_lt_zero _)⟩
 case round =>
  obtain ⟨i, wq, rfl, hi, rfl, HI⟩ := hrel
  by_cases hlt : i < n
  ·have hlz : (i : Int) < (n : Int) := by omega
   have hlz0 : (0 : Int) ≤ (i : Int) := by omega
   have wi : IntKind.i64.wrap ((i : Int) + 1) = ((i + 1 : Nat) : Int) := by rw [IntKind.wrap_i64]; omega
   obtain ⟨b, off, d, rfl, hd, hc⟩ := HTx.out i hlt
   have hbl := (HX.out _ HI.out.1).1
   have hcell := hc.out _ hbl
   have HS1 := Hid.mk (HSig.out d hd.out.2)
   clear hbl hc
   go_wp2_with fail
   refine (HS1.out _).mono ?_
   rintro e w1 ⟨⟨v, er, rfl, ht⟩, hb1⟩
   obtain ⟨n0, n1, n2, n3, n4, n5, n6, s7, s8, rfl, he⟩ := takeSig_cov ht
   have HB1 : Hid (Below V.heap.size V w1) := HI.out.1.trans (hb1.mono HI.out.1.size)
   obtain ⟨V1, hV1⟩ : ∃ V1, w1.alloc (.cells #[.int .i64 ((n0 : Nat) : Int), .int .i64 ((n1 : Nat) : Int), .int .i64 ((n2 : Nat) : Int), .int .i64 ((n3 : Nat) : Int), .int .i64 ((n4 : Nat) : Int), .int .i64 ((n5 : Nat) : Int), .int .i64 ((n6 : Nat) : Int), .string s7, .string s8] 175) = V1 := ⟨_, rfl⟩
   obtain ⟨B, hB⟩ : ∃ B, w1.heap.size = B := ⟨_, rfl⟩
   have hbB : V1.heap[B]? = some (.cells #[.int .i64 ((n0 : Nat) : Int), .int .i64 ((n1 : Nat) : Int), .int .i64 ((n2 : Nat) : Int), .int .i64 ((n3 : Nat) : Int), .int .i64 ((n4 : Nat) : Int), .int .i64 ((n5 : Nat) : Int), .int .i64 ((n6 : Nat) : Int), .string s7, .string s8] 175 (0, 0)) := by rw [← hV1, ← hB]; exact heap_alloc_new w1 _
   have z0 : V1.cell? ⟨B, 0, none⟩ = some (.int .i64 ((n0 : Nat) : Int)) := by rw [So.cell_blk hbB]; rfl
   have HB2 : Hid (Below V.heap.size V V1) := HB1.out.trans (by rw [← hV1]; exact (Below.refl _ _).alloc HB1.out.size _)
   obtain ⟨hbl2, x0, x1, x2, x3, x4, x5⟩ := HX.out _ HB2.out
   have HBl2 := Hid.mk hbl2
   have HV1 := Hid.mk hV1
   have HBB := Hid.mk hB
   clear hb1 ht hV1 hB hbB hbl2 HS1 hcell
   go_upto_region 7 with fail
   rw [HV1.out, HBB.out]
   rcases he with ⟨rfl, hk⟩ | ⟨rfl, hk⟩
   ·have hk' := hk s.ty
    by_cases hty : (n0 : Int) = s.ty
    ·have HE : Hid (∀ j d, j < i + 1 → s.sg[j]? = some d → covOk s.ty d = true) := fun j x hj hx => by
      rcases Nat.lt_succ_iff_lt_or_eq.1 hj with h | rfl
      ·exact HI.out.2 j x h hx
      ·rw [hd.out.1] at hx
       cases hx
       rw [hk', decide_eq_true hty]
     clear hk hk'
     have hty2 : ((n0 : Int) == s.ty) = true := by simpa using hty
     clear hty
     go_wp2
     go_roundw
     case rel => exact ⟨i + 1, _, rfl, by omega, by first | rfl | go_num, HB2.out, HE.out⟩
     case measure => simp [intOf]; omega
    ·have hR := HNo.out d hd.out.2 (by rw [hk', decide_eq_false hty])
     clear hk hk'
     have hty2 : ((n0 : Int) == s.ty) = false := by simpa using hty
     subst hR
     clear hty
     go_wp2
     go_ret
     exact ⟨rfl, HBl2.out⟩
   ·have hR := HNo.out d hd.out.2 (hk s.ty)
    clear hk
    subst hR
    go_wp2
    go_ret
    exact ⟨rfl, HBl2.out⟩
  ·have hlz : ¬ (i : Int) < (n : Int) := by omega
   have hR := HYes.out (by omega) fun j d hj => HI.out.2 j d (by have := HLen.out j d hj; omega) hj
   have HF := Hid.mk (HX.out _ HI.out.1).1
   subst hR
   go_wp2
   go_ret
   exact ⟨rfl, HF.out⟩
end Go.Proofs.YtikjepodmdaknaaGreatDoor
