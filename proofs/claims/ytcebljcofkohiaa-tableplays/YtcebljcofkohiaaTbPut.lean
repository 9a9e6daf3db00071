/- Layer 11: Look, Get, Drop, Put of a table. -/
import Derived.Test.YtcebljcofkohiaaTbCalls
namespace Go.Proofs.Ytcebljcofkohiaa
set_option linter.unusedVariables false
open Go.RowKit
open Go.MapKept Go.WideMaps

theorem find_hit {w : World} {T E M : Nat} {most : Int} {n : Nat} {L : List Ent} (h : Tab w T E M most n L) {e : Ent} (he : e ∈ L) :
    Calls Try.prog 23 #[pt T, .string e.k] w fun r w' => r = .returned (.tuple #[pt e.b, .bool true]) ∧ Below w.heap.size w w' := by
  refine (find_in w T M e.k _ h.c3 (blk_lt h.tb) (fun o1 o2 => ((h.alloc o1).alloc o2).mp.hit he (h.sz e he))).mono ?_
  rintro r w' ⟨rfl, rfl⟩
  exact ⟨rfl, ((Below.refl _ _).alloc (Nat.le_refl _) _).alloc (by simp) _⟩
theorem find_miss {w : World} {T E M : Nat} {most : Int} {n : Nat} {L : List Ent} (h : Tab w T E M most n L) {k : ByteArray} (hk : ∀ e ∈ L, e.k ≠ k) (hs : k.size ≤ maxLen) :
    Calls Try.prog 23 #[pt T, .string k] w fun r w' => r = .returned (.tuple #[nilP, .bool true]) ∧ Below w.heap.size w w' := by
  refine (find_in w T M k _ h.c3 (blk_lt h.tb) (fun o1 o2 => ((h.alloc o1).alloc o2).mp.miss hk hs)).mono ?_
  rintro r w' ⟨rfl, rfl⟩
  exact ⟨rfl, ((Below.refl _ _).alloc (Nat.le_refl _) _).alloc (by simp) _⟩

theorem look_hit {w : World} {T E M : Nat} {most : Int} {n : Nat} {L : List Ent} (h : Tab w T E M most n L) {e : Ent} (he : e ∈ L) :
    Calls Try.prog 13 #[pt T, .string e.k] w fun r w' => r = .returned (.tuple #[.int .i64 e.v, .bool true]) ∧ Below w.heap.size w w' := by
  have HF := Hid.mk (find_hit h he)
  go_enter Try.func13, Try.ntmps13
  go_wp2_with fail
  refine HF.out.mono ?_
  rintro r w1 ⟨rfl, hb⟩
  have cv := (h.blk hb).row.val e he
  clear h
  go_wp2
  go_ret2
  exact ⟨rfl, hb⟩
theorem look_miss {w : World} {T E M : Nat} {most : Int} {n : Nat} {L : List Ent} (h : Tab w T E M most n L) {k : ByteArray} (hk : ∀ e ∈ L, e.k ≠ k) (hs : k.size ≤ maxLen) :
    Calls Try.prog 13 #[pt T, .string k] w fun r w' => r = .returned (.tuple #[.int .i64 0, .bool false]) ∧ Below w.heap.size w w' := by
  have HF := Hid.mk (find_miss h hk hs)
  clear hk
  go_enter Try.func13, Try.ntmps13
  go_wp2_with fail
  refine HF.out.mono ?_
  rintro r w1 ⟨rfl, hb⟩
  clear h
  go_wp2
  go_ret2
  exact ⟨rfl, hb⟩

theorem get_hit {w : World} {T E M : Nat} {most : Int} {n : Nat} {X Y : List Ent} {e : Ent} (h : Tab w T E M most n (X ++ e :: Y)) :
    Calls Try.prog 11 #[pt T, .string e.k] w fun r w' => r = .returned (.tuple #[.int .i64 e.v, .bool true]) ∧ Tab w' T E M most n (e :: (X ++ Y)) ∧ Kp (tS T E M (X ++ e :: Y)) w w' := by
  have HF := Hid.mk (find_hit h (e := e) (by simp))
  go_enter Try.func11, Try.ntmps11
  go_wp2_with fail
  refine HF.out.mono ?_
  rintro r w1 ⟨rfl, hb⟩
  have h1 := h.blk hb
  have HR := Hid.mk (renew_tab h1)
  go_wp2_with fail
  refine HR.out.mono ?_
  rintro r w2 ⟨rfl, h2, k2⟩
  have cv := h2.row.val e (by simp)
  have HE := Hid.mk h2
  clear h h1 h2
  go_wp2
  go_ret2
  exact ⟨rfl, HE.out, (Kp.of_below hb).trans k2 (fun _ _ x => x)⟩
theorem get_miss {w : World} {T E M : Nat} {most : Int} {n : Nat} {L : List Ent} (h : Tab w T E M most n L) {k : ByteArray} (hk : ∀ e ∈ L, e.k ≠ k) (hs : k.size ≤ maxLen) :
    Calls Try.prog 11 #[pt T, .string k] w fun r w' => r = .returned (.tuple #[.int .i64 0, .bool false]) ∧ Below w.heap.size w w' := by
  have HF := Hid.mk (find_miss h hk hs)
  clear hk
  go_enter Try.func11, Try.ntmps11
  go_wp2_with fail
  refine HF.out.mono ?_
  rintro r w1 ⟨rfl, hb⟩
  clear h
  go_wp2
  go_ret2
  exact ⟨rfl, hb⟩

theorem drop_hit {w : World} {T E M : Nat} {most : Int} {n : Nat} {X Y : List Ent} {e : Ent} (h : Tab w T E M most n (X ++ e :: Y)) :
    Calls Try.prog 15 #[pt T, .string e.k] w fun r w' => r = .returned (.bool true) ∧ Tab w' T E M most n (X ++ Y) ∧ Kp (tS T E M (X ++ e :: Y)) w w' ∧
      Plc w' e.b ∧ w'.cell? ⟨e.b, 0, none⟩ = some (.string e.k) ∧ w'.cell? ⟨e.b, 2, none⟩ = some nilP ∧ w'.cell? ⟨e.b, 1, none⟩ = some (.int .i64 e.v) := by
  have HF := Hid.mk (find_hit h (e := e) (by simp))
  go_enter Try.func15, Try.ntmps15
  go_wp2_with fail
  refine HF.out.mono ?_
  rintro r w1 ⟨rfl, hb⟩
  have h1 := h.blk hb
  have HR := Hid.mk (remove_tab h1)
  go_wp2_with fail
  refine HR.out.mono ?_
  rintro r w2 ⟨rfl, h2, k2, p1, p2, p3⟩
  have HE := Hid.mk (And.intro h2 (And.intro p1 (And.intro p2 p3)))
  clear h h1 h2 p1 p2 p3
  go_wp2
  go_ret
  exact ⟨rfl, HE.out.1, (Kp.of_below hb).trans k2 (fun _ _ x => x), HE.out.2⟩
theorem drop_miss {w : World} {T E M : Nat} {most : Int} {n : Nat} {L : List Ent} (h : Tab w T E M most n L) {k : ByteArray} (hk : ∀ e ∈ L, e.k ≠ k) (hs : k.size ≤ maxLen) :
    Calls Try.prog 15 #[pt T, .string k] w fun r w' => r = .returned (.bool false) ∧ Below w.heap.size w w' := by
  have HF := Hid.mk (find_miss h hk hs)
  clear hk
  go_enter Try.func15, Try.ntmps15
  go_wp2_with fail
  refine HF.out.mono ?_
  rintro r w1 ⟨rfl, hb⟩
  clear h
  go_wp2
  go_ret
  exact ⟨rfl, hb⟩

/-- another value at a place. -/
theorem Tab.setVal {w : World} {T E M : Nat} {most : Int} {n : Nat} {X Y : List Ent} {e : Ent} (h : Tab w T E M most n (X ++ e :: Y)) (v : Int) : Tab (w.setCell ⟨e.b, 1, none⟩ (.int .i64 v)) T E M most n (X ++ ⟨e.b, e.k, v⟩ :: Y) := by
  have hbs : bs (X ++ ⟨e.b, e.k, v⟩ :: Y) = bs (X ++ e :: Y) := by simp [bs]
  have hks : ks (X ++ ⟨e.b, e.k, v⟩ :: Y) = ks (X ++ e :: Y) := by simp [ks]
  have pe := h.row.plc e.b (List.mem_cons_of_mem _ (mem_bs_mid.2 (by simp)))
  have ni := h.notIn
  have old : ∀ x ∈ X ++ ⟨e.b, e.k, v⟩ :: Y, (x = ⟨e.b, e.k, v⟩) ∨ (x ∈ X ++ e :: Y ∧ x.b ≠ e.b) := fun x hx => by
    simp at hx
    rcases hx with hx | hx | hx
    · refine .inr ⟨by simp [hx], fun hh => ni ?_⟩
      rw [← hh]
      exact List.mem_cons_of_mem _ (mem_bs_app.2 (.inl (List.mem_map_of_mem hx)))
    · exact .inl hx
    · refine .inr ⟨by simp [hx], fun hh => ni ?_⟩
      rw [← hh]
      exact List.mem_cons_of_mem _ (mem_bs_app.2 (.inr (List.mem_map_of_mem hx)))
  refine ⟨?_, ⟨?_, ?_, ?_, ?_, ?_⟩, ?_, ?_, ?_, ?_⟩
  · rw [Below.heap_setCell _ _ _ _ (h.noPlc pe), h.tb]
    simp
  · rw [hbs]
    exact h.row.links.frame _ (fun a _ => cell_set_o (fun _ => by decide)) (fun a _ => cell_set_o (fun _ => by decide))
  · rw [hbs]; exact h.row.nd
  · intro b hb
    rw [hbs] at hb
    exact (h.row.plc b hb).set _ _
  · intro x hx
    rw [cell_set_o (fun _ => by decide)]
    rcases old x hx with rfl | ⟨hx, _⟩
    · exact h.row.key e (by simp)
    · exact h.row.key x hx
  · intro x hx
    rcases old x hx with rfl | ⟨hx, hne⟩
    · exact World.cell?_setCell_same _ _ _ (h.row.val e (by simp))
    · rw [cell_set_o (fun hh => absurd hh.symm hne)]
      exact h.row.val x hx
  · refine MapAt.perm (MapAt.same h.mp (Below.heap_setCell _ _ _ _ (h.noMap pe))) (fun k b => ?_)
    constructor
    · rintro ⟨y, hy, h1⟩
      rcases old y hy with rfl | ⟨hy, _⟩
      · exact ⟨e, by simp, h1⟩
      · exact ⟨y, hy, h1⟩
    · rintro ⟨y, hy, h1⟩
      simp at hy
      rcases hy with hy | rfl | hy
      · exact ⟨y, by simp [hy], h1⟩
      · exact ⟨⟨y.b, y.k, v⟩, by simp, h1⟩
      · exact ⟨y, by simp [hy], h1⟩
  · rw [hks]; exact h.kn
  · have := h.len
    simpa using this
  · intro x hx
    rcases old x hx with rfl | ⟨hx, _⟩
    · exact h.sz e (by simp)
    · exact h.sz x hx

theorem put_hit {w : World} {T E M : Nat} {most : Int} {n : Nat} {X Y : List Ent} {e : Ent} (h : Tab w T E M most n (X ++ e :: Y)) (v : Int) :
    Calls Try.prog 9 #[pt T, .string e.k, .int .i64 v] w fun r w' => r = .returned (.tuple #[.string ⟨#[]⟩, .bool false]) ∧ Tab w' T E M most n (⟨e.b, e.k, v⟩ :: (X ++ Y)) ∧ Kp (tS T E M (X ++ e :: Y)) w w' := by
  have HF := Hid.mk (find_hit h (e := e) (by simp))
  go_enter Try.func9, Try.ntmps9
  go_wp2_with fail
  refine HF.out.mono ?_
  rintro r w1 ⟨rfl, hb⟩
  have h1 := h.blk hb
  have pe := h1.row.plc e.b (List.mem_cons_of_mem _ (mem_bs_mid.2 (by simp)))
  have cv := h1.row.val e (by simp)
  have fv := pe.frozen 1
  have h2 := h1.setVal v
  have HR := Hid.mk (renew_tab h2)
  have hbs : bs (X ++ ⟨e.b, e.k, v⟩ :: Y) = bs (X ++ e :: Y) := by simp [bs]
  have HB := Hid.mk hbs
  clear hbs
  go_wp2_with fail
  refine HR.out.mono ?_
  rintro r w2 ⟨rfl, h3, k3⟩
  have HE : Hid (Tab w2 T E M most n (⟨e.b, e.k, v⟩ :: (X ++ Y)) ∧ Kp (tS T E M (X ++ e :: Y)) w w2) := by
    refine ⟨h3, ?_⟩
    refine Kp.trans ((Kp.of_below (S := tS T E M (X ++ e :: Y)) hb).set (.inl ?_) _) k3 (fun x _ hx => ?_)
    · exact .inr (.inr (.inr (mem_bs_mid.2 (by simp))))
    · unfold tS at hx ⊢
      rw [HB.out] at hx
      exact hx
  clear h h1 h2 h3 pe cv fv
  go_wp2
  go_ret2
  exact ⟨rfl, HE.out⟩

theorem Tab.lastCell {w : World} {T E M : Nat} {most : Int} {n : Nat} {X : List Ent} {z : Ent} (h : Tab w T E M most n (X ++ [z])) : w.cell? ⟨E, 2, none⟩ = some (pt z.b) := by
  have hl := h.row.links
  rw [show E :: (bs (X ++ [z]) ++ [E]) = (E :: bs X) ++ z.b :: [E] by simp [bs], Links.split] at hl
  exact hl.2.2.1

/-- a key that is not there: there is room. -/
theorem put_room {w : World} {T E M : Nat} {most : Int} {n : Nat} {L : List Ent} (h : Tab w T E M most n L) (k : ByteArray) (v : Int) (hk : ∀ e ∈ L, e.k ≠ k) (hs : k.size ≤ maxLen) (hn : n < maxLen) (hr : ((L.length + 1 : Nat) : Int) ≤ most) (hm : most ≤ 100000) :
    Calls Try.prog 9 #[pt T, .string k, .int .i64 v] w fun r w' => r = .returned (.tuple #[.string ⟨#[]⟩, .bool false]) ∧ ∃ b, w.heap.size ≤ b ∧ Tab w' T E M most (n + 1) (⟨b, k, v⟩ :: L) ∧ Kp (tS T E M L) w w' := by
  have HF := Hid.mk (find_miss h hk hs)
  go_enter Try.func9, Try.ntmps9
  go_wp2_with fail
  refine HF.out.mono ?_
  rintro r w1 ⟨rfl, hb⟩
  have h1 := h.blk hb
  have HA := Hid.mk (add_tab h1 k v hk hs hn (by omega))
  clear hk
  go_wp2_with fail
  refine HA.out.mono ?_
  rintro r w2 ⟨rfl, h2, k2⟩
  have c0 := h2.c0
  have c2 := h2.c2
  simp only [List.length_cons] at c2
  have hsz := hb.size
  have HE : Hid (∃ b, w.heap.size ≤ b ∧ Tab w2.drew T E M most (n + 1) (⟨b, k, v⟩ :: L) ∧ Kp (tS T E M L) w w2.drew) := ⟨_, hsz, h2.drew, ((Kp.of_below hb).trans k2 (fun _ _ x => x)).drew⟩
  clear h h1 h2 hsz
  generalize hq : (((L.length + 1 : Nat)) : Int) = q at c2 hr
  clear hq
  go_wp2
  go_region
  go_wp2
  go_ret2
  exact ⟨rfl, HE.out⟩

/-- a key that is not there: the one that was used longest ago goes. -/
theorem put_full {w : World} {T E M : Nat} {most : Int} {n : Nat} {X : List Ent} {z : Ent} (h : Tab w T E M most n (X ++ [z])) (k : ByteArray) (v : Int) (hk : ∀ e ∈ X ++ [z], e.k ≠ k) (hs : k.size ≤ maxLen) (hn : n < maxLen) (hr : (((X ++ [z]).length : Nat) : Int) = most) (hm : most ≤ 100000) :
    Calls Try.prog 9 #[pt T, .string k, .int .i64 v] w fun r w' => r = .returned (.tuple #[.string z.k, .bool true]) ∧ ∃ b, w.heap.size ≤ b ∧ Tab w' T E M most (n + 1) (⟨b, k, v⟩ :: X) ∧ Kp (tS T E M (X ++ [z])) w w' := by
  have HF := Hid.mk (find_miss h hk hs)
  go_enter Try.func9, Try.ntmps9
  go_wp2_with fail
  refine HF.out.mono ?_
  rintro r w1 ⟨rfl, hb⟩
  have h1 := h.blk hb
  have HA := Hid.mk (add_tab h1 k v hk hs hn (by omega))
  clear hk
  go_wp2_with fail
  refine HA.out.mono ?_
  rintro r w2 ⟨rfl, h2, k2⟩
  have c0 := h2.c0
  have c2 := h2.c2
  have hq : (((⟨w1.heap.size, k, v⟩ : Ent) :: (X ++ [z])).length : Int) = most + 1 := by rw [← hr]; simp
  rw [hq] at c2
  have c1 := h2.c1
  have h3 : Tab w2.drew T E M most (n + 1) ((⟨w1.heap.size, k, v⟩ :: X) ++ [z]) := h2.drew
  have ce := h3.lastCell
  have HL := Hid.mk (last_in w2.drew T E z.b c1 ce)
  have HR := Hid.mk (remove_tab (X := ⟨w1.heap.size, k, v⟩ :: X) (e := z) (Y := []) h3)
  have hsz := hb.size
  have HK := Hid.mk (And.intro hsz (And.intro hb k2))
  have HI : Hid (w1.heap.size ∉ bs (X ++ [z])) := fun hh => by have := h1.lt (.inr (.inr (.inr hh))); omega
  clear h h1 h2 h3 hsz hq hr hb k2 ce c1
  go_wp2
  go_region
  go_wp2_with fail
  refine HL.out.mono ?_
  rintro r w3 ⟨rfl, rfl⟩
  go_wp2_with fail
  refine HR.out.mono ?_
  rintro r w4 ⟨rfl, h4, k4, p1, p2, p3⟩
  have HE := Hid.mk (And.intro h4 k4)
  clear h4 k4
  go_wp2
  go_ret2
  refine ⟨rfl, w1.heap.size, HK.out.1, by simpa using HE.out.1, ?_⟩
  refine Kp.trans (((Kp.of_below HK.out.2.1).trans HK.out.2.2 (fun _ _ x => x)).drew) HE.out.2 (fun b hb hh => ?_)
  rcases hh with x | x | x | x
  · exact .inl x
  · exact .inr (.inl x)
  · exact .inr (.inr (.inl x))
  · have : b = w1.heap.size ∨ b ∈ bs (X ++ [z]) := by simpa [bs] using x
    rcases this with rfl | h
    · have := HK.out.1; omega
    · exact .inr (.inr (.inr h))

end Go.Proofs.Ytcebljcofkohiaa
