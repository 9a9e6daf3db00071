/- Layer 11: the calls of a table, by its list. -/
import Derived.Test.YtcebljcofkohiaaTbKv
namespace Go.Proofs.Ytcebljcofkohiaa
set_option linter.unusedVariables false
open Go.RowKit
open Go.MapKept Go.WideMaps

theorem Tab.more {w : World} {T E M : Nat} {most : Int} {n : Nat} {L : List Ent} (h : Tab w T E M most n L) : Tab w T E M most (n + 1) L := by
  obtain ⟨a, b, ⟨D, hD, hr⟩, c, d, e⟩ := h
  exact ⟨a, b, ⟨D, hD.mono (Nat.le_succ n), hr⟩, c, d, e⟩

theorem put_kv {W w : World} {T m n : Nat} {l : KV} (h : TabK W w T (m : Int) n l) (k : ByteArray) (v : Int) (hl : l.length ≤ m) (h1 : 1 ≤ m) (h2 : m ≤ 100000) (hs : k.size ≤ maxLen) (hn : n < maxLen) :
    Calls Try.prog 9 #[pt T, .string k, .int .i64 v] w fun r w' => r = .returned (.tuple #[.string ((putG m l k).getD ⟨#[]⟩), .bool (putG m l k).isSome]) ∧ TabK W w' T (m : Int) (n + 1) (putR m l k v) ∧ Frn w w' := by
  obtain ⟨E, M, L, ho, rfl⟩ := h
  have h := ho.tab
  rw [kv_len] at hl
  rcases h.key_iff k with ⟨X, e, Y, rfl, rfl, hu⟩ | hm
  · have e0 := without_hit hu
    have hg : putG m (kv (X ++ e :: Y)) e.k = none := by
      unfold putG
      rw [e0, List.getElem?_eq_none (by simp [kv_len] at hl ⊢; omega)]
      rfl
    have hp : putR m (kv (X ++ e :: Y)) e.k v = kv (⟨e.b, e.k, v⟩ :: (X ++ Y)) := by
      unfold putR
      rw [e0, List.take_of_length_le (by simp [kv_len] at hl ⊢; omega)]
      rfl
    rw [hg, hp]
    refine (put_hit h v).mono ?_
    rintro r w' ⟨rfl, h', k'⟩
    refine ⟨rfl, ⟨E, M, _, ho.step h'.more k' (fun x hx => ?_), rfl⟩, Frn.kp h k'⟩
    rcases List.mem_cons.1 hx with rfl | hx
    · exact .inl (mem_bs_mid.2 (by simp))
    · exact .inl (mem_bs_mid.2 ((List.mem_append.1 hx).imp (fun y => List.mem_map_of_mem y) (fun y => .inr (List.mem_map_of_mem y))))
  · have e0 := without_miss hm
    by_cases hr : L.length + 1 ≤ m
    · have hg : putG m (kv L) k = none := by
        unfold putG
        rw [e0, List.getElem?_eq_none (by simp [kv_len]; omega)]
        rfl
      have hp : ∀ b, putR m (kv L) k v = kv (⟨b, k, v⟩ :: L) := fun b => by
        unfold putR
        rw [e0, List.take_of_length_le (by simp [kv_len]; omega)]
        rfl
      rw [hg]
      refine (put_room h k v hm hs hn (by omega) (by omega)).mono ?_
      rintro r w' ⟨rfl, b, hb, h', k'⟩
      refine ⟨rfl, ⟨E, M, _, ho.step h' k' (fun x hx => ?_), (hp b).symm⟩, Frn.kp h k'⟩
      rcases List.mem_cons.1 hx with rfl | hx
      · exact .inr hb
      · exact .inl (List.mem_map_of_mem hx)
    · obtain rfl : L.length = m := by omega
      obtain ⟨X, z, rfl⟩ : ∃ X z, L = X ++ [z] := ⟨_, _, (List.dropLast_concat_getLast (l := L) (by intro e; simp [e] at h1)).symm⟩
      have hg : putG (X ++ [z]).length (kv (X ++ [z])) k = some z.k := by
        unfold putG
        rw [e0, show (X ++ [z]).length = X.length + 1 by simp, List.getElem?_cons_succ, kv_app, List.getElem?_append_right (by simp [kv_len]), kv_len]
        simp [kv]
      have hp : ∀ b, putR (X ++ [z]).length (kv (X ++ [z])) k v = kv (⟨b, k, v⟩ :: X) := fun b => by
        unfold putR
        rw [e0, kv_app, ← List.cons_append]
        rw [show ((k, v) :: kv X ++ kv [z]).take (X ++ [z]).length = (k, v) :: kv X from List.take_left' (by simp [kv_len])]
        rfl
      rw [hg]
      refine (put_full h k v hm hs hn rfl (by omega)).mono ?_
      rintro r w' ⟨rfl, b, hb, h', k'⟩
      refine ⟨rfl, ⟨E, M, _, ho.step h' k' (fun x hx => ?_), (hp b).symm⟩, Frn.kp h k'⟩
      rcases List.mem_cons.1 hx with rfl | hx
      · exact .inr hb
      · exact .inl (mem_bs_app.2 (.inl (List.mem_map_of_mem hx)))

theorem get_kv {W w : World} {T n : Nat} {most : Int} {l : KV} (h : TabK W w T most n l) (k : ByteArray) (hs : k.size ≤ maxLen) :
    Calls Try.prog 11 #[pt T, .string k] w fun r w' => r = .returned (.tuple #[.int .i64 ((getR l k).getD 0), .bool (getR l k).isSome]) ∧ TabK W w' T most n (match getR l k with | some v => (k, v) :: without l k | none => l) ∧ Frn w w' := by
  obtain ⟨E, M, L, ho, rfl⟩ := h
  have h := ho.tab
  rcases h.key_iff k with ⟨X, e, Y, rfl, rfl, hu⟩ | hm
  · rw [getR_hit hu, without_hit hu]
    refine (get_hit h).mono ?_
    rintro r w' ⟨rfl, h', k'⟩
    refine ⟨rfl, ⟨E, M, _, ho.step h' k' (fun x hx => ?_), rfl⟩, Frn.kp h k'⟩
    rcases List.mem_cons.1 hx with rfl | hx
    · exact .inl (mem_bs_mid.2 (by simp))
    · exact .inl (mem_bs_mid.2 ((List.mem_append.1 hx).imp (fun y => List.mem_map_of_mem y) (fun y => .inr (List.mem_map_of_mem y))))
  · rw [getR_miss hm]
    refine (get_miss h hm hs).mono ?_
    rintro r w' ⟨rfl, hb⟩
    exact ⟨rfl, ⟨E, M, L, ho.blk hb, rfl⟩, Frn.below hb⟩

theorem look_kv {W w : World} {T n : Nat} {most : Int} {l : KV} (h : TabK W w T most n l) (k : ByteArray) (hs : k.size ≤ maxLen) :
    Calls Try.prog 13 #[pt T, .string k] w fun r w' => r = .returned (.tuple #[.int .i64 ((getR l k).getD 0), .bool (getR l k).isSome]) ∧ Below w.heap.size w w' := by
  obtain ⟨E, M, L, ho, rfl⟩ := h
  have h := ho.tab
  rcases h.key_iff k with ⟨X, e, Y, rfl, rfl, hu⟩ | hm
  · rw [getR_hit hu]
    exact look_hit h (by simp)
  · rw [getR_miss hm]
    exact look_miss h hm hs

theorem drop_kv {W w : World} {T n : Nat} {most : Int} {l : KV} (h : TabK W w T most n l) (k : ByteArray) (hs : k.size ≤ maxLen) :
    Calls Try.prog 15 #[pt T, .string k] w fun r w' => r = .returned (.bool (getR l k).isSome) ∧ TabK W w' T most n (without l k) ∧ Frn w w' := by
  obtain ⟨E, M, L, ho, rfl⟩ := h
  have h := ho.tab
  rcases h.key_iff k with ⟨X, e, Y, rfl, rfl, hu⟩ | hm
  · rw [getR_hit hu, without_hit hu]
    refine (drop_hit h).mono ?_
    rintro r w' ⟨rfl, h', k', _⟩
    refine ⟨rfl, ⟨E, M, _, ho.step h' k' (fun x hx => ?_), rfl⟩, Frn.kp h k'⟩
    exact .inl (mem_bs_mid.2 ((List.mem_append.1 hx).imp (fun y => List.mem_map_of_mem y) (fun y => .inr (List.mem_map_of_mem y))))
  · rw [getR_miss hm, without_miss hm]
    refine (drop_miss h hm hs).mono ?_
    rintro r w' ⟨rfl, hb⟩
    exact ⟨rfl, ⟨E, M, L, ho.blk hb, rfl⟩, Frn.below hb⟩

theorem len_kv {W w : World} {T n : Nat} {most : Int} {l : KV} (h : TabK W w T most n l) :
    Calls Try.prog 18 #[pt T] w fun r w' => r = .returned (.int .i64 (l.length : Int)) ∧ w' = w := by
  obtain ⟨E, M, L, ho, rfl⟩ := h
  rw [kv_len]
  exact len_in w T _ ho.tab.c2

theorem keys_kv {W w : World} {T n : Nat} {most : Int} {l : KV} (h : TabK W w T most n l) :
    Calls Try.prog 19 #[pt T] w fun r w' => (∃ v, r = .returned v ∧ w'.ownsRow w.heap.size 9 1 v l.length (strC (l.map Prod.fst))) ∧ Below w.heap.size w w' := by
  obtain ⟨E, M, L, ho, rfl⟩ := h
  rw [kv_len, show (kv L).map Prod.fst = ks L by simp [kv, ks]]
  exact keys_in ho.tab

end Go.Proofs.Ytcebljcofkohiaa
