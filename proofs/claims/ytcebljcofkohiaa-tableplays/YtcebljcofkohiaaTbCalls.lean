/- Layer 11: a key added, removed, put, got, looked at, dropped. -/
import Derived.Test.YtcebljcofkohiaaTbPush
import Derived.Deep.RegionLaw
import Derived.Deep.RegionWith
import Derived.Deep.WholeRow
namespace Go.Proofs.Ytcebljcofkohiaa
set_option linter.unusedVariables false
open Go.RowKit
open Go.MapKept Go.WideMaps

theorem Took.lt {w w' : World} {T E M : Nat} {most : Int} {n : Nat} {X Y : List Ent} {e : Ent} (t : Took w w' T E M most n X Y e) : M < w'.heap.size := t.mp.lt

set_option maxRecDepth 100000 in
theorem remove_tab {w : World} {T E M : Nat} {most : Int} {n : Nat} {X Y : List Ent} {e : Ent} (h : Tab w T E M most n (X ++ e :: Y)) :
    Calls Try.prog 27 #[pt T, pt e.b] w fun r w' => r = .returned (.tuple #[]) ∧ Tab w' T E M most n (X ++ Y) ∧ Kp (tS T E M (X ++ e :: Y)) w w' ∧
      Plc w' e.b ∧ w'.cell? ⟨e.b, 0, none⟩ = some (.string e.k) ∧ w'.cell? ⟨e.b, 2, none⟩ = some nilP ∧ w'.cell? ⟨e.b, 1, none⟩ = some (.int .i64 e.v) := by
  have HT := Hid.mk (take_tab h)
  go_enter Try.func27, Try.ntmps27
  go_wp2_with fail
  refine HT.out.mono ?_
  rintro r w1 ⟨rfl, t⟩
  have hkn := h.kn
  rw [show ks (X ++ e :: Y) = ks X ++ e.k :: ks Y by simp [ks]] at hkn
  have hk2 := List.perm_middle.nodup_iff.1 hkn
  have hk : ∀ x ∈ X ++ Y, x.k ≠ e.k := fun x hx hh => (List.nodup_cons.1 hk2).1 (by rw [← hh]; simp at hx ⊢; rcases hx with hx | hx; exact .inl (List.mem_map_of_mem hx); exact .inr (List.mem_map_of_mem hx))
  obtain ⟨w2, hdel, hm, ht⟩ := (MapAt.same (w' := w1.drew) t.mp rfl).del (h.sz e (by simp)) hk 0
  have ck := t.key
  have ct : w1.cell? ⟨T, 3, none⟩ = some (.map (some M)) := by rw [cell_of_row _ _ _ _ _ _ t.tb]; rfl
  have HF : Hid (Tab w2 T E M most n (X ++ Y) ∧ Kp (tS T E M (X ++ e :: Y)) w w2 ∧ Plc w2 e.b ∧ w2.cell? ⟨e.b, 0, none⟩ = some (.string e.k) ∧ w2.cell? ⟨e.b, 2, none⟩ = some nilP ∧ w2.cell? ⟨e.b, 1, none⟩ = some (.int .i64 e.v)) := by
    have hne : ∀ b, Plc w1 b → some b ≠ some M := fun b hb hh => by
      cases hh
      obtain ⟨c, hc, _⟩ := hb
      obtain ⟨es, cl, hm⟩ := t.mp.isMap
      rw [hm] at hc
      simp at hc
    have hg := ht.grown
    have same : ∀ b, Plc w1 b → w2.heap[b]? = w1.heap[b]? := fun b hb => hg.block b hb.lt (hne b hb)
    have hTM : some T ≠ some M := fun hh => h.tm (Option.some.inj hh)
    refine ⟨⟨(hg.block T (blk_lt t.tb) hTM).trans t.tb, t.row.same fun b hb => same b (t.row.plc b hb), hm, ?_, ?_, ?_⟩, t.kp.drew.turned ht (.inr (.inl rfl)), t.plc.of_same (same _ t.plc), (cell_same (same _ t.plc)).trans t.key, (cell_same (same _ t.plc)).trans t.c2, (cell_same (same _ t.plc)).trans t.val⟩
    · rw [show ks (X ++ Y) = ks X ++ ks Y by simp [ks]]
      exact (List.nodup_cons.1 hk2).2
    · have := h.len
      simp at this ⊢; omega
    · intro x hx
      exact h.sz x (by simp at hx ⊢; rcases hx with h | h <;> simp [h])
  clear hkn hk2 hk t HT h hm ht
  go_wp2
  go_region
  go_wp2
  go_end0
  exact ⟨rfl, HF.out⟩


/-- a key that is not there, put ahead. -/
theorem add_tab {w : World} {T E M : Nat} {most : Int} {n : Nat} {L : List Ent} (h : Tab w T E M most n L) (k : ByteArray) (v : Int) (hk : ∀ e ∈ L, e.k ≠ k) (hs : k.size ≤ maxLen) (hn : n < maxLen) (hl : L.length ≤ 100000) :
    Calls Try.prog 25 #[pt T, .string k, .int .i64 v] w fun r w' => r = .returned (.tuple #[]) ∧ Tab w' T E M most (n + 1) (⟨w.heap.size, k, v⟩ :: L) ∧ Kp (tS T E M L) w w' := by
  have h1 := h.alloc (.cells #[.string k, .int .i64 v, nilP, nilP] 62 (0, 0))
  have hnew : (w.alloc (.cells #[.string k, .int .i64 v, nilP, nilP] 62 (0, 0))).heap[w.heap.size]? = some (.cells #[.string k, .int .i64 v, nilP, nilP] 62 (0, 0)) := heap_alloc_last _ _
  have hne : w.heap.size ∉ E :: bs L := fun hh => by
    have := (h.row.plc _ hh).lt
    omega
  have HP := Hid.mk (push_tab (e := ⟨w.heap.size, k, v⟩) h1.tb h1.row ⟨_, hnew, rfl⟩ (by rw [cell_of_row _ _ _ _ _ _ hnew]; rfl) (by rw [cell_of_row _ _ _ _ _ _ hnew]; rfl) hne (by omega))
  have kk : (k.data.toList == k.data.toList) = true := by simp
  go_enter Try.func25, Try.ntmps25
  go_wp2_with fail
  refine HP.out.mono ?_
  rintro r w1 ⟨rfl, p⟩
  have hMw : M < w.heap.size := h.mp.lt
  have hM1 : w1.heap[M]? = (w.alloc (.cells #[.string k, .int .i64 v, nilP, nilP] 62 (0, 0))).heap[M]? := p.kp.same M (h1.mp.lt) (by
    rintro (x | x | x | x)
    · exact h.tm x.symm
    · exact h.noMap (h.row.plc E (by simp)) x
    · exact h.noMap (h.row.plc M (List.mem_cons_of_mem _ x)) rfl
    · simp only at x; omega)
  obtain ⟨w2, hup, hm, ht⟩ := (MapAt.same h1.mp hM1).put ⟨w.heap.size, k, v⟩ hn hs hk
  simp only at hup
  have ct : w1.cell? ⟨T, 3, none⟩ = some (.map (some M)) := by rw [cell_of_row _ _ _ _ _ _ p.tb]; rfl
  have HF : Hid (Tab w2 T E M most (n + 1) (⟨w.heap.size, k, v⟩ :: L) ∧ Kp (tS T E M L) w w2) := by
    have hg := ht.grown
    have hne2 : ∀ b, Plc w1 b → some b ≠ some M := fun b hb hh => by
      cases hh
      obtain ⟨c, hc, _⟩ := hb
      obtain ⟨es, cl, hm⟩ := (MapAt.same h1.mp hM1).isMap
      rw [hm] at hc
      simp at hc
    have same : ∀ b, Plc w1 b → w2.heap[b]? = w1.heap[b]? := fun b hb => hg.block b hb.lt (hne2 b hb)
    have hTM : some T ≠ some M := fun hh => h.tm (Option.some.inj hh)
    refine ⟨⟨(hg.block T (blk_lt p.tb) hTM).trans p.tb, p.row.same fun b hb => same b (p.row.plc b hb), hm, ?_, ?_, ?_⟩, ?_⟩
    · show (k :: ks L).Nodup
      refine List.nodup_cons.2 ⟨fun hh => ?_, h.kn⟩
      obtain ⟨x, hx, e⟩ := List.mem_map.1 hh
      exact hk x hx e
    · simp; omega
    · intro x hx
      rcases List.mem_cons.1 hx with rfl | hx
      · exact hs
      · exact h.sz x hx
    · refine Kp.turned (S := tS T E M L) (w := w1) ?_ ht (.inr (.inl rfl))
      refine Kp.trans ((Kp.refl (tS T E M L) w).alloc _) p.kp (fun b hb hh => ?_)
      rcases hh with x | x | x | x
      · exact .inl x
      · exact .inr (.inr (.inl x))
      · exact .inr (.inr (.inr x))
      · simp only at x; omega
  clear HP p h1 h hm ht hM1 hnew hne hk hMw
  go_wp2
  go_end0
  exact ⟨rfl, HF.out⟩

end Go.Proofs.Ytcebljcofkohiaa
