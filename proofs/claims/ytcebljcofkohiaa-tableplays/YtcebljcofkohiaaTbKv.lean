/- Layer 11: a table as a list of keys and values. -/
import Derived.Test.YtcebljcofkohiaaTbKeys
namespace Go.Proofs.Ytcebljcofkohiaa
set_option linter.unusedVariables false
open Go.RowKit
open Go.MapKept Go.WideMaps

abbrev KV := List (ByteArray × Int)
def kv (L : List Ent) : KV := L.map fun e => (e.k, e.v)

/-- other boxes stay. -/
structure Frn (w w' : World) : Prop where
  size : w.heap.size ≤ w'.heap.size
  same : ∀ (b : Nat) (c : Array Value) (t : TypeId) (f : Nat × Nat), w.heap[b]? = some (.cells c t f) → t ≠ 58 → t ≠ 62 → w'.heap[b]? = some (.cells c t f)
theorem Frn.refl (w : World) : Frn w w := ⟨Nat.le_refl _, fun _ _ _ _ h _ _ => h⟩
theorem Frn.trans {a b c : World} (h : Frn a b) (k : Frn b c) : Frn a c := ⟨Nat.le_trans h.size k.size, fun i x t f hi h1 h2 => k.same i x t f (h.same i x t f hi h1 h2) h1 h2⟩
theorem Frn.below {w w' : World} (h : Below w.heap.size w w') : Frn w w' := ⟨h.size, fun b c t f hb _ _ => (h.block b (blk_lt hb)).trans hb⟩
theorem Frn.kp {w w' : World} {T E M : Nat} {most : Int} {n : Nat} {L : List Ent} (h : Tab w T E M most n L) (k : Kp (tS T E M L) w w') : Frn w w' := by
  refine ⟨k.size, fun b c t f hb h1 h2 => (k.same b (blk_lt hb) ?_).trans hb⟩
  rintro (rfl | rfl | rfl | hm)
  · rw [h.tb] at hb; cases hb; exact h1 rfl
  · obtain ⟨es, cl, hm⟩ := h.mp.isMap
    rw [hm] at hb; cases hb
  · obtain ⟨c', hc, _⟩ := h.row.plc b (by simp)
    rw [hc] at hb; cases hb; exact h2 rfl
  · obtain ⟨c', hc, _⟩ := h.row.plc b (List.mem_cons_of_mem _ hm)
    rw [hc] at hb; cases hb; exact h2 rfl
theorem Frn.box {w w' : World} (h : Frn w w') {B : Nat} {t : TypeId} {v : Value} (hb : Boxed w B t v) (h1 : t ≠ 58) (h2 : t ≠ 62) : Boxed w' B t v := h.same B _ t _ hb h1 h2
theorem Frn.row {w w' : World} (h : Frn w w') {base e size k : Nat} {v : Value} {xs : List Value} (hr : w.ownsRow base e size v k xs) (h1 : e ≠ 58) (h2 : e ≠ 62) : w'.ownsRow base e size v k xs := by
  obtain ⟨hl, h0 | ⟨g, cap, cur, hv, hb, hg, r⟩⟩ := hr
  · exact ⟨hl, .inl h0⟩
  · exact ⟨hl, .inr ⟨g, cap, cur, hv, hb, h.same g _ e _ hg h1 h2, r⟩⟩

/-- a table of one's own (all made behind W). -/
structure TabO (W w : World) (T E M : Nat) (most : Int) (n : Nat) (L : List Ent) : Prop where
  tab : Tab w T E M most n L
  own : ∀ b, tS T E M L b → W.heap.size ≤ b
  bel : Below W.heap.size W w
theorem TabO.blk {W w w' : World} {T E M : Nat} {most : Int} {n : Nat} {L : List Ent} (h : TabO W w T E M most n L) (hb : Below w.heap.size w w') : TabO W w' T E M most n L :=
  ⟨h.tab.blk hb, h.own, h.bel.trans (hb.mono h.bel.size)⟩
theorem TabO.step {W w w' : World} {T E M : Nat} {most : Int} {n n' : Nat} {L L' : List Ent} (h : TabO W w T E M most n L) (h' : Tab w' T E M most n' L') (k : Kp (tS T E M L) w w') (hb : ∀ e ∈ L', e.b ∈ bs L ∨ w.heap.size ≤ e.b) : TabO W w' T E M most n' L' := by
  refine ⟨h', fun b hb' => ?_, h.bel.trans (k.below h.bel.size (fun b hb hs => ?_))⟩
  · rcases hb' with x | x | x | x
    · exact h.own b (.inl x)
    · exact h.own b (.inr (.inl x))
    · exact h.own b (.inr (.inr (.inl x)))
    · obtain ⟨e, he, rfl⟩ := List.mem_map.1 x
      rcases hb e he with y | y
      · exact h.own _ (.inr (.inr (.inr y)))
      · exact Nat.le_trans h.bel.size y
  · have := h.own b hs; omega

def TabK (W w : World) (T : Nat) (most : Int) (n : Nat) (l : KV) : Prop := ∃ E M L, TabO W w T E M most n L ∧ kv L = l
theorem TabK.blk {W w w' : World} {T : Nat} {most : Int} {n : Nat} {l : KV} (h : TabK W w T most n l) (hb : Below w.heap.size w w') : TabK W w' T most n l := by
  obtain ⟨E, M, L, h, e⟩ := h
  exact ⟨E, M, L, h.blk hb, e⟩
theorem TabK.bel {W w : World} {T : Nat} {most : Int} {n : Nat} {l : KV} (h : TabK W w T most n l) : Below W.heap.size W w := by
  obtain ⟨E, M, L, h, e⟩ := h
  exact h.bel

theorem new_kv (w : World) (m : Int) (h1 : ¬ m < 1) (h2 : ¬ 100000 < m) :
    Calls Try.prog 7 #[.int .i64 m] w fun e w' => e = .returned (.tuple #[pt (w.heap.size + 3), .int .i64 0]) ∧ TabK w w' (w.heap.size + 3) m 0 [] ∧ Below w.heap.size w w' := by
  refine (new_in w m h1 h2).mono ?_
  rintro e w' ⟨rfl, rfl⟩
  refine ⟨rfl, ?_⟩
  obtain ⟨o1, ho1⟩ : ∃ o, Obj.cells #[pt (w.heap.size + 1), .int .i64 0] 54 (0, 0) = o := ⟨_, rfl⟩
  obtain ⟨o2, ho2⟩ : ∃ o, Obj.cells #[.string ⟨#[]⟩, .int .i64 0, pt (w.heap.size + 1), pt (w.heap.size + 1)] 62 (0, 0) = o := ⟨_, rfl⟩
  obtain ⟨o4, ho4⟩ : ∃ o, Obj.cells #[.int .i64 m, pt (w.heap.size + 1), .int .i64 0, .map (some (w.heap.size + 2))] 58 (0, 0) = o := ⟨_, rfl⟩
  rw [ho1, ho2, ho4]
  have hb : Below w.heap.size w ((((w.alloc o1).alloc o2).alloc (.map #[] 0)).alloc o4) := ((((Below.refl _ _).alloc (Nat.le_refl _) _).alloc (by simp) _).alloc (by simp; omega) _).alloc (by simp; omega) _
  have g2 : ((((w.alloc o1).alloc o2).alloc (.map #[] 0)).alloc o4).heap[w.heap.size + 1]? = some o2 := by
    rw [Below.heap_alloc _ _ _ (by simp), Below.heap_alloc _ _ _ (by simp)]
    have := heap_alloc_last (w.alloc o1) o2
    simpa using this
  have g3 : (((w.alloc o1).alloc o2).alloc (.map #[] 0)).heap[w.heap.size + 2]? = some (.map #[] 0) := by
    have := heap_alloc_last ((w.alloc o1).alloc o2) (.map #[] 0)
    simpa using this
  have g4 : ((((w.alloc o1).alloc o2).alloc (.map #[] 0)).alloc o4).heap[w.heap.size + 3]? = some o4 := by
    have := heap_alloc_last (((w.alloc o1).alloc o2).alloc (.map #[] 0)) o4
    simpa using this
  have hm := (World.ownsMap_made ((w.alloc o1).alloc o2) Try.prog 9 plR).alloc o4
  have e2 : ((w.alloc o1).alloc o2).heap.size = w.heap.size + 2 := by simp
  rw [e2] at hm
  subst ho2 ho4
  refine ⟨⟨w.heap.size + 1, w.heap.size + 2, [], ⟨⟨g4, ⟨?_, ?_, ?_, ?_, ?_⟩, ⟨_, hm, fun _ h => (by cases h), fun k _ => rfl⟩, by simp [ks], by simp, fun _ h => (by cases h)⟩, ?_, hb⟩, rfl⟩, hb⟩
  · show Links _ [w.heap.size + 1, w.heap.size + 1]
    exact ⟨by rw [cell_of_row _ _ _ _ _ _ g2]; rfl, by rw [cell_of_row _ _ _ _ _ _ g2]; rfl, trivial⟩
  · simp [bs]
  · intro b hb
    obtain rfl : b = w.heap.size + 1 := by simpa [bs] using hb
    exact ⟨_, g2, rfl⟩
  · intro _ h; cases h
  · intro _ h; cases h
  · intro b hb
    rcases hb with rfl | rfl | rfl | hb
    · omega
    · omega
    · omega
    · simp [bs] at hb

theorem Tab.key_iff {w : World} {T E M : Nat} {most : Int} {n : Nat} {L : List Ent} (h : Tab w T E M most n L) (k : ByteArray) : (∃ X e Y, L = X ++ e :: Y ∧ e.k = k ∧ (∀ x ∈ X ++ Y, x.k ≠ k)) ∨ ∀ e ∈ L, e.k ≠ k := by
  by_cases hx : ∃ e ∈ L, e.k = k
  · obtain ⟨e, he, rfl⟩ := hx
    obtain ⟨X, Y, rfl⟩ := List.append_of_mem he
    refine .inl ⟨X, e, Y, rfl, rfl, fun x hx hh => ?_⟩
    have hkn := h.kn
    rw [show ks (X ++ e :: Y) = ks X ++ e.k :: ks Y by simp [ks]] at hkn
    have hk2 := List.perm_middle.nodup_iff.1 hkn
    exact (List.nodup_cons.1 hk2).1 (by rw [← hh]; simp at hx ⊢; exact hx.imp (fun h => List.mem_map_of_mem h) (fun h => List.mem_map_of_mem h))
  · exact .inr fun e he hk => hx ⟨e, he, hk⟩

/-- what Put makes of a list. -/
def without (l : KV) (k : ByteArray) : KV := l.filter fun p => decide (p.1 ≠ k)
def putR (m : Nat) (l : KV) (k : ByteArray) (v : Int) : KV := ((k, v) :: without l k).take m
/-- the key that goes. -/
def putG (m : Nat) (l : KV) (k : ByteArray) : Option ByteArray := (((k, (0 : Int)) :: without l k)[m]?).map Prod.fst
def getR (l : KV) (k : ByteArray) : Option Int := (l.find? fun p => decide (p.1 = k)).map Prod.snd

theorem kv_app (X Y : List Ent) : kv (X ++ Y) = kv X ++ kv Y := by simp [kv]
theorem kv_len (L : List Ent) : (kv L).length = L.length := by simp [kv]
theorem without_miss {L : List Ent} {k : ByteArray} (h : ∀ e ∈ L, e.k ≠ k) : without (kv L) k = kv L := by
  unfold without
  rw [List.filter_eq_self]
  intro p hp
  obtain ⟨e, he, rfl⟩ := List.mem_map.1 hp
  simpa using h e he
theorem without_hit {X Y : List Ent} {e : Ent} (h : ∀ x ∈ X ++ Y, x.k ≠ e.k) : without (kv (X ++ e :: Y)) e.k = kv (X ++ Y) := by
  have h1 := without_miss (L := X) (k := e.k) (fun x hx => h x (by simp [hx]))
  have h2 := without_miss (L := Y) (k := e.k) (fun x hx => h x (by simp [hx]))
  unfold without at h1 h2 ⊢
  rw [kv_app, kv_app, List.filter_append, h1]
  show kv X ++ List.filter _ ((e.k, e.v) :: kv Y) = _
  rw [List.filter_cons_of_neg (by simp), h2]
theorem getR_miss {L : List Ent} {k : ByteArray} (h : ∀ e ∈ L, e.k ≠ k) : getR (kv L) k = none := by
  unfold getR
  rw [List.find?_eq_none.2 (fun p hp => by
    obtain ⟨e, he, rfl⟩ := List.mem_map.1 hp
    simpa using h e he)]
  rfl
theorem getR_hit {X Y : List Ent} {e : Ent} (h : ∀ x ∈ X ++ Y, x.k ≠ e.k) : getR (kv (X ++ e :: Y)) e.k = some e.v := by
  unfold getR
  rw [kv_app, List.find?_append, List.find?_eq_none.2 (fun p hp => by
    obtain ⟨x, hx, rfl⟩ := List.mem_map.1 hp
    simpa using h x (by simp [hx]))]
  simp [kv]

end Go.Proofs.Ytcebljcofkohiaa
