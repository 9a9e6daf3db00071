/- Layer 11: places that were gone over stay known, though keys are dropped and others put. -/
import Derived.Test.YtcebljcofkohiaaTbAllG
namespace Go.Proofs.Ytcebljcofkohiaa
set_option linter.unusedVariables false
open Go.RowKit

/-- a place that was taken out. -/
structure DeadAt (W : World) (e : Ent) : Prop where
  plc : Plc W e.b
  key : W.cell? ⟨e.b, 0, none⟩ = some (.string e.k)
  val : W.cell? ⟨e.b, 1, none⟩ = some (.int .i64 e.v)
  nw : W.cell? ⟨e.b, 2, none⟩ = some nilP
theorem DeadAt.same {W W' : World} {e : Ent} (h : DeadAt W e) (hs : W'.heap[e.b]? = W.heap[e.b]?) : DeadAt W' e :=
  ⟨h.plc.of_same hs, (cell_same hs).trans h.key, (cell_same hs).trans h.val, (cell_same hs).trans h.nw⟩
theorem DeadAt.out {W : World} {e : Ent} (h : DeadAt W e) {T E M : Nat} {most : Int} {n : Nat} {L : List Ent} (t : Tab W T E M most n L) : ¬ tS T E M L e.b := by
  rintro (x | x | x | x)
  · exact t.noPlc h.plc x.symm
  · exact t.noMap h.plc x.symm
  · obtain ⟨c, hc⟩ := Links.back E (bs L ++ [E]) E (by simp) t.row.links
    rw [← x, h.nw] at hc
    cases hc
  · obtain ⟨c, hc⟩ := Links.back E (bs L ++ [E]) e.b (by simp [x]) t.row.links
    rw [h.nw] at hc
    cases hc
/-- of the places P: those whose keys are not among D are there, the others were taken out. -/
def PInv (P : List Ent) (W : World) (L : List Ent) (D : List ByteArray) : Prop :=
  ∀ e ∈ P, (e.k ∉ D ∧ e ∈ L) ∨ (e.k ∈ D ∧ DeadAt W e ∧ ∀ x ∈ L, x.k ≠ e.k)
theorem PInv.cells {P : List Ent} {W : World} {L : List Ent} {D : List ByteArray} (h : PInv P W L D) {T E M : Nat} {most : Int} {n : Nat} (t : Tab W T E M most n L) {e : Ent} (he : e ∈ P) :
    W.cell? ⟨e.b, 0, none⟩ = some (.string e.k) ∧ W.cell? ⟨e.b, 1, none⟩ = some (.int .i64 e.v) := by
  rcases h e he with ⟨_, hl⟩ | ⟨_, hd, _⟩
  · exact ⟨t.row.key e hl, t.row.val e hl⟩
  · exact ⟨hd.key, hd.val⟩
theorem PInv.blk {P : List Ent} {W W' : World} {L : List Ent} {D : List ByteArray} (h : PInv P W L D) (hb : Below W.heap.size W W') : PInv P W' L D := fun e he => by
  rcases h e he with hl | ⟨h1, h2, h3⟩
  · exact .inl hl
  · exact .inr ⟨h1, h2.same (hb.block _ h2.plc.lt), h3⟩
theorem PInv.same {P : List Ent} {W W' : World} {L : List Ent} {D D' : List ByteArray} (h : PInv P W L D) (hd : ∀ k, k ∈ D ↔ k ∈ D') : PInv P W L D' := fun e he => by
  rcases h e he with ⟨h1, h2⟩ | ⟨h1, h2⟩
  · exact .inl ⟨fun x => h1 ((hd _).2 x), h2⟩
  · exact .inr ⟨(hd _).1 h1, h2⟩

theorem drop_P {W w : World} {T E M : Nat} {most : Int} {n : Nat} {L P : List Ent} {D : List ByteArray} (ho : TabO W w T E M most n L) (hP : PInv P w L D) (d : ByteArray) (hs : d.size ≤ maxLen) :
    Calls Try.prog 15 #[pt T, .string d] w fun r w' => ∃ bb L', r = .returned (.bool bb) ∧ TabO W w' T E M most n L' ∧ L'.length ≤ L.length ∧ PInv P w' L' (D ++ [d]) ∧ Frn w w' := by
  have h := ho.tab
  rcases h.key_iff d with ⟨X, e0, Y, rfl, rfl, hu⟩ | hm
  · refine (drop_hit h).mono ?_
    rintro r w' ⟨rfl, h', k', p1, p2, p3, p4⟩
    have hsub : ∀ x ∈ X ++ Y, x ∈ X ++ e0 :: Y := fun x hx => by simp at hx ⊢; rcases hx with h | h <;> simp [h]
    refine ⟨true, X ++ Y, rfl, ho.step h' k' (fun x hx => .inl (List.mem_map_of_mem (hsub x hx))), by simp, fun e he => ?_, Frn.kp h k'⟩
    rcases hP e he with ⟨h1, h2⟩ | ⟨h1, h2, h3⟩
    · simp at h2
      rcases h2 with h2 | rfl | h2
      · exact .inl ⟨by simp [h1]; exact hu e (by simp [h2]), by simp [h2]⟩
      · exact .inr ⟨by simp, ⟨p1, p2, p4, p3⟩, hu⟩
      · exact .inl ⟨by simp [h1]; exact hu e (by simp [h2]), by simp [h2]⟩
    · exact .inr ⟨by simp [h1], h2.same (k'.same _ h2.plc.lt (h2.out h)), fun x hx => h3 x (hsub x hx)⟩
  · refine (drop_miss h hm hs).mono ?_
    rintro r w' ⟨rfl, hb⟩
    refine ⟨false, L, rfl, ho.blk hb, Nat.le_refl _, fun e he => ?_, Frn.below hb⟩
    rcases hP e he with ⟨h1, h2⟩ | ⟨h1, h2, h3⟩
    · exact .inl ⟨by simp [h1]; exact hm e h2, h2⟩
    · exact .inr ⟨by simp [h1], h2.same (hb.block _ h2.plc.lt), h3⟩

theorem put_P {W w : World} {T E M m n : Nat} {L P : List Ent} {D : List ByteArray} (ho : TabO W w T E M (m : Int) n L) (hP : PInv P w L D) (k : ByteArray) (v : Int) (hk : ∀ e ∈ P, e.k ≠ k) (hl : L.length < m) (h2 : m ≤ 100000) (hs : k.size ≤ maxLen) (hn : n < maxLen) :
    Calls Try.prog 9 #[pt T, .string k, .int .i64 v] w fun r w' => ∃ s bb L', r = .returned (.tuple #[.string s, .bool bb]) ∧ TabO W w' T E M (m : Int) (n + 1) L' ∧ L'.length ≤ L.length + 1 ∧ PInv P w' L' D ∧ Frn w w' := by
  have h := ho.tab
  rcases h.key_iff k with ⟨X, e0, Y, rfl, rfl, hu⟩ | hm
  · refine (put_hit h v).mono ?_
    rintro r w' ⟨rfl, h', k'⟩
    refine ⟨_, _, _, rfl, ho.step h'.more k' (fun x hx => ?_), by simp, fun e he => ?_, Frn.kp h k'⟩
    · rcases List.mem_cons.1 hx with rfl | hx
      · exact .inl (mem_bs_mid.2 (by simp))
      · exact .inl (mem_bs_mid.2 ((List.mem_append.1 hx).imp (fun y => List.mem_map_of_mem y) (fun y => .inr (List.mem_map_of_mem y))))
    · rcases hP e he with ⟨h1, h2⟩ | ⟨h1, h2, h3⟩
      · simp at h2
        rcases h2 with h2 | rfl | h2
        · exact .inl ⟨h1, by simp [h2]⟩
        · exact absurd rfl (hk e he)
        · exact .inl ⟨h1, by simp [h2]⟩
      · refine .inr ⟨h1, h2.same (k'.same _ h2.plc.lt (h2.out h)), fun x hx => ?_⟩
        rcases List.mem_cons.1 hx with rfl | hx
        · exact fun hh => hk e he hh.symm
        · exact h3 x (by simp at hx ⊢; rcases hx with h | h <;> simp [h])
  · refine (put_room h k v hm hs hn (by omega) (by omega)).mono ?_
    rintro r w' ⟨rfl, b, hb, h', k'⟩
    refine ⟨_, _, _, rfl, ho.step h' k' (fun x hx => ?_), by simp, fun e he => ?_, Frn.kp h k'⟩
    · rcases List.mem_cons.1 hx with rfl | hx
      · exact .inr hb
      · exact .inl (List.mem_map_of_mem hx)
    · rcases hP e he with ⟨h1, h2⟩ | ⟨h1, h2, h3⟩
      · exact .inl ⟨h1, by simp [h2]⟩
      · refine .inr ⟨h1, h2.same (k'.same _ h2.plc.lt (h2.out h)), fun x hx => ?_⟩
        rcases List.mem_cons.1 hx with rfl | hx
        · exact fun hh => hk e he hh.symm
        · exact h3 x hx

def inB (l : List ByteArray) (k : ByteArray) : Bool := l.any fun x => decide (x = k)
theorem inB_iff {l : List ByteArray} {k : ByteArray} : inB l k = true ↔ k ∈ l := by simp [inB]
/-- what is told: ks the keys that were there, ds what is dropped one by one, last: how many but one are told. -/
def tc (ks ds : List ByteArray) (last : Nat) : Nat → List ByteArray
  | 0 => []
  | i + 1 => if last < (tc ks ds last i).length then tc ks ds last i else if inB (ds.take (tc ks ds last i).length) (ks.getD i ⟨#[]⟩) then tc ks ds last i else tc ks ds last i ++ [ks.getD i ⟨#[]⟩]
theorem tc_stop (ks ds : List ByteArray) (last i : Nat) (h : last < (tc ks ds last i).length) : tc ks ds last (i + 1) = tc ks ds last i := by
  rw [tc, if_pos h]
theorem tc_skip (ks ds : List ByteArray) (last i : Nat) (h : ¬ last < (tc ks ds last i).length) (h2 : ks.getD i ⟨#[]⟩ ∈ ds.take (tc ks ds last i).length) : tc ks ds last (i + 1) = tc ks ds last i := by
  rw [tc, if_neg h, if_pos (inB_iff.2 h2)]
theorem tc_tell (ks ds : List ByteArray) (last i : Nat) (h : ¬ last < (tc ks ds last i).length) (h2 : ks.getD i ⟨#[]⟩ ∉ ds.take (tc ks ds last i).length) : tc ks ds last (i + 1) = tc ks ds last i ++ [ks.getD i ⟨#[]⟩] := by
  rw [tc, if_neg h, if_neg (fun x => h2 (inB_iff.1 x))]
theorem tc_pre (ks ds : List ByteArray) (last i : Nat) : ∀ j, tc ks ds last i <+: tc ks ds last (i + j)
  | 0 => List.prefix_refl _
  | j + 1 => by
    refine (tc_pre ks ds last i j).trans ?_
    show _ <+: tc ks ds last (i + j + 1)
    rw [tc]
    split
    · exact List.prefix_refl _
    · split
      · exact List.prefix_refl _
      · exact List.prefix_append _ _
theorem tc_le (ks ds : List ByteArray) (last : Nat) : ∀ i, (tc ks ds last i).length ≤ last + 1
  | 0 => by simp [tc]
  | i + 1 => by
    rw [tc]
    split
    · exact tc_le ks ds last i
    · split
      · exact tc_le ks ds last i
      · simp; omega
theorem tc_after (ks ds : List ByteArray) (last i : Nat) (h : last < (tc ks ds last i).length) : ∀ j, tc ks ds last (i + j) = tc ks ds last i
  | 0 => rfl
  | j + 1 => by
    have ih := tc_after ks ds last i h j
    show tc ks ds last (i + j + 1) = _
    rw [tc_stop _ _ _ _ (by rw [ih]; exact h), ih]

theorem allOf_in (w : World) (T : Nat) :
    Calls Try.prog 20 #[pt T] w fun e w' => e = .returned (.func (.func 32) #[] #[pt w.heap.size]) ∧ w' = w.alloc (.cells #[pt T] 24) := by
  have hmf : ∀ (fn : Fn) (first cap : Array Value) (w : World), (Instr.makeFunc fn first cap).run Try.prog w = .ok (.func fn first cap) w := fun _ _ _ _ => rfl
  go_enter Try.func20, Try.ntmps20
  go_wp2
  go_ret
  exact ⟨rfl, rfl⟩

end Go.Proofs.Ytcebljcofkohiaa
