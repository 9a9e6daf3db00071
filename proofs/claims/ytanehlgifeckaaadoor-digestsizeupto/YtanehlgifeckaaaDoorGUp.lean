/- Great letters: what DigestSize lays over a text's own bytes. -/
import Derived.Test.YtanehlgifeckaaaDoorGExam
namespace Go.Proofs.YtanehlgifeckaaaDoor
set_option linter.unusedVariables false
open Go.RowKit
def upc (c : UInt8) : UInt8 := if 97 ≤ c.toNat then UInt8.ofNat (c.toNat - 32) else c
theorem upc_nat (c : UInt8) : ((upc c).toNat : Int) = if 97 ≤ c.toNat then (c.toNat : Int) - 32 else (c.toNat : Int) := by
  have := c.toNat_lt
  unfold upc
  split
  · rw [UInt8.toNat_ofNat']; omega
  · rfl
theorem cnt_upc (x : UInt8) (h : x.toNat < 32) : cnt (upc (ltr x)) = x := by
  obtain ⟨n, hn⟩ : ∃ n, x.toNat = n := ⟨_, rfl⟩
  have hx : x = UInt8.ofNat n := by rw [← hn, UInt8.ofNat_toNat]
  subst hx
  rw [hn] at h
  clear hn
  revert n
  decide
theorem map_up (w : Nat) (hw : w = 4 ∨ w = 5) (s : List UInt8) : ((spl w s).map upc).map cnt = (spl w s).map cnt := by
  obtain ⟨p, hp, hv, hl, hd⟩ := grp_ok w hw s
  unfold spl
  rw [List.map_map, List.map_map, List.map_map]
  apply List.map_congr_left
  intro x hx
  have h1 := hd x hx
  have h2 : 2 ^ w ≤ 2 ^ 5 := Nat.pow_le_pow_right (by omega) (by omega)
  show cnt (upc (ltr x)) = cnt (ltr x)
  rw [cnt_upc x (by omega), cnt_ltr x (by omega)]
theorem uns_up (w : Nat) (hw : w = 4 ∨ w = 5) (s : List UInt8) : uns w ((spl w s).map upc) = some s := by
  have h := uns_spl w hw s
  have hall : (∀ c ∈ (spl w s).map upc, (cnt c).toNat < 2 ^ w) ↔ (∀ c ∈ spl w s, (cnt c).toNat < 2 ^ w) := by
    have e : ∀ l : List UInt8, (∀ c ∈ l, (cnt c).toNat < 2 ^ w) ↔ (∀ x ∈ l.map cnt, x.toNat < 2 ^ w) := fun l => by simp
    rw [e, e, map_up w hw s]
  unfold uns at h ⊢
  rw [map_up w hw s]
  simpa only [hall] using h
/-- a row of bytes that a conversion made: it can be read and written, and turned into a text. -/
structure Crow (w : World) (g : Nat) (l : List UInt8) : Prop where
  cell : ∀ j, j < l.length → w.cell? ⟨g, j, none⟩ = some (.int .u8 ((l[j]?.getD 0).toNat : Int))
  free : ∀ j, j < l.length → w.frozen? ⟨g, j, none⟩ = false
  lt : g < w.heap.size
theorem Crow.new (W : World) (s : ByteArray) : Crow (Lib.bytesWorld W 5 s) W.heap.size s.data.toList := by
  refine ⟨fun j hj => ?_, fun j hj => ?_, by rw [Lib.bytesWorld_size]; omega⟩
  · rw [Lib.bytesWorld_cell W 5 s j (by rw [← size_list]; exact hj)]
    simp [List.getD]
  · have hz : s.size ≤ (Lib.bytesCells W 5 s).size := by simp [Lib.bytesCells]
    rw [size_list] at hj
    simp only [World.frozen?, Lib.bytesWorld_at_new, Bool.and_eq_false_iff, decide_eq_false_iff_not]
    omega
theorem Crow.below {w w' : World} {g : Nat} {l : List UInt8} (h : Crow w g l) (hb : Below w.heap.size w w') : Crow w' g l :=
  ⟨fun j hj => (hb.cell (p := ⟨g, j, none⟩) h.lt).trans (h.cell j hj), fun j hj => (hb.frozen (p := ⟨g, j, none⟩) h.lt).trans (h.free j hj), Nat.lt_of_lt_of_le h.lt hb.size⟩
theorem Crow.put {w : World} {g : Nat} {l : List UInt8} (h : Crow w g l) (m : Nat) (x : UInt8) : Crow (w.setCell ⟨g, m, none⟩ (.int .u8 (x.toNat : Int))) g (l.set m x) := by
  refine ⟨fun j hj => ?_, fun j hj => ?_, by simpa using h.lt⟩
  · rw [List.length_set] at hj
    by_cases e : j = m
    · subst e
      rw [World.cell?_setCell_same' w _ _ (by rw [h.cell j hj]; rfl), List.getElem?_set_self hj]
      rfl
    · rw [cell_put_ne w g m j _ e, h.cell j hj, List.getElem?_set_ne (fun q => e q.symm)]
  · rw [List.length_set] at hj
    have := h.free j hj
    simpa using this
theorem Crow.other {w : World} {g b m : Nat} {v : Value} {l : List UInt8} (h : Crow w g l) (hne : g ≠ b) : Crow (w.setCell ⟨b, m, none⟩ v) g l :=
  ⟨fun j hj => (World.cell?_of_block (w := w) (Below.heap_setCell w ⟨b, m, none⟩ v g hne)).trans (h.cell j hj), fun j hj => (World.frozen?_of_block (w := w) (Below.heap_setCell w ⟨b, m, none⟩ v g hne)).trans (h.free j hj), by simpa using h.lt⟩
theorem Crow.back {w : World} {g cap : Nat} {l : List UInt8} (h : Crow w g l) {n : Nat} (hn : l.length = n) : (convert 28 9 (.slice (some ⟨g, 0, none⟩) n cap)).run Tryd.prog w = .ok (.string ⟨l.toArray⟩) w := by
  subst hn
  refine run_convert_bytes_back (P := Tryd.prog) w 28 9 5 ⟨g, 0, none⟩ cap l Tryd.underlying28 Tryd.underlying5 Tryd.underlying9 (fun j hj => ?_)
  rw [addr_at, h.cell j hj, List.getElem?_eq_getElem hj]
  rfl
/-- great letters laid over the first m. -/
def ups (l : List UInt8) (m : Nat) : List UInt8 := (l.take m).map upc ++ l.drop m
theorem ups_len (l : List UInt8) (m : Nat) (h : m ≤ l.length) : (ups l m).length = l.length := by
  rw [ups, List.length_append, List.length_map, List.length_take, List.length_drop]; omega
theorem ups_at (l : List UInt8) (m : Nat) (h : m < l.length) : (ups l m)[m]?.getD 0 = l[m]?.getD 0 := by
  rw [ups, List.getElem?_append_right (by rw [List.length_map, List.length_take]; omega), List.length_map, List.length_take, Nat.min_eq_left (by omega), Nat.sub_self, List.getElem?_drop, Nat.add_zero]
theorem ups_set (l : List UInt8) (m : Nat) (h : m < l.length) : (ups l m).set m (upc (l[m]?.getD 0)) = ups l (m + 1) := by
  unfold ups
  rw [List.set_append_right _ _ (by rw [List.length_map, List.length_take]; omega), List.length_map, List.length_take, Nat.min_eq_left (by omega), Nat.sub_self, List.take_add_one, List.map_append, List.append_assoc, List.drop_eq_getElem_cons h, List.getElem?_eq_getElem h]
  rfl
theorem ups_same (l : List UInt8) (m : Nat) (h : m < l.length) (hc : upc (l[m]?.getD 0) = l[m]?.getD 0) : ups l (m + 1) = ups l m := by
  rw [← ups_set l m h, hc]
  have hl : m < (ups l m).length := by rw [ups_len l m (by omega)]; exact h
  have hat := ups_at l m h
  apply List.ext_getElem?
  intro k
  rw [List.getElem?_set]
  by_cases e : m = k
  · subst e
    rw [if_pos rfl, if_pos hl, ← hat, List.getElem?_eq_getElem hl]
    rfl
  · rw [if_neg e]
theorem ups_all (l : List UInt8) (m : Nat) (h : l.length = m) : ups l m = l.map upc := by
  rw [ups, List.take_of_length_le (by omega), List.drop_eq_nil_of_le (by omega)]
  exact List.append_nil _
end Go.Proofs.YtanehlgifeckaaaDoor
