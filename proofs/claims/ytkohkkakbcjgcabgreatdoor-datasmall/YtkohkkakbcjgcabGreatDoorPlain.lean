/- Plain facts on names: a name is the list of its labels; its bytes are each label behind its length, and a byte 0. Nothing here speaks of the program. -/
import Derived.Lib.Strings
import Derived.Lib.IndexBytes
namespace Go.Proofs.YtkohkkakbcjgcabGreatDoor
set_option linter.unusedVariables false

/-- each label behind its length. -/
def flat : List (List UInt8) → List UInt8
  | [] => []
  | l :: ls => UInt8.ofNat l.length :: (l ++ flat ls)

/-- the bytes of the name with these labels. -/
def nmL (ls : List (List UInt8)) : List UInt8 := flat ls ++ [0]
def nm (ls : List (List UInt8)) : ByteArray := ⟨(nmL ls).toArray⟩

structure OkN (ls : List (List UInt8)) : Prop where
  lab : ∀ l ∈ ls, 1 ≤ l.length ∧ l.length ≤ 63
  len : (flat ls).length ≤ 254

def IsName (s : ByteArray) : Prop := ∃ ls, OkN ls ∧ s = nm ls

theorem flat_append (a b : List (List UInt8)) : flat (a ++ b) = flat a ++ flat b := by
  induction a with
  | nil => rfl
  | cons l ls ih => simp [flat, ih]

theorem flat_snoc (a : List (List UInt8)) (l : List UInt8) : flat (a ++ [l]) = flat a ++ (UInt8.ofNat l.length :: l) := by
  rw [flat_append]; simp [flat]

theorem size_list (s : ByteArray) : s.data.toList.length = s.size := rfl
theorem ba_ext {s t : ByteArray} (h : s.data.toList = t.data.toList) : s = t := by
  cases s; cases t; congr; exact Array.toList_inj.1 h
theorem ba_toList (l : List UInt8) : (ByteArray.mk l.toArray).data.toList = l := rfl
theorem ba_size (l : List UInt8) : (ByteArray.mk l.toArray).size = l.length := rfl
theorem nm_list (ls : List (List UInt8)) : (nm ls).data.toList = nmL ls := rfl
theorem nm_size (ls : List (List UInt8)) : (nm ls).size = (flat ls).length + 1 := by
  show (nmL ls).length = _; simp [nmL]
theorem getElem_list (s : ByteArray) (k : Nat) (h : k < s.size) : s.data.toList[k]'(by rw [size_list]; exact h) = s[k] := rfl

theorem u8_len {c : UInt8} {n : Nat} (h : n = c.toNat) : UInt8.ofNat n = c := by
  subst h; exact UInt8.ofNat_toNat

/-- the labels that have come, read off the front of s. -/
structure Seq (s : ByteArray) (p : List (List UInt8)) : Prop where
  pre : flat p <+: s.data.toList
  lab : ∀ l ∈ p, 1 ≤ l.length ∧ l.length ≤ 255

/-- no further label can be read. -/
def Ends (s : ByteArray) (k : Nat) : Prop := ∀ h : k < s.size, s[k] = 0 ∨ s.size < k + 1 + s[k].toNat

theorem Seq.nil (s : ByteArray) : Seq s [] := ⟨⟨_, rfl⟩, by simp⟩

theorem Seq.le {s : ByteArray} {p : List (List UInt8)} (h : Seq s p) : (flat p).length ≤ s.size := by
  have := h.pre.length_le; rwa [size_list] at this

theorem Seq.snoc {s : ByteArray} {p : List (List UInt8)} (h : Seq s p) {k : Nat} (hk : k = (flat p).length) (hlt : k < s.size) (hc : s[k] ≠ 0) (hn : k + 1 + s[k].toNat ≤ s.size) :
    Seq s (p ++ [((s.extract (k + 1) (k + 1 + s[k].toNat)).data.toList)]) ∧ (s.extract (k + 1) (k + 1 + s[k].toNat)).size = s[k].toNat := by
  have hsz : (s.extract (k + 1) (k + 1 + s[k].toNat)).size = s[k].toNat := by
    rw [ByteArray.size_extract]; omega
  refine ⟨⟨?_, ?_⟩, hsz⟩
  · rw [flat_snoc, size_list, hsz, UInt8.ofNat_toNat]
    have e1 : s.data.toList = s.data.toList.take k ++ s.data.toList.drop k := (List.take_append_drop k _).symm
    have e2 : s.data.toList.take k = flat p := by
      have := List.prefix_iff_eq_take.1 h.pre; rw [hk]; exact this.symm
    have e3 : s.data.toList.drop k = s[k] :: s.data.toList.drop (k + 1) := by
      rw [List.drop_eq_getElem_cons (by rw [size_list]; exact hlt)]; rfl
    have e4 : (s.extract (k + 1) (k + 1 + s[k].toNat)).data.toList = (s.data.toList.drop (k + 1)).take (s[k].toNat) := by
      rw [Lib.extract_data]; simp
    rw [e1, e2, e3, e4]
    refine (List.prefix_append_right_inj _).2 ?_
    exact List.cons_prefix_cons.2 ⟨rfl, List.take_prefix _ _⟩
  · intro l hl
    rcases List.mem_append.1 hl with h1 | h1
    · exact h.lab l h1
    · simp only [List.mem_singleton] at h1
      subst h1
      rw [size_list, hsz]
      have : s[k].toNat ≠ 0 := fun e => hc (by rw [← UInt8.ofNat_toNat (x := s[k]), e]; rfl)
      have := s[k].toNat_lt
      omega

theorem Seq.snoc_len {s : ByteArray} {p : List (List UInt8)} {k : Nat} (hk : k = (flat p).length) (hlt : k < s.size) (hn : k + 1 + s[k].toNat ≤ s.size) :
    (flat (p ++ [((s.extract (k + 1) (k + 1 + s[k].toNat)).data.toList)])).length = k + 1 + s[k].toNat := by
  rw [flat_snoc, List.length_append, List.length_cons, size_list, ByteArray.size_extract]; omega

theorem ofNat_inj {a b : Nat} (ha : a ≤ 255) (hb : b ≤ 255) (h : UInt8.ofNat a = UInt8.ofNat b) : a = b := by
  have := congrArg UInt8.toNat h
  simpa [UInt8.toNat_ofNat', Nat.mod_eq_of_lt (show a < 256 by omega), Nat.mod_eq_of_lt (show b < 256 by omega)] using this

theorem flat_prefix : ∀ (p ls : List (List UInt8)), (∀ l ∈ p, 1 ≤ l.length ∧ l.length ≤ 255) → (∀ l ∈ ls, 1 ≤ l.length ∧ l.length ≤ 63) → flat p <+: flat ls ++ [0] → p <+: ls
  | [], _, _, _, _ => List.nil_prefix
  | l :: p, [], hp, _, h => by
    have := (List.cons_prefix_cons.1 (show UInt8.ofNat l.length :: (l ++ flat p) <+: 0 :: [] from h)).1
    have h1 := hp l (by simp)
    have := ofNat_inj h1.2 (by omega : 0 ≤ 255) this
    omega
  | l :: p, m :: ls, hp, hl, h => by
    have hh := List.cons_prefix_cons.1 (show UInt8.ofNat l.length :: (l ++ flat p) <+: UInt8.ofNat m.length :: ((m ++ flat ls) ++ [0]) from h)
    have h1 := hp l (by simp)
    have h2 := hl m (by simp)
    have e := ofNat_inj h1.2 (by omega : m.length ≤ 255) hh.1
    have h3 := hh.2
    rw [List.append_assoc] at h3
    have elm : l = m := by
      have a1 : l <+: m ++ (flat ls ++ [0]) := (List.prefix_append _ _).trans h3
      have a2 : m <+: m ++ (flat ls ++ [0]) := List.prefix_append _ _
      exact (List.prefix_of_prefix_length_le a1 a2 (by omega)).eq_of_length e
    subst elm
    have h4 := (List.prefix_append_right_inj _).1 h3
    exact List.cons_prefix_cons.2 ⟨rfl, flat_prefix p ls (fun x hx => hp x (by simp [hx])) (fun x hx => hl x (by simp [hx])) h4⟩

theorem Seq.of_name {ls p : List (List UInt8)} (ho : OkN ls) (h : Seq (nm ls) p) : p <+: ls :=
  flat_prefix p ls h.lab ho.lab h.pre

theorem nm_get_end (ls : List (List UInt8)) (h : (flat ls).length < (nm ls).size) : (nm ls)[(flat ls).length] = 0 := by
  rw [← getElem_list _ _ h]
  simp [nm_list, nmL]

/-- where a name's labels have all come. -/
theorem Seq.all_name {ls p : List (List UInt8)} (ho : OkN ls) (h : Seq (nm ls) p) (he : Ends (nm ls) (flat p).length) : p = ls := by
  obtain ⟨q, hq⟩ := h.of_name ho
  cases q with
  | nil => simpa using hq
  | cons m q =>
    exfalso
    have hm := ho.lab m (by rw [← hq]; simp)
    have hfl : flat ls = flat p ++ (UInt8.ofNat m.length :: (m ++ flat q)) := by rw [← hq, flat_append]; rfl
    have hlt : (flat p).length < (nm ls).size := by rw [nm_size, hfl]; simp; omega
    have hc : (nm ls)[(flat p).length] = UInt8.ofNat m.length := by
      rw [← getElem_list _ _ hlt]
      simp [nm_list, nmL, hfl]
    have ht : (UInt8.ofNat m.length).toNat = m.length := by simp [UInt8.toNat_ofNat']; omega
    rcases he hlt with e | e
    · rw [hc] at e
      have := ofNat_inj (by omega) (by omega : 0 ≤ 255) e
      omega
    · rw [hc, ht, nm_size, hfl] at e
      simp at e; omega

/-- where what is left is the byte 0, it is a name. -/
theorem Seq.is_name {s : ByteArray} {p : List (List UInt8)} (_h : Seq s p) (h63 : ∀ l ∈ p, l.length ≤ 63) (hs : s.size ≤ 255) (hd : s.data.toList = flat p ++ [0]) (h1 : ∀ l ∈ p, 1 ≤ l.length) : OkN p ∧ s = nm p := by
  refine ⟨⟨fun l hl => ⟨h1 l hl, h63 l hl⟩, ?_⟩, ba_ext hd⟩
  rw [← size_list, hd] at hs; simp at hs; omega

end Go.Proofs.YtkohkkakbcjgcabGreatDoor
