/- Small letters in the names of data, on bytes alone. -/
import Derived.Test.YtkohkkakbcjgcabGreatDoorDFacts
import Derived.Test.YtkohkkakbcjgcabGreatDoorLowered
namespace Go.Proofs.YtkohkkakbcjgcabGreatDoor
set_option linter.unusedVariables false
open Go.RowKit

theorem lowB_lowB (c : UInt8) : lowB (lowB c) = lowB c := by
  have h := lowB_toNat c
  apply UInt8.toNat_inj.1
  rw [lowB_toNat, h]
  split
  · rw [if_neg (by omega)]
  · rfl
def lowA (x : ByteArray) : ByteArray := ⟨(x.data.toList.map lowB).toArray⟩
theorem lowA_size (x : ByteArray) : (lowA x).size = x.size := by rw [lowA, ba_size, List.length_map, size_list]
theorem lowA_lowA (x : ByteArray) : lowA (lowA x) = lowA x := by
  apply ba_ext
  simp [lowA, lowB_lowB]
theorem lowA_nm {ls : List (List UInt8)} (h : OkN ls) : lowA (nm ls) = nm (lowN ls) := nm_low h
theorem lowA_name {x : ByteArray} (h : IsName x) : IsName (lowA x) := by
  obtain ⟨ls, ho, rfl⟩ := h
  exact ⟨lowN ls, ho.low, lowA_nm ho⟩

def isNm : PK → Bool
  | .name => true
  | _ => false
def lowX (p : PK) (x : ByteArray) : ByteArray := if isNm p then lowA x else x
theorem lowX_size (p : PK) (x : ByteArray) : (lowX p x).size = x.size := by
  unfold lowX
  split
  · exact lowA_size x
  · rfl
theorem lowX_lowX (p : PK) (x : ByteArray) : lowX p (lowX p x) = lowX p x := by
  unfold lowX
  split
  · exact lowA_lowA x
  · rfl
theorem lowX_good (p : PK) (x : ByteArray) (h : Good p x) : Good p (lowX p x) := by
  cases p <;> first | exact h | exact lowA_name h

def lowXs : List PK → List ByteArray → List ByteArray
  | p :: F, x :: xs => lowX p x :: lowXs F xs
  | _, xs => xs
theorem lowXs_good : ∀ (F : List PK) (xs : List ByteArray), AllGood F xs → AllGood F (lowXs F xs)
  | [], [], _ => trivial
  | p :: F, x :: xs, h => ⟨lowX_good p x h.1, lowXs_good F xs h.2⟩
  | [], _ :: _, h => h.elim
  | _ :: _, [], h => h.elim
theorem lowXs_size : ∀ (F : List PK) (xs : List ByteArray), (cat (lowXs F xs)).size = (cat xs).size
  | [], _ => rfl
  | _ :: _, [] => rfl
  | p :: F, x :: xs => by rw [lowXs, cat, cat, app_size, app_size, lowX_size, lowXs_size F xs]
theorem lowXs_twice : ∀ (F : List PK) (xs : List ByteArray), lowXs F (lowXs F xs) = lowXs F xs
  | [], _ => rfl
  | _ :: _, [] => rfl
  | p :: F, x :: xs => by rw [lowXs, lowXs, lowX_lowX, lowXs_twice F xs]

/-- types whose names are of other owners of records. -/
def nameds (k : Int) : Bool := k == 2 || k == 5 || k == 39 || k == 6 || k == 15
def lowers (k : Int) : Bool := nameds k || k == 46
noncomputable def lowR (k : Int) (s : ByteArray) : ByteArray := if lowers k then (match splitR k s with
  | none => s
  | some xs => cat (lowXs (formOf k) xs)) else s
def nmsOf : List PK → List ByteArray → List ByteArray
  | p :: F, x :: xs => if isNm p then x :: nmsOf F xs else nmsOf F xs
  | _, _ => []
noncomputable def namesR (k : Int) (s : ByteArray) : List ByteArray := if nameds k then (match splitR k s with
  | none => []
  | some xs => nmsOf (formOf k) xs) else []
theorem nmsOf_low : ∀ (F : List PK) (xs : List ByteArray), (nmsOf F (lowXs F xs)).length = (nmsOf F xs).length
  | [], xs => by cases xs <;> rfl
  | _ :: _, [] => rfl
  | p :: F, x :: xs => by
    rw [lowXs, nmsOf, nmsOf]
    split
    · simp [nmsOf_low F xs]
    · exact nmsOf_low F xs

theorem lowR_split (k : Int) (s : ByteArray) (xs : List ByteArray) (hl : lowers k = true) (h : splitR k s = some xs) : lowR k s = cat (lowXs (formOf k) xs) ∧ splitR k (lowR k s) = some (lowXs (formOf k) xs) := by
  have e : lowR k s = cat (lowXs (formOf k) xs) := by
    rw [lowR, if_pos hl, h]
  refine ⟨e, ?_⟩
  obtain ⟨hk, hs, rfl, hg⟩ := (split_iff k s xs).1 h
  rw [e]
  exact (split_iff k _ _).2 ⟨hk, by rw [lowXs_size]; exact hs, rfl, lowXs_good _ _ hg⟩
theorem lowR_none (k : Int) (s : ByteArray) (h : splitR k s = none) : lowR k s = s := by
  rw [lowR, h]
  split <;> rfl
theorem lowR_size (k : Int) (s : ByteArray) : (lowR k s).size = s.size := by
  cases hl : lowers k with
  | false => rw [lowR, hl]; rfl
  | true =>
    cases h : splitR k s with
    | none => rw [lowR_none k s h]
    | some xs =>
      rw [(lowR_split k s xs hl h).1, lowXs_size]
      obtain ⟨_, _, rfl, _⟩ := (split_iff k s xs).1 h
      rfl
theorem lowR_twice (k : Int) (s : ByteArray) : lowR k (lowR k s) = lowR k s := by
  cases hl : lowers k with
  | false => rw [lowR, hl]; rfl
  | true =>
    cases h : splitR k s with
    | none => rw [lowR_none k s h, lowR_none k s h]
    | some xs =>
      obtain ⟨h1, h2⟩ := lowR_split k s xs hl h
      rw [(lowR_split k _ _ hl h2).1, lowXs_twice, h1]
theorem lowR_right (k : Int) (s : ByteArray) : (splitR k (lowR k s)).isSome = (splitR k s).isSome := by
  cases hl : lowers k with
  | false => rw [lowR, hl]; rfl
  | true =>
    cases h : splitR k s with
    | none => rw [lowR_none k s h, h]
    | some xs => rw [(lowR_split k s xs hl h).2]; rfl
theorem lowR_names (k : Int) (s : ByteArray) : (namesR k (lowR k s)).length = (namesR k s).length := by
  unfold namesR
  cases hn : nameds k with
  | false => rfl
  | true =>
    have hl : lowers k = true := by rw [lowers, hn]; rfl
    cases h : splitR k s with
    | none => rw [lowR_none k s h, h]
    | some xs =>
      rw [(lowR_split k s xs hl h).2]
      exact nmsOf_low _ _
end Go.Proofs.YtkohkkakbcjgcabGreatDoor
