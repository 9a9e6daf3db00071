/- Texts of this proof, joined: Shared, Under, Kin, Kin2, Cmp, Facts. -/
import Derived.Deep.QuietTactic
import Derived.BigQuiet
import Derived.Test.YtaiakpigljcjbaaGreatDoorJ2
import Derived.Test.YtaiakpigljcjbaaGreatDoorJ10
/- sharedEnd: how many of the last labels of two lists are the same. -/
namespace Go.Proofs.YtaiakpigljcjbaaGreatDoor
set_option linter.unusedVariables false
open Go.RowKit

/-- how many of the first are the same. -/
def cpl : List (List UInt8) → List (List UInt8) → Nat
  | x :: xs, y :: ys => if x = y then cpl xs ys + 1 else 0
  | _, _ => 0
def shEnd (a b : List (List UInt8)) : Nat := cpl a.reverse b.reverse

theorem cpl_nil_right (a : List (List UInt8)) : cpl a [] = 0 := by cases a <;> rfl
theorem cpl_at : ∀ (a b : List (List UInt8)) (k : Nat), k ≤ a.length → k ≤ b.length → (∀ i, i < k → a[i]? = b[i]?) → (∀ (h1 : k < a.length) (h2 : k < b.length), a[k] ≠ b[k]) → cpl a b = k
  | [], b, k, ha, hb, he, hn => by simp at ha; subst ha; rfl
  | a :: a', [], k, ha, hb, he, hn => by simp at hb; subst hb; rfl
  | a :: a', b :: b', 0, ha, hb, he, hn => by
    have := hn (by simp) (by simp)
    simp at this
    simp [cpl, this]
  | a :: a', b :: b', k + 1, ha, hb, he, hn => by
    have h0 := he 0 (by omega)
    simp at h0
    subst h0
    have := cpl_at a' b' k (by simpa using ha) (by simpa using hb) (fun i hi => by simpa using he (i + 1) (by omega)) (fun h1 h2 => hn (by simpa using h1) (by simpa using h2))
    simp [cpl, this]

theorem shEnd_at (a b : List (List UInt8)) (k : Nat) (ha : k ≤ a.length) (hb : k ≤ b.length) (he : ∀ i, i < k → ∀ (h1 : a.length - 1 - i < a.length) (h2 : b.length - 1 - i < b.length), a[a.length - 1 - i] = b[b.length - 1 - i])
    (hn : ∀ (h1 : k < a.length) (h2 : k < b.length), a[a.length - 1 - k] ≠ b[b.length - 1 - k]) : shEnd a b = k := by
  refine cpl_at _ _ k (by simpa using ha) (by simpa using hb) (fun i hi => ?_) (fun h1 h2 => ?_)
  · rw [List.getElem?_eq_getElem (by simp; omega), List.getElem?_eq_getElem (by simp; omega), List.getElem_reverse, List.getElem_reverse]
    exact congrArg some (he i hi (by omega) (by omega))
  · rw [List.getElem_reverse, List.getElem_reverse]
    exact hn (by simpa using h1) (by simpa using h2)

set_option maxHeartbeats 1000000 in
theorem sharedEnd_core (ga gb ca cb : Nat) (a b : List (List UInt8)) (w : World) (hla : a.length ≤ 255) (hlb : b.length ≤ 255)
    (hca : ∀ j (h : j < a.length), w.cell? ⟨ga, j, none⟩ = some (strV a[j])) (hcb : ∀ j (h : j < b.length), w.cell? ⟨gb, j, none⟩ = some (strV b[j])) :
    Calls Tryz.prog 43 #[.slice (some ⟨ga, 0, none⟩) a.length ca, .slice (some ⟨gb, 0, none⟩) b.length cb] w fun e w' => e = .returned (.int .i64 (shEnd a b)) ∧ ∃ n, w' = w.drewN n := by
  go_enter Tryz.func43, Tryz.ntmps43
  go_wp2
  go_loopw [5] (fun i wr => ∃ k : Nat, i = .int .i64 k ∧ k ≤ a.length ∧ k ≤ b.length ∧ (∀ i, i < k → ∀ (h1 : a.length - 1 - i < a.length) (h2 : b.length - 1 - i < b.length), a[a.length - 1 - i] = b[b.length - 1 - i]) ∧ ∃ n, wr = w.drewN n) (fun i _ => a.length - (intOf i).toNat)
  case atStart => exact ⟨0, rfl, Nat.zero_le _, Nat.zero_le _, fun i h => absurd h (by omega), 0, rfl⟩
  case round =>
    obtain ⟨k, rfl, hka, hkb, hag, n, rfl⟩ := hrel
    by_cases hlt : k < a.length
    · by_cases hlt2 : k < b.length
      · obtain ⟨x, hxl, hc1⟩ : ∃ x : ByteArray, Hid (x.data.toList = a[a.length - 1 - k]) ∧ w.cell? ⟨ga, a.length - 1 - k, none⟩ = some (.string x) := ⟨⟨(a[a.length - 1 - k]).toArray⟩, rfl, hca _ _⟩
        obtain ⟨y, hyl, hc2⟩ : ∃ y : ByteArray, Hid (y.data.toList = b[b.length - 1 - k]) ∧ w.cell? ⟨gb, b.length - 1 - k, none⟩ = some (.string y) := ⟨⟨(b[b.length - 1 - k]).toArray⟩, rfl, hcb _ _⟩
        have hw1 : IntKind.i64.wrap ((a.length : Int) - 1) = (a.length : Int) - 1 := by rw [IntKind.wrap_i64]; omega
        have hw2 : IntKind.i64.wrap ((a.length : Int) - 1 - (k : Int)) = ((a.length - 1 - k : Nat) : Int) := by rw [IntKind.wrap_i64]; omega
        have hv1 : IntKind.i64.wrap ((b.length : Int) - 1) = (b.length : Int) - 1 := by rw [IntKind.wrap_i64]; omega
        have hv2 : IntKind.i64.wrap ((b.length : Int) - 1 - (k : Int)) = ((b.length - 1 - k : Nat) : Int) := by rw [IntKind.wrap_i64]; omega
        have hb1 : a.length - 1 - k < a.length := by omega
        have hb2 : b.length - 1 - k < b.length := by omega
        by_cases heq : a[a.length - 1 - k] = b[b.length - 1 - k]
        · have hbe : (x.toList == y.toList) = true := by rw [beq_iff_eq, ByteArray.toList_eq, ByteArray.toList_eq, hxl.out, hyl.out, heq]
          have HA : Hid (∀ i, i < k + 1 → ∀ (h1 : a.length - 1 - i < a.length) (h2 : b.length - 1 - i < b.length), a[a.length - 1 - i] = b[b.length - 1 - i]) := by
            intro i hi h1 h2
            by_cases e : i = k
            · subst e; exact heq
            · exact hag i (by omega) h1 h2
          clear heq hag hca hcb
          go_wp2
          go_quiet (fail)
          go_wp2
          go_roundw
          case rel => exact ⟨k + 1, by go_num, by omega, by omega, HA.out, _, rfl⟩
          case measure => simp [intOf]; omega
        · have hbe : (x.toList == y.toList) = false := by rw [beq_eq_false_iff_ne, ByteArray.toList_eq, ByteArray.toList_eq, hxl.out, hyl.out]; exact heq
          have HF : Hid (shEnd a b = k) := shEnd_at a b k hka hkb hag (fun _ _ => heq)
          clear heq hag hca hcb
          go_wp2
          go_quiet (fail)
          go_wp2
          go_ret
          exact ⟨by rw [HF.out]; rfl, _, World.drewN_drewN _ _ _⟩
      · have hd : decide ((k : Int) < (b.length : Int)) = false := by simp; omega
        have HF : Hid (shEnd a b = k) := shEnd_at a b k hka hkb hag (fun _ h2 => absurd h2 hlt2)
        clear hag hca hcb
        go_wp2
        go_quiet (fail)
        go_wp2
        go_ret
        exact ⟨by rw [HF.out]; rfl, _, World.drewN_drewN _ _ _⟩
    · have hd : decide ((k : Int) < (a.length : Int)) = false := by simp; omega
      have HF : Hid (shEnd a b = k) := shEnd_at a b k hka hkb hag (fun h1 _ => absurd h1 hlt)
      clear hag hca hcb
      go_wp2
      go_quiet (fail)
      go_wp2
      go_ret
      exact ⟨by rw [HF.out]; rfl, _, World.drewN_drewN _ _ _⟩
theorem shEnd_nil_left (b : List (List UInt8)) : shEnd [] b = 0 := rfl
theorem shEnd_nil_right (a : List (List UInt8)) : shEnd a [] = 0 := cpl_nil_right _

set_option maxHeartbeats 1000000 in
theorem sharedEnd_nilA (vb : Value) (n cb : Nat) (q : Option Addr) (w : World) (hn : n ≤ 255) :
    Calls Tryz.prog 43 #[.slice none 0 0, .slice q n cb] w fun e w' => e = .returned (.int .i64 0) ∧ ∃ n, w' = w.drewN n := by
  go_enter Tryz.func43, Tryz.ntmps43
  go_wp2
  go_loopw [5] (fun i wr => i = .int .i64 0 ∧ ∃ n, wr = w.drewN n) (fun i _ => 0)
  case atStart => exact ⟨rfl, 0, rfl⟩
  case round =>
    obtain ⟨rfl, n, rfl⟩ := hrel
    go_wp2
    go_quiet (fail)
    go_wp2
    go_ret
    exact ⟨rfl, _, World.drewN_drewN _ _ _⟩

set_option maxHeartbeats 1000000 in
theorem sharedEnd_nilB (n ca : Nat) (q : Option Addr) (w : World) (hn : n ≤ 255) :
    Calls Tryz.prog 43 #[.slice q n ca, .slice none 0 0] w fun e w' => e = .returned (.int .i64 0) ∧ ∃ n, w' = w.drewN n := by
  by_cases h0 : 0 < n
  · go_enter Tryz.func43, Tryz.ntmps43
    go_wp2
    go_loopw [5] (fun i wr => i = .int .i64 0 ∧ ∃ n, wr = w.drewN n) (fun i _ => 0)
    case atStart => exact ⟨rfl, 0, rfl⟩
    case round =>
      obtain ⟨rfl, n, rfl⟩ := hrel
      go_wp2
      go_quiet (fail)
      go_wp2
      go_ret
      exact ⟨rfl, _, World.drewN_drewN _ _ _⟩
  · obtain rfl : n = 0 := by omega
    go_enter Tryz.func43, Tryz.ntmps43
    go_wp2
    go_loopw [5] (fun i wr => i = .int .i64 0 ∧ ∃ n, wr = w.drewN n) (fun i _ => 0)
    case atStart => exact ⟨rfl, 0, rfl⟩
    case round =>
      obtain ⟨rfl, n, rfl⟩ := hrel
      go_wp2
      go_quiet (fail)
      go_wp2
      go_ret
      exact ⟨rfl, _, World.drewN_drewN _ _ _⟩

theorem sharedEnd_in (va vb : Value) (a b : List (List UInt8)) (n₀ : Nat) (w : World) (hla : a.length ≤ 255) (hlb : b.length ≤ 255) (ha : Strs n₀ w va a) (hb : Strs n₀ w vb b) :
    Calls Tryz.prog 43 #[va, vb] w fun e w' => e = .returned (.int .i64 (shEnd a b)) ∧ Below w.heap.size w w' := by
  have fin : ∀ (e : Ending) (w' : World) (m : Int), m = shEnd a b → (e = .returned (.int .i64 m) ∧ ∃ n, w' = w.drewN n) → (e = .returned (.int .i64 (shEnd a b)) ∧ Below w.heap.size w w') := by
    rintro e w' m rfl ⟨he, n, rfl⟩
    exact ⟨he, below_drewN (Below.refl _ _) n⟩
  rcases ha with ⟨rfl, rfl⟩ | ⟨ga, ca, rfl, _, hca⟩
  · rcases hb with ⟨rfl, rfl⟩ | ⟨gb, cb, rfl, _, hcb⟩
    · exact (sharedEnd_nilA (.slice none 0 0) 0 0 none w (by omega)).mono fun e w' h => fin e w' _ rfl h
    · exact (sharedEnd_nilA (.slice none 0 0) _ _ _ w hlb).mono fun e w' h => fin e w' _ rfl h
  · rcases hb with ⟨rfl, rfl⟩ | ⟨gb, cb, rfl, _, hcb⟩
    · exact (sharedEnd_nilB _ _ _ w hla).mono fun e w' h => fin e w' _ (by rw [shEnd_nil_right]; rfl) h
    · exact (sharedEnd_core ga gb ca cb a b w hla hlb hca hcb).mono fun e w' h => fin e w' _ rfl h

end Go.Proofs.YtaiakpigljcjbaaGreatDoor

/- under, Under, Equal. -/
namespace Go.Proofs.YtaiakpigljcjbaaGreatDoor
set_option linter.unusedVariables false
open Go.RowKit

theorem bcell {W w1 : World} (hb : Below W.heap.size W w1) : (∀ b o, b < W.heap.size → w1.cell? ⟨b, o, none⟩ = W.cell? ⟨b, o, none⟩) ∧ (∀ b o, b < W.heap.size → w1.frozen? ⟨b, o, none⟩ = W.frozen? ⟨b, o, none⟩) :=
  ⟨fun b o h => hb.cell (p := ⟨b, o, none⟩) h, fun b o h => hb.frozen (p := ⟨b, o, none⟩) h⟩
theorem bthen {w w1 w2 : World} (h : Below w.heap.size w w1) (k : Below w1.heap.size w1 w2) : Below w.heap.size w w2 := h.trans (k.mono h.size)

theorem Strs.form {n₀ : Nat} {W : World} {v : Value} {ls : List (List UInt8)} (h : Strs n₀ W v ls) : ∃ q c, v = .slice q ls.length c := by
  rcases h with ⟨rfl, rfl⟩ | ⟨g, cap, hv, _⟩
  · exact ⟨none, 0, rfl⟩
  · exact ⟨_, _, hv⟩

theorem OkN.count {ls : List (List UInt8)} (h : OkN ls) : ls.length ≤ 127 := by
  have := flat_count ls (fun l hl => (h.lab l hl).1); have := h.len; omega
theorem lowN_length (ls : List (List UInt8)) : (lowN ls).length = ls.length := by simp [lowN]

/-- a ends with all labels of b, letters aside. -/
def undB (a b : List (List UInt8)) : Bool := decide (shEnd (lowN a) (lowN b) = b.length)

set_option maxHeartbeats 400000 in
theorem under_in (a b : List (List UInt8)) (ha : OkN a) (hb : OkN b) (w : World) :
    Calls Tryz.prog 48 #[.string (nm a), .string (nm b)] w fun e w' => e = .returned (.bool (undB a b)) ∧ Below w.heap.size w w' := by
  have hca := ha.low.count
  have hcb := hb.low.count
  have hl := lowN_length b
  have HL := Hid.mk hl
  clear hl
  go_enter Tryz.func48, Tryz.ntmps48
  go_wp2_with fail
  refine (lowered_nm b hb _).mono ?_
  rintro e w1 ⟨rfl, hb1⟩
  go_wp2_with fail
  refine (labelsOf_in (lowN b) hb.low _).mono ?_
  rintro e w2 ⟨⟨vb, rfl, hvb⟩, hb2⟩
  go_wp2_with fail
  refine (lowered_nm a ha _).mono ?_
  rintro e w3 ⟨rfl, hb3⟩
  go_wp2_with fail
  refine (labelsOf_in (lowN a) ha.low _).mono ?_
  rintro e w4 ⟨⟨va, rfl, hva⟩, hb4⟩
  have hvb4 := (hvb.below (bthen hb3 hb4)).mono (bthen hb3 hb4).size
  clear hvb
  obtain ⟨q, c, hq⟩ := hvb4.form
  subst hq
  go_wp2_with fail
  refine (sharedEnd_in _ _ (lowN a) (lowN b) _ _ (by omega) (by omega) hva hvb4).mono ?_
  rintro e w5 ⟨rfl, hb5⟩
  clear hva hvb4
  go_wp2
  go_ret
  refine ⟨?_, (bthen hb1 (bthen hb2 (bthen hb3 (bthen hb4 hb5))))⟩
  rw [HL.out]
  show Ending.returned (.bool (((shEnd (lowN a) (lowN b) : Nat) : Int) == ((b.length : Nat) : Int))) = _
  congr 2
  rw [undB, Bool.eq_iff_iff]; simp; omega

theorem under_yes (a b : List (List UInt8)) (ha : OkN a) (hb : OkN b) (w : World) :
    Calls Tryz.prog 28 #[.string (nm a), .string (nm b)] w fun e w' => e = .returned (.bool (undB a b)) ∧ Below w.heap.size w w' := by
  go_enter Tryz.func28, Tryz.ntmps28
  go_wp2_with fail
  refine (right_yes a ha _).mono ?_
  rintro e w1 ⟨rfl, hb1⟩
  go_wp2_with fail
  refine (right_yes b hb _).mono ?_
  rintro e w2 ⟨rfl, hb2⟩
  go_wp2_with fail
  refine (under_in a b ha hb _).mono ?_
  rintro e w3 ⟨rfl, hb3⟩
  go_wp2
  go_ret
  exact ⟨rfl, bthen hb1 (bthen hb2 hb3)⟩

theorem under_no (s t : ByteArray) (hs : s.size ≤ maxLen) (ht : t.size ≤ maxLen) (h : ¬ (IsName s ∧ IsName t)) (w : World) :
    Calls Tryz.prog 28 #[.string s, .string t] w fun e w' => e = .returned (.bool false) ∧ Below w.heap.size w w' := by
  by_cases h1 : IsName s
  · have h2 : ¬ IsName t := fun h2 => h ⟨h1, h2⟩
    obtain ⟨a, ha, rfl⟩ := h1
    go_enter Tryz.func28, Tryz.ntmps28
    go_wp2_with fail
    refine (right_yes a ha _).mono ?_
    rintro e w1 ⟨rfl, hb1⟩
    go_wp2_with fail
    refine (right_no t h2 ht _).mono ?_
    rintro e w2 ⟨rfl, hb2⟩
    go_wp2
    go_ret
    exact ⟨rfl, bthen hb1 hb2⟩
  · go_enter Tryz.func28, Tryz.ntmps28
    go_wp2_with fail
    refine (right_no s h1 hs _).mono ?_
    rintro e w1 ⟨rfl, hb1⟩
    go_wp2
    go_ret
    exact ⟨rfl, hb1⟩

theorem nm_inj {a b : List (List UInt8)} (ha : OkN a) (hb : OkN b) (h : nm a = nm b) : a = b := by
  have h1 : Seq (nm b) a := ⟨by rw [← h, nm_list]; exact List.prefix_append _ _, fun l hl => ⟨(ha.lab l hl).1, by have := (ha.lab l hl).2; omega⟩⟩
  have h2 : Ends (nm b) (flat a).length := fun hl => by
    left
    have : (flat a).length < (nm a).size := by rw [nm_size]; omega
    have e := nm_get_end a this
    simp only [← h]; exact e
  exact h1.all_name hb h2

def eqB (a b : List (List UInt8)) : Bool := decide (lowN a = lowN b)

theorem equal_yes (a b : List (List UInt8)) (ha : OkN a) (hb : OkN b) (w : World) :
    Calls Tryz.prog 12 #[.string (nm a), .string (nm b)] w fun e w' => e = .returned (.bool (eqB a b)) ∧ Below w.heap.size w w' := by
  go_enter Tryz.func12, Tryz.ntmps12
  go_wp2_with fail
  refine (right_yes a ha _).mono ?_
  rintro e w1 ⟨rfl, hb1⟩
  go_wp2_with fail
  refine (right_yes b hb _).mono ?_
  rintro e w2 ⟨rfl, hb2⟩
  go_wp2_with fail
  refine (lowered_nm a ha _).mono ?_
  rintro e w3 ⟨rfl, hb3⟩
  go_wp2_with fail
  refine (lowered_nm b hb _).mono ?_
  rintro e w4 ⟨rfl, hb4⟩
  go_wp2
  go_ret
  refine ⟨?_, bthen hb1 (bthen hb2 (bthen hb3 hb4))⟩
  show Ending.returned (.bool ((nm (lowN a)).toList == (nm (lowN b)).toList)) = _
  congr 2
  rw [eqB, Bool.eq_iff_iff, beq_iff_eq, decide_eq_true_iff, ByteArray.toList_eq, ByteArray.toList_eq]
  exact ⟨fun h => nm_inj ha.low hb.low (ba_ext h), fun h => by rw [h]⟩

theorem equal_no (s t : ByteArray) (hs : s.size ≤ maxLen) (ht : t.size ≤ maxLen) (h : ¬ (IsName s ∧ IsName t)) (w : World) :
    Calls Tryz.prog 12 #[.string s, .string t] w fun e w' => e = .returned (.bool false) ∧ Below w.heap.size w w' := by
  by_cases h1 : IsName s
  · have h2 : ¬ IsName t := fun h2 => h ⟨h1, h2⟩
    obtain ⟨a, ha, rfl⟩ := h1
    go_enter Tryz.func12, Tryz.ntmps12
    go_wp2_with fail
    refine (right_yes a ha _).mono ?_
    rintro e w1 ⟨rfl, hb1⟩
    go_wp2_with fail
    refine (right_no t h2 ht _).mono ?_
    rintro e w2 ⟨rfl, hb2⟩
    go_wp2
    go_ret
    exact ⟨rfl, bthen hb1 hb2⟩
  · go_enter Tryz.func12, Tryz.ntmps12
    go_wp2_with fail
    refine (right_no s h1 hs _).mono ?_
    rintro e w1 ⟨rfl, hb1⟩
    go_wp2
    go_ret
    exact ⟨rfl, hb1⟩

end Go.Proofs.YtaiakpigljcjbaaGreatDoor

/- withoutFirst, Parent, Common, Child, Moved. -/
namespace Go.Proofs.YtaiakpigljcjbaaGreatDoor
set_option linter.unusedVariables false
open Go.RowKit Go.Shelf
attribute [local go_sem] Oper.semAt_some

theorem flat_drop_nm (p q : List (List UInt8)) : (nm (p ++ q)).extract (flat p).length (nm (p ++ q)).size = nm q := by
  apply ba_ext
  rw [Lib.extract_data, nm_list, nm_list, nmL, flat_append, List.append_assoc, List.drop_left]
  exact List.take_of_length_le (by rw [nm_size, flat_append]; simp; omega)

theorem keepsOthers_below {W W' : World} (h : Below W.heap.size W W') : KeepsOthers W W' :=
  ⟨h.size, fun k o hk _ => (h.block k (Array.getElem?_eq_some_iff.1 hk).1).trans hk⟩

theorem stop_drop {ls : List (List UInt8)} {N : Nat} (ho : OkN ls) {pre : List (Lab N)} (hsq : Seq (nm ls) (labs pre)) (hpl : Placed pre) {c : Nat} (hlen : pre.length = c + 1) :
    (nm ls).extract ((pre.getLast?.map (fun x => x.1.1)).getD 0) (nm ls).size = nm (ls.drop c) := by
  rcases List.eq_nil_or_concat pre with rfl | ⟨q, x, rfl⟩
  · simp at hlen
  · rw [List.concat_eq_append] at *
    have hq : q.length = c := by simpa using hlen
    obtain ⟨r, hr⟩ := hsq.of_name ho
    rw [labs_snoc, List.append_assoc] at hr
    have hx : x.1.1 = (flat (labs q)).length := by have := hpl q.length (by simp); simpa using this
    have hd : ls.drop c = [x.1.2.data.toList] ++ r := by
      rw [← hr, List.drop_append_of_le_length (by simp [labs]; omega), List.drop_of_length_le (by simp [labs]; omega)]; rfl
    rw [hd]
    simp only [List.getLast?_append, List.getLast?_singleton, Option.some_or, Option.map_some, Option.getD_some]
    rw [hx, ← hr]
    exact flat_drop_nm _ _

set_option maxRecDepth 100000 in
set_option maxHeartbeats 1000000 in
theorem withoutFirst_in (ls : List (List UInt8)) (ho : OkN ls) (c : Nat) (hc : c ≤ ls.length) (w : World) :
    Calls Tryz.prog 117 #[.string (nm ls), .int .i64 c] w fun e w' => e = .returned (.string (nm (ls.drop c))) ∧ Below w.heap.size w w' := by
  have hsz : (nm ls).size ≤ 255 := by rw [nm_size]; have := ho.len; omega
  have hcnt := ho.count
  refine (callsIn_wide (n := 5)).1 ?_
  refine callsIn_of_wp_marks Tryz.func117 rfl trivial ?_ rfl
  simp only [Tryz.ntmps117, List.size_toArray, List.length_cons, List.length_nil, Nat.reduceAdd, Nat.reduceSub, Array.replicate_succ, Array.replicate_zero, List.push_toArray, List.append_toArray, List.nil_append, List.cons_append]
  gi_wp2_with (refine ⟨trivial, ?_⟩; gi_at_call 26; refine (callsIn_wide.2 (eachLabel_in _ _)).mono ?_; rintro e w' ⟨rfl, rfl⟩)
  obtain ⟨W0, hW0⟩ : ∃ W0, ((((w.alloc (.cells #[.string (nm ls)] 9)).alloc (.cells #[.int .i64 (c : Int)] 3)).alloc (.cells #[.string ⟨#[]⟩] 9)).alloc (.cells #[.string (nm ls)] 9)) = W0 := ⟨_, rfl⟩
  have hsz0 : W0.heap.size = w.heap.size + 4 := by rw [← hW0]; simp
  have hx0 : Boxed W0 w.heap.size 9 (.string (nm ls)) := by rw [← hW0]; exact (((Boxed.new _ _ _).alloc _).alloc _).alloc _
  have hx1 : Boxed W0 (w.heap.size + 1) 3 (.int .i64 (c : Int)) := by
    rw [← hW0]
    have := ((Boxed.new (w.alloc (.cells #[.string (nm ls)] 9)) 3 (.int .i64 (c : Int))).alloc (.cells #[.string ⟨#[]⟩] 9)).alloc (.cells #[.string (nm ls)] 9)
    rwa [World.size_alloc] at this
  have hx2 : Boxed W0 (w.heap.size + 1 + 1) 9 (.string ⟨#[]⟩) := by
    rw [← hW0]
    have := (Boxed.new ((w.alloc (.cells #[.string (nm ls)] 9)).alloc (.cells #[.int .i64 (c : Int)] 3)) 9 (.string ⟨#[]⟩)).alloc (.cells #[.string (nm ls)] 9)
    rwa [World.size_alloc, World.size_alloc] at this
  have hx3 : Boxed W0 (w.heap.size + 1 + 1 + 1) 9 (.string (nm ls)) := by
    rw [← hW0]
    have := (Boxed.new (((w.alloc (.cells #[.string (nm ls)] 9)).alloc (.cells #[.int .i64 (c : Int)] 3)).alloc (.cells #[.string ⟨#[]⟩] 9)) 9 (.string (nm ls)))
    rwa [World.size_alloc, World.size_alloc, World.size_alloc] at this
  have hB0 : Below w.heap.size w W0 := by
    rw [← hW0]; exact ((((Below.refl _ _).alloc (Nat.le_refl _) _).alloc (by simp) _).alloc (by simp; omega) _).alloc (by simp; omega) _
  rw [hW0]
  clear hW0
  refine wpIn_rangeFunc_ownF rfl (by omega) (gf := 46) (lb := #[.pointer (some ⟨w.heap.size + 1 + 1 + 1, 0, none⟩)]) rfl trivial (enters_of Tryz.func46 (by kernel_rfl) rfl)
    (eachLabel_stops Fence.wide (5 - 1) trivial rfl (by omega) (w.heap.size + 1 + 1 + 1) (nm ls) hsz _ hx3.lt hx3.cell) KeepCell.t KeepCell.b (Below.refl _ _) (fun _ => rfl)
    (fun pre W => (Boxed W w.heap.size 9 (.string (nm ls)) ∧ Boxed W (w.heap.size + 1) 3 (.int .i64 ((c : Int) - pre.length)) ∧ Boxed W (w.heap.size + 1 + 1) 9 (.string ⟨#[]⟩) ∧ pre.length ≤ c) ∧ Below w.heap.size w W)
    (fun j pre W => (Boxed W (w.heap.size + 1 + 1) 9 (.string ((nm ls).extract ((pre.getLast?.map (fun x => x.1.1)).getD 0) (nm ls).size)) ∧ (j = .ret ∧ pre.length = c + 1)) ∧ Below w.heap.size w W)
    ?hI ?hIx ?h0 (fun x => { tmps := #[.string (nm ls), .int .i64 (c : Int), .pointer (some ⟨w.heap.size, 0, none⟩), .pointer (some ⟨w.heap.size + 1, 0, none⟩), .pointer (some ⟨w.heap.size + 1 + 1, 0, none⟩), .int .i64 (x.1.1 : Int), .string (nm ls), .func (.func 46) #[] #[.pointer (some ⟨w.heap.size + 1 + 1 + 1, 0, none⟩)], .int .i64 (x.1.1 : Int), .string x.1.2, undef, undef, undef, undef, undef, undef, undef, undef], defers := [] }) ?assign ?body ?done ?stop
  case hI =>
    exact OwnFrom.and (OwnFrom.and (Own.from (boxed_own _ _ _) _) (OwnFrom.and (Own.from (boxed_own _ _ _) _) (OwnFrom.and (Own.from (boxed_own _ _ _) _) (ownFrom_pure _ _)))) (ownFrom_below (Nat.le_refl _) (by omega))
  case hIx =>
    intro j
    exact OwnFrom.and (OwnFrom.and (Own.from (boxed_own _ _ _) _) (ownFrom_pure _ _)) (ownFrom_below (Nat.le_refl _) (by omega))
  case h0 =>
    exact ⟨⟨hx0, by simpa using hx1, hx2, Nat.zero_le _⟩, hB0⟩
  case assign =>
    intro l x W K hK
    gi_wp2
    exact hK
  case body =>
    rintro l pre x W ⟨⟨h0, h1, h2, hle⟩, hB⟩ _
    clear hx0 hx1 hx2 hx3 hB0
    have hxl := x.2.1
    have hc0 := h0.cell
    have hc1 := h1.cell
    have hf1 := h1.frozen
    have hlt0 := h0.lt
    have hlt1 := h1.lt
    have hlt2 := h2.lt
    by_cases he : pre.length = c
    · have hz : (((c : Int) - (pre.length : Int)) == 0) = true := by simp; omega
      have hsx : ((nm ls).extract x.1.1 (nm ls).size).size ≤ 255 := by rw [ByteArray.size_extract]; omega
      have HE := Hid.mk he
      clear he hc1 hle
      have hc1 : W.cell? ⟨w.heap.size + 1, 0, none⟩ = some (.int .i64 ((c : Int) - pre.length)) := h1.cell
      gi_wp2_with (refine ⟨trivial, ?_⟩; gi_at_call 96; refine (CallsIn.inRound l (callsIn_wide.2 (clone_in _ _ (Nat.le_trans hsx (by omega))))).mono ?_; rintro e w1 ⟨rfl, hb1⟩; have hy2 : Boxed w1 (w.heap.size + 1 + 1) 9 (.string ⟨#[]⟩) := (hb1.block _ hlt2).trans h2; have hcy := hy2.cell; have hfy := hy2.frozen)
      refine ⟨(keepsOthers_below hb1).trans (KeepsOthers.setCell _ _ _), ⟨?_, rfl, by simp; exact HE.out⟩, (hB.trans (hb1.mono hB.size)).setCell (p := ⟨w.heap.size + 1 + 1, 0, none⟩) (by simp; omega) _⟩
      have := hy2.set (.string ((nm ls).extract x.1.1 (nm ls).size))
      simpa using this
    · have hz : (((c : Int) - (pre.length : Int)) == 0) = false := by simp; omega
      have hlt : pre.length < c := by omega
      clear he
      gi_wp2
      refine ⟨KeepsOthers.setCell _ _ _, KeepCell.setCell _ _ (by omega), ⟨h0.other (by omega) _, ?_, h2.other (by omega) _, by simp; omega⟩, hB.setCell (p := ⟨w.heap.size + 1, 0, none⟩) (by simp) _⟩
      have := h1.set (.int .i64 ((c : Int) - ((pre ++ [x]).length : Nat)))
      have e : ((c : Int) - ((pre ++ [x]).length : Nat)) = (c : Int) - pre.length - 1 := by simp; omega
      rw [e] at this ⊢
      exact this
  case done =>
    rintro D ys W hD ⟨hsq, hpl, hen⟩ ⟨⟨h0, h1, h2, hle⟩, hB⟩ hK
    have hys : labs ys = ls := hsq.all_name ho hen
    have hlen : ls.length = ys.length := by have := congrArg List.length hys; simp [labs] at this; omega
    have hdr : Hid (ls.drop c = []) := List.drop_eq_nil_of_le (by omega)
    clear hys hlen hle
    have hc2 := h2.cell
    have hf2 := h2.frozen
    gi_wp2
    have hK' := (KeepsOthers.setCell W ⟨w.heap.size + 1 + 1, 0, none⟩ (.string ⟨#[0]⟩)).same D _ hK rfl
    refine ⟨by simp, .inl ⟨_, _, rfl, run_takeDeferred hK', ?_⟩⟩
    have hc5 := cell_kept (World.cell?_setCell_same' W ⟨w.heap.size + 1 + 1, 0, none⟩ (.string ⟨#[0]⟩) (by rw [hc2]; rfl)) (grownBy_putObj' _ D (.deferred none)) (fun r e => by cases e; exact ⟨_, hK', rfl⟩)
    refine ⟨.string ⟨#[0]⟩, ?_, by rw [hdr.out]; rfl, (hB.setCell (p := ⟨w.heap.size + 1 + 1, 0, none⟩) (by simp; omega) _).trans (belowK_b (w := w) (Nat.le_refl _) _ D _ _ (by omega) hK' rfl rfl)⟩
    simp [results, Tryz.f117, go_sem, hc5]
  case stop =>
    rintro D j pre W hD ⟨hsq, hpl⟩ ⟨⟨h2, rfl, hlen⟩, hB⟩ hK
    have hv := stop_drop ho hsq hpl hlen
    rw [hv] at h2
    gi_wp2
    refine ⟨by simp, .inl ⟨_, _, rfl, run_takeDeferred hK, ?_⟩⟩
    have hc5 := cell_kept h2.cell (grownBy_putObj' _ D (.deferred none)) (fun r e => by cases e; exact ⟨_, hK, rfl⟩)
    refine ⟨.string (nm (ls.drop c)), ?_, rfl, hB.trans (belowK_b (w := w) (Nat.le_refl _) W D _ _ (by omega) hK rfl rfl)⟩
    simp [results, Tryz.f117, go_sem, hc5]

end Go.Proofs.YtaiakpigljcjbaaGreatDoor

/- Parent, Common, Child, Moved. -/
namespace Go.Proofs.YtaiakpigljcjbaaGreatDoor
set_option linter.unusedVariables false
open Go.RowKit

theorem empty_ba : (⟨#[]⟩ : ByteArray) = ⟨([] : List UInt8).toArray⟩ := rfl

/-! ### Common -/
def comN (a b : List (List UInt8)) : List (List UInt8) := a.drop (a.length - shEnd (lowN a) (lowN b))

theorem cpl_le : ∀ (a b : List (List UInt8)), cpl a b ≤ a.length ∧ cpl a b ≤ b.length
  | [], b => by simp [cpl]
  | a :: a', [] => by simp [cpl]
  | a :: a', b :: b' => by
    have := cpl_le a' b'
    unfold cpl
    split <;> simp <;> omega
theorem shEnd_le (a b : List (List UInt8)) : shEnd a b ≤ a.length ∧ shEnd a b ≤ b.length := by
  have := cpl_le a.reverse b.reverse; simpa [shEnd] using this

set_option maxHeartbeats 400000 in
theorem common_yes (a b : List (List UInt8)) (ha : OkN a) (hb : OkN b) (w : World) :
    Calls Tryz.prog 94 #[.string (nm a), .string (nm b)] w fun e w' => e = .returned (.tuple #[.string (nm (comN a b)), .int .i64 0]) ∧ Below w.heap.size w w' := by
  have hca := ha.low.count
  have hcb := hb.low.count
  have hla := lowN_length a
  have HL := Hid.mk hla
  have hle := (shEnd_le (lowN a) (lowN b)).1
  have hle' : shEnd (lowN a) (lowN b) ≤ a.length := by rw [← hla]; exact hle
  have hw1 : (((lowN a).length : Int) - (shEnd (lowN a) (lowN b) : Int)) = ((a.length - shEnd (lowN a) (lowN b) : Nat) : Int) := by rw [hla]; omega
  have HW := Hid.mk hw1
  clear hla hle hw1
  go_enter Tryz.func94, Tryz.ntmps94
  go_wp2_with fail
  refine (right_yes a ha _).mono ?_
  rintro e w1 ⟨rfl, hb1⟩
  go_wp2_with fail
  refine (right_yes b hb _).mono ?_
  rintro e w2 ⟨rfl, hb2⟩
  go_wp2_with fail
  refine (lowered_nm a ha _).mono ?_
  rintro e w3 ⟨rfl, hb3⟩
  go_wp2_with fail
  refine (labelsOf_in (lowN a) ha.low _).mono ?_
  rintro e w4 ⟨⟨va, rfl, hva⟩, hb4⟩
  go_wp2_with fail
  refine (lowered_nm b hb _).mono ?_
  rintro e w5 ⟨rfl, hb5⟩
  go_wp2_with fail
  refine (labelsOf_in (lowN b) hb.low _).mono ?_
  rintro e w6 ⟨⟨vb, rfl, hvb⟩, hb6⟩
  have hva6 := (hva.below (bthen hb5 hb6)).mono (bthen hb5 hb6).size
  clear hva
  obtain ⟨q, c, hq⟩ := hva6.form
  subst hq
  go_wp2_with fail
  refine (sharedEnd_in _ _ (lowN a) (lowN b) _ _ (by omega) (by omega) hva6 hvb).mono ?_
  rintro e w7 ⟨rfl, hb7⟩
  clear hva6 hvb
  have hle2 : shEnd (lowN a) (lowN b) ≤ (lowN a).length := by rw [HL.out]; exact hle'
  go_wp2_with fail
  rw [HW.out]
  refine (withoutFirst_in a ha _ (by omega) _).mono ?_
  rintro e w8 ⟨rfl, hb8⟩
  go_wp2
  go_ret2
  exact ⟨rfl, bthen hb1 (bthen hb2 (bthen hb3 (bthen hb4 (bthen hb5 (bthen hb6 (bthen hb7 hb8))))))⟩

theorem common_no (s t : ByteArray) (hs : s.size ≤ maxLen) (ht : t.size ≤ maxLen) (h : ¬ (IsName s ∧ IsName t)) (w : World) :
    Calls Tryz.prog 94 #[.string s, .string t] w fun e w' => e = .returned (.tuple #[.string ⟨#[]⟩, .int .i64 2]) ∧ Below w.heap.size w w' := by
  by_cases h1 : IsName s
  · have h2 : ¬ IsName t := fun h2 => h ⟨h1, h2⟩
    obtain ⟨a, ha, rfl⟩ := h1
    go_enter Tryz.func94, Tryz.ntmps94
    go_wp2_with fail
    refine (right_yes a ha _).mono ?_
    rintro e w1 ⟨rfl, hb1⟩
    go_wp2_with fail
    refine (right_no t h2 ht _).mono ?_
    rintro e w2 ⟨rfl, hb2⟩
    go_wp2
    go_ret2
    exact ⟨rfl, bthen hb1 hb2⟩
  · go_enter Tryz.func94, Tryz.ntmps94
    go_wp2_with fail
    refine (right_no s h1 hs _).mono ?_
    rintro e w1 ⟨rfl, hb1⟩
    go_wp2
    go_ret2
    exact ⟨rfl, hb1⟩

/-! ### Parent -/
theorem parent_no (s : ByteArray) (hs : s.size ≤ maxLen) (h : ¬ IsName s) (w : World) :
    Calls Tryz.prog 99 #[.string s] w fun e w' => e = .returned (.tuple #[.string ⟨#[]⟩, .int .i64 2]) ∧ Below w.heap.size w w' := by
  go_enter Tryz.func99, Tryz.ntmps99
  go_wp2_with fail
  refine (right_no s h hs _).mono ?_
  rintro e w1 ⟨rfl, hb1⟩
  go_wp2
  go_ret2
  exact ⟨rfl, hb1⟩

theorem okNil : OkN [] := ⟨by simp, by simp [flat]⟩
theorem parent_root (w : World) :
    Calls Tryz.prog 99 #[.string (nm [])] w fun e w' => e = .returned (.tuple #[.string ⟨#[]⟩, .int .i64 1]) ∧ Below w.heap.size w w' := by
  have hr : ((nm []).toList == [0]) = true := by rw [ByteArray.toList_eq]; rfl
  go_enter Tryz.func99, Tryz.ntmps99
  go_wp2_with fail
  refine (right_yes [] okNil _).mono ?_
  rintro e w1 ⟨rfl, hb1⟩
  go_wp2
  go_ret2
  exact ⟨rfl, hb1⟩

theorem nm_not_root {l : List UInt8} {ls : List (List UInt8)} (h : OkN (l :: ls)) : ((nm (l :: ls)).toList == [0]) = false := by
  rw [beq_eq_false_iff_ne, ByteArray.toList_eq, nm_list]
  intro e
  have := congrArg List.length e
  have h1 := h.lab l (by simp)
  simp [nmL, flat] at this

theorem parent_yes (l : List UInt8) (ls : List (List UInt8)) (ho : OkN (l :: ls)) (w : World) :
    Calls Tryz.prog 99 #[.string (nm (l :: ls))] w fun e w' => e = .returned (.tuple #[.string (nm ls), .int .i64 0]) ∧ Below w.heap.size w w' := by
  have hr := nm_not_root ho
  go_enter Tryz.func99, Tryz.ntmps99
  go_wp2_with fail
  refine (right_yes (l :: ls) ho _).mono ?_
  rintro e w1 ⟨rfl, hb1⟩
  go_wp2_with fail
  refine (withoutFirst_in (l :: ls) ho 1 (by simp) _).mono ?_
  rintro e w2 ⟨rfl, hb2⟩
  go_wp2
  go_ret2
  exact ⟨rfl, bthen hb1 hb2⟩

/-! ### Moved -/
/-- the labels of a ahead of those that it has of b, and behind them c. -/
def mvN (a b c : List (List UInt8)) : List (List UInt8) := a.take (a.length - b.length) ++ c

/-! ### what 'under' says of the labels -/
theorem cpl_full : ∀ (a b : List (List UInt8)), cpl a b = b.length ↔ b <+: a
  | [], [] => by simp [cpl]
  | [], b :: b' => by simp [cpl]
  | a :: a', [] => by simp [cpl]
  | a :: a', b :: b' => by
    unfold cpl
    split
    · rename_i e; subst e
      rw [List.cons_prefix_cons, List.length_cons, Nat.add_right_cancel_iff, cpl_full a' b']; simp
    · rename_i e
      rw [List.cons_prefix_cons]
      constructor
      · intro h; simp at h
      · intro h; exact absurd h.1.symm e

theorem undB_iff (a b : List (List UInt8)) : undB a b = true ↔ lowN b <:+ lowN a := by
  rw [undB, decide_eq_true_iff, shEnd, ← List.reverse_prefix, ← cpl_full, List.length_reverse, lowN_length]

theorem lowN_append (a b : List (List UInt8)) : lowN (a ++ b) = lowN a ++ lowN b := by simp [lowN]

/-- where a is under b: its own labels, and those that are b's. -/
theorem und_split {a b : List (List UInt8)} (h : undB a b = true) : b.length ≤ a.length ∧ lowN (a.drop (a.length - b.length)) = lowN b := by
  obtain ⟨p, hp⟩ := (undB_iff a b).1 h
  have hl : p.length + b.length = a.length := by have := congrArg List.length hp; simpa [lowN_length] using this
  refine ⟨by omega, ?_⟩
  have : lowN (a.drop (a.length - b.length)) = (lowN a).drop (a.length - b.length) := by simp [lowN]
  rw [this, ← hp, List.drop_append_of_le_length (by omega), List.drop_of_length_le (by omega), List.nil_append]

theorem und_bytes {a b : List (List UInt8)} (c : List (List UInt8)) (h : undB a b = true) :
    (nm a).extract 0 ((nm a).size - (nm b).size) ++ nm c = nm (mvN a b c) ∧ (nm a).size - (nm b).size = (flat (a.take (a.length - b.length))).length ∧ (nm b).size ≤ (nm a).size := by
  obtain ⟨h1, h2⟩ := und_split h
  have h3 : (flat (a.drop (a.length - b.length))).length = (flat b).length := by rw [← flat_low_length, h2, flat_low_length]
  have h4 : flat a = flat (a.take (a.length - b.length)) ++ flat (a.drop (a.length - b.length)) := by rw [← flat_append, List.take_append_drop]
  have h5 : (nm a).size - (nm b).size = (flat (a.take (a.length - b.length))).length := by
    rw [nm_size, nm_size, h4, List.length_append, h3]; omega
  refine ⟨?_, h5, by rw [nm_size, nm_size, h4, List.length_append, h3]; omega⟩
  apply ba_ext
  rw [ByteArray.data_append, Array.toList_append, Lib.extract_data, h5, nm_list, nm_list, nm_list, mvN, nmL, h4, List.append_assoc, Nat.sub_zero, List.drop_zero, List.take_left, nmL, nmL, flat_append, List.append_assoc]

end Go.Proofs.YtaiakpigljcjbaaGreatDoor

/- cmp.Compare of texts; compareStrays; Compare. -/
namespace Go.Proofs.YtaiakpigljcjbaaGreatDoor
set_option linter.unusedVariables false
open Go.RowKit

def cmpL (a b : List UInt8) : Int := if Op.bytesLess a b = true then -1 else if a = b then 0 else 1

theorem cmpStr_in (x y : ByteArray) (w : World) :
    Calls Tryz.prog 45 #[.string x, .string y] w fun e w' => e = .returned (.int .i64 (cmpL x.data.toList y.data.toList)) ∧ w' = w := by
  rw [← ByteArray.toList_eq, ← ByteArray.toList_eq]
  by_cases h1 : Op.bytesLess x.toList y.toList = true
  · have hp : cmpL x.toList y.toList = -1 := by simp [cmpL, h1]
    rw [hp]; clear hp
    go_enter Tryz.func45, Tryz.ntmps45
    go_wp2_with (go_at_call 65; refine (isNaNStr_in _ _).mono ?_; rintro e w' ⟨rfl, rfl⟩)
    go_ret
    exact ⟨rfl, rfl⟩
  · have h1' : Op.bytesLess x.toList y.toList = false := by simpa using h1
    by_cases h2 : x.toList = y.toList
    · have hp : cmpL x.toList y.toList = 0 := by unfold cmpL; rw [if_neg h1, if_pos h2]
      rw [hp]; clear hp h1
      have h2' : (x.toList == y.toList) = true := by simpa using h2
      clear h2
      go_enter Tryz.func45, Tryz.ntmps45
      go_wp2_with (go_at_call 65; refine (isNaNStr_in _ _).mono ?_; rintro e w' ⟨rfl, rfl⟩)
      go_ret
      exact ⟨rfl, rfl⟩
    · have hp : cmpL x.toList y.toList = 1 := by simp [cmpL, h1', h2]
      rw [hp]; clear hp h1
      have h2' : (x.toList == y.toList) = false := by simpa using h2
      clear h2
      go_enter Tryz.func45, Tryz.ntmps45
      go_wp2_with (go_at_call 65; refine (isNaNStr_in _ _).mono ?_; rintro e w' ⟨rfl, rfl⟩)
      go_ret
      exact ⟨rfl, rfl⟩

/-! ### of which one is no name -/
theorem strays_left (a : List (List UInt8)) (ha : OkN a) (t : ByteArray) (w : World) :
    Calls Tryz.prog 41 #[.string (nm a), .string t] w fun e w' => e = .returned (.int .i64 1) ∧ Below w.heap.size w w' := by
  go_enter Tryz.func41, Tryz.ntmps41
  go_wp2_with fail
  refine (right_yes a ha _).mono ?_
  rintro e w1 ⟨rfl, hb1⟩
  go_wp2
  go_ret
  exact ⟨rfl, hb1⟩
theorem strays_right (s : ByteArray) (hs : s.size ≤ maxLen) (hn : ¬ IsName s) (b : List (List UInt8)) (hb : OkN b) (w : World) :
    Calls Tryz.prog 41 #[.string s, .string (nm b)] w fun e w' => e = .returned (.int .i64 (-1)) ∧ Below w.heap.size w w' := by
  go_enter Tryz.func41, Tryz.ntmps41
  go_wp2_with fail
  refine (right_no s hn hs _).mono ?_
  rintro e w1 ⟨rfl, hb1⟩
  go_wp2_with fail
  refine (right_yes b hb _).mono ?_
  rintro e w2 ⟨rfl, hb2⟩
  go_wp2
  go_ret
  exact ⟨rfl, bthen hb1 hb2⟩
theorem strays_both (s t : ByteArray) (hs : s.size ≤ maxLen) (hn : ¬ IsName s) (ht : t.size ≤ maxLen) (hm : ¬ IsName t) (w : World) :
    Calls Tryz.prog 41 #[.string s, .string t] w fun e w' => e = .returned (.int .i64 (cmpL s.data.toList t.data.toList)) ∧ Below w.heap.size w w' := by
  go_enter Tryz.func41, Tryz.ntmps41
  go_wp2_with fail
  refine (right_no s hn hs _).mono ?_
  rintro e w1 ⟨rfl, hb1⟩
  go_wp2_with fail
  refine (right_no t hm ht _).mono ?_
  rintro e w2 ⟨rfl, hb2⟩
  go_wp2_with fail
  refine (cmpStr_in s t _).mono ?_
  rintro e w3 ⟨rfl, rfl⟩
  go_wp2
  go_ret
  exact ⟨rfl, bthen hb1 hb2⟩

/-- the order of two lists of labels, the last label first. -/
def cmpR : List (List UInt8) → List (List UInt8) → Int
  | [], [] => 0
  | [], _ :: _ => -1
  | _ :: _, [] => 1
  | x :: xs, y :: ys => if x = y then cmpR xs ys else cmpL x y
def cmpN (a b : List (List UInt8)) : Int := cmpR (lowN a).reverse (lowN b).reverse

theorem cmpR_short : ∀ (a b : List (List UInt8)), cpl a b = a.length ∨ cpl a b = b.length → cmpR a b = cmpI a.length b.length
  | [], [], _ => by simp [cmpR, cmpI]
  | [], b :: b', _ => by simp [cmpR, cmpI] <;> omega
  | a :: a', [], _ => by simp [cmpR, cmpI] <;> omega
  | a :: a', b :: b', h => by
    unfold cpl at h
    split at h
    · rename_i e
      subst e
      have := cmpR_short a' b' (by simpa using h)
      simp only [cmpR, if_true, this, cmpI, List.length_cons]
      split <;> split <;> (try split) <;> omega
    · simp at h
theorem cmpR_diff : ∀ (a b : List (List UInt8)) (h1 : cpl a b < a.length) (h2 : cpl a b < b.length), cmpR a b = cmpL a[cpl a b] b[cpl a b]
  | [], b, h1, _ => by simp at h1
  | a :: a', [], _, h2 => by simp at h2
  | a :: a', b :: b', h1, h2 => by
    by_cases e : a = b
    · subst e
      have hc : cpl (a :: a') (a :: b') = cpl a' b' + 1 := by simp [cpl]
      have := cmpR_diff a' b' (by rw [hc] at h1; simpa using h1) (by rw [hc] at h2; simpa using h2)
      simp only [cmpR, if_true, this, hc, List.getElem_cons_succ]
    · have hc : cpl (a :: a') (b :: b') = 0 := by simp [cpl, e]
      simp only [cmpR, e, if_false, hc, List.getElem_cons_zero]

theorem cmpN_short {a b : List (List UInt8)} (h : shEnd (lowN a) (lowN b) = (lowN a).length ∨ shEnd (lowN a) (lowN b) = (lowN b).length) : cmpN a b = cmpI (lowN a).length (lowN b).length := by
  have := cmpR_short (lowN a).reverse (lowN b).reverse (by simpa [shEnd] using h)
  simpa [cmpN] using this
theorem cmpN_diff {a b : List (List UInt8)} (h1 : shEnd (lowN a) (lowN b) < (lowN a).length) (h2 : shEnd (lowN a) (lowN b) < (lowN b).length) :
    cmpN a b = cmpL ((lowN a)[(lowN a).length - 1 - shEnd (lowN a) (lowN b)]'(by omega)) ((lowN b)[(lowN b).length - 1 - shEnd (lowN a) (lowN b)]'(by omega)) := by
  have := cmpR_diff (lowN a).reverse (lowN b).reverse (by simpa [shEnd] using h1) (by simpa [shEnd] using h2)
  rw [List.getElem_reverse, List.getElem_reverse] at this
  exact this

set_option maxHeartbeats 1000000 in
theorem compare_yes (a b : List (List UInt8)) (ha : OkN a) (hb : OkN b) (w : World) :
    Calls Tryz.prog 25 #[.string (nm a), .string (nm b)] w fun e w' => e = .returned (.int .i64 (cmpN a b)) ∧ Below w.heap.size w w' := by
  have hca := ha.low.count
  have hcb := hb.low.count
  have hle := shEnd_le (lowN a) (lowN b)
  by_cases hA : shEnd (lowN a) (lowN b) = (lowN a).length
  · have HF := Hid.mk (cmpN_short (.inl hA))
    have ht : ((shEnd (lowN a) (lowN b) : Int) == ((lowN a).length : Int)) = true := by rw [hA]; simp
    clear hA hle
    go_enter Tryz.func25, Tryz.ntmps25
    go_wp2_with fail
    refine (right_yes a ha _).mono ?_
    rintro e w1 ⟨rfl, hb1⟩
    go_wp2_with fail
    refine (right_yes b hb _).mono ?_
    rintro e w2 ⟨rfl, hb2⟩
    go_wp2_with fail
    refine (lowered_nm a ha _).mono ?_
    rintro e w3 ⟨rfl, hb3⟩
    go_wp2_with fail
    refine (labelsOf_in (lowN a) ha.low _).mono ?_
    rintro e w4 ⟨⟨va, rfl, hva⟩, hb4⟩
    go_wp2_with fail
    refine (lowered_nm b hb _).mono ?_
    rintro e w5 ⟨rfl, hb5⟩
    go_wp2_with fail
    refine (labelsOf_in (lowN b) hb.low _).mono ?_
    rintro e w6 ⟨⟨vb, rfl, hvb⟩, hb6⟩
    have hva6 := (hva.below (bthen hb5 hb6)).mono (bthen hb5 hb6).size
    clear hva
    obtain ⟨q, c, hq⟩ := hva6.form
    subst hq
    obtain ⟨q', c', hq'⟩ := hvb.form
    subst hq'
    go_wp2_with fail
    refine (sharedEnd_in _ _ (lowN a) (lowN b) _ _ (by omega) (by omega) hva6 hvb).mono ?_
    rintro e w7 ⟨rfl, hb7⟩
    clear hva6 hvb
    go_wp2_with fail
    refine (cmpInt_in _ _ _).mono ?_
    rintro e w8 ⟨rfl, rfl⟩
    go_wp2
    go_ret
    exact ⟨by rw [HF.out]; rfl, bthen hb1 (bthen hb2 (bthen hb3 (bthen hb4 (bthen hb5 (bthen hb6 hb7)))))⟩
  · by_cases hB : shEnd (lowN a) (lowN b) = (lowN b).length
    · have HF := Hid.mk (cmpN_short (.inr hB))
      have ht : ((shEnd (lowN a) (lowN b) : Int) == ((lowN a).length : Int)) = false := by rw [beq_eq_false_iff_ne]; omega
      have ht2 : ((shEnd (lowN a) (lowN b) : Int) == ((lowN b).length : Int)) = true := by rw [hB]; simp
      clear hA hB hle
      go_enter Tryz.func25, Tryz.ntmps25
      go_wp2_with fail
      refine (right_yes a ha _).mono ?_
      rintro e w1 ⟨rfl, hb1⟩
      go_wp2_with fail
      refine (right_yes b hb _).mono ?_
      rintro e w2 ⟨rfl, hb2⟩
      go_wp2_with fail
      refine (lowered_nm a ha _).mono ?_
      rintro e w3 ⟨rfl, hb3⟩
      go_wp2_with fail
      refine (labelsOf_in (lowN a) ha.low _).mono ?_
      rintro e w4 ⟨⟨va, rfl, hva⟩, hb4⟩
      go_wp2_with fail
      refine (lowered_nm b hb _).mono ?_
      rintro e w5 ⟨rfl, hb5⟩
      go_wp2_with fail
      refine (labelsOf_in (lowN b) hb.low _).mono ?_
      rintro e w6 ⟨⟨vb, rfl, hvb⟩, hb6⟩
      have hva6 := (hva.below (bthen hb5 hb6)).mono (bthen hb5 hb6).size
      clear hva
      obtain ⟨q, c, hq⟩ := hva6.form
      subst hq
      obtain ⟨q', c', hq'⟩ := hvb.form
      subst hq'
      go_wp2_with fail
      refine (sharedEnd_in _ _ (lowN a) (lowN b) _ _ (by omega) (by omega) hva6 hvb).mono ?_
      rintro e w7 ⟨rfl, hb7⟩
      clear hva6 hvb
      go_wp2_with fail
      refine (cmpInt_in _ _ _).mono ?_
      rintro e w8 ⟨rfl, rfl⟩
      go_wp2
      go_ret
      exact ⟨by rw [HF.out]; rfl, bthen hb1 (bthen hb2 (bthen hb3 (bthen hb4 (bthen hb5 (bthen hb6 hb7)))))⟩
    · have hla : shEnd (lowN a) (lowN b) < (lowN a).length := by omega
      have hlb : shEnd (lowN a) (lowN b) < (lowN b).length := by omega
      have HF := Hid.mk (cmpN_diff hla hlb)
      have ht : ((shEnd (lowN a) (lowN b) : Int) == ((lowN a).length : Int)) = false := by rw [beq_eq_false_iff_ne]; omega
      have ht2 : ((shEnd (lowN a) (lowN b) : Int) == ((lowN b).length : Int)) = false := by rw [beq_eq_false_iff_ne]; omega
      clear hA hB hle
      go_enter Tryz.func25, Tryz.ntmps25
      go_wp2_with fail
      refine (right_yes a ha _).mono ?_
      rintro e w1 ⟨rfl, hb1⟩
      go_wp2_with fail
      refine (right_yes b hb _).mono ?_
      rintro e w2 ⟨rfl, hb2⟩
      go_wp2_with fail
      refine (lowered_nm a ha _).mono ?_
      rintro e w3 ⟨rfl, hb3⟩
      go_wp2_with fail
      refine (labelsOf_in (lowN a) ha.low _).mono ?_
      rintro e w4 ⟨⟨va, rfl, hva⟩, hb4⟩
      go_wp2_with fail
      refine (lowered_nm b hb _).mono ?_
      rintro e w5 ⟨rfl, hb5⟩
      go_wp2_with fail
      refine (labelsOf_in (lowN b) hb.low _).mono ?_
      rintro e w6 ⟨⟨vb, rfl, hvb⟩, hb6⟩
      have hva6 := (hva.below (bthen hb5 hb6)).mono (bthen hb5 hb6).size
      clear hva
      obtain ⟨ga, ca, hva, hga, hcla⟩ : ∃ g cap, va = .slice (some ⟨g, 0, none⟩) (lowN a).length cap ∧ g < w6.heap.size ∧ ∀ j (h : j < (lowN a).length), w6.cell? ⟨g, j, none⟩ = some (strV (lowN a)[j]) := by
        rcases hva6 with ⟨_, h⟩ | h
        · rw [h] at hla; simp at hla
        · exact h
      obtain ⟨gb, cb, hvb', hgb, hclb⟩ : ∃ g cap, vb = .slice (some ⟨g, 0, none⟩) (lowN b).length cap ∧ g < w6.heap.size ∧ ∀ j (h : j < (lowN b).length), w6.cell? ⟨g, j, none⟩ = some (strV (lowN b)[j]) := by
        rcases hvb with ⟨_, h⟩ | h
        · rw [h] at hlb; simp at hlb
        · exact h
      subst hva
      subst hvb'
      go_wp2_with fail
      refine (sharedEnd_in _ _ (lowN a) (lowN b) _ _ (by omega) (by omega) hva6 hvb).mono ?_
      rintro e w7 ⟨rfl, hb7⟩
      clear hva6 hvb
      obtain ⟨x, hxl, hc1⟩ : ∃ x : ByteArray, Hid (x.data.toList = (lowN a)[(lowN a).length - 1 - shEnd (lowN a) (lowN b)]'(by omega)) ∧ w7.cell? ⟨ga, (lowN a).length - 1 - shEnd (lowN a) (lowN b), none⟩ = some (.string x) :=
        ⟨⟨((lowN a)[(lowN a).length - 1 - shEnd (lowN a) (lowN b)]'(by omega)).toArray⟩, rfl, (hb7.cell (p := ⟨ga, _, none⟩) hga).trans (hcla _ (by omega))⟩
      obtain ⟨y, hyl, hc2⟩ : ∃ x : ByteArray, Hid (x.data.toList = (lowN b)[(lowN b).length - 1 - shEnd (lowN a) (lowN b)]'(by omega)) ∧ w7.cell? ⟨gb, (lowN b).length - 1 - shEnd (lowN a) (lowN b), none⟩ = some (.string x) :=
        ⟨⟨((lowN b)[(lowN b).length - 1 - shEnd (lowN a) (lowN b)]'(by omega)).toArray⟩, rfl, (hb7.cell (p := ⟨gb, _, none⟩) hgb).trans (hclb _ (by omega))⟩
      clear hcla hclb
      have hw1 : IntKind.i64.wrap (((lowN a).length : Int) - 1) = ((lowN a).length : Int) - 1 := by rw [IntKind.wrap_i64]; omega
      have hw2 : IntKind.i64.wrap (((lowN a).length : Int) - 1 - (shEnd (lowN a) (lowN b) : Int)) = (((lowN a).length - 1 - shEnd (lowN a) (lowN b) : Nat) : Int) := by rw [IntKind.wrap_i64]; omega
      have hv1 : IntKind.i64.wrap (((lowN b).length : Int) - 1) = ((lowN b).length : Int) - 1 := by rw [IntKind.wrap_i64]; omega
      have hv2 : IntKind.i64.wrap (((lowN b).length : Int) - 1 - (shEnd (lowN a) (lowN b) : Int)) = (((lowN b).length - 1 - shEnd (lowN a) (lowN b) : Nat) : Int) := by rw [IntKind.wrap_i64]; omega
      have hi1 : (lowN a).length - 1 - shEnd (lowN a) (lowN b) < (lowN a).length := by omega
      have hi2 : (lowN b).length - 1 - shEnd (lowN a) (lowN b) < (lowN b).length := by omega
      go_wp2
      go_quiet ((go_at_call 45; exact Calls.quiet_of_same (cmpStr_in _ _ _)))
      go_wp2
      go_ret
      exact ⟨by rw [HF.out, hxl.out, hyl.out]; rfl, bthen hb1 (bthen hb2 (bthen hb3 (bthen hb4 (bthen hb5 (bthen hb6 (below_drewN hb7 _))))))⟩

theorem compare_no (s t : ByteArray) (hs : s.size ≤ maxLen) (ht : t.size ≤ maxLen) (h : ¬ (IsName s ∧ IsName t)) (r : Int)
    (hr : ∀ w, Calls Tryz.prog 41 #[.string s, .string t] w fun e w' => e = .returned (.int .i64 r) ∧ Below w.heap.size w w') (w : World) :
    Calls Tryz.prog 25 #[.string s, .string t] w fun e w' => e = .returned (.int .i64 r) ∧ Below w.heap.size w w' := by
  have HR : Hid _ := hr
  clear hr
  by_cases h1 : IsName s
  · have h2 : ¬ IsName t := fun h2 => h ⟨h1, h2⟩
    obtain ⟨a, ha, rfl⟩ := h1
    go_enter Tryz.func25, Tryz.ntmps25
    go_wp2_with fail
    refine (right_yes a ha _).mono ?_
    rintro e w1 ⟨rfl, hb1⟩
    go_wp2_with fail
    refine (right_no t h2 ht _).mono ?_
    rintro e w2 ⟨rfl, hb2⟩
    go_wp2_with fail
    refine (HR.out _).mono ?_
    rintro e w3 ⟨rfl, hb3⟩
    go_wp2
    go_ret
    exact ⟨rfl, bthen hb1 (bthen hb2 hb3)⟩
  · go_enter Tryz.func25, Tryz.ntmps25
    go_wp2_with fail
    refine (right_no s h1 hs _).mono ?_
    rintro e w1 ⟨rfl, hb1⟩
    go_wp2_with fail
    refine (HR.out _).mono ?_
    rintro e w3 ⟨rfl, hb3⟩
    go_wp2
    go_ret
    exact ⟨rfl, bthen hb1 hb3⟩

end Go.Proofs.YtaiakpigljcjbaaGreatDoor

/- What the shared end of two names says of 'under', 'common' and the order. -/
namespace Go.Proofs.YtaiakpigljcjbaaGreatDoor
set_option linter.unusedVariables false

theorem cpl_comm : ∀ (a b : List (List UInt8)), cpl a b = cpl b a
  | [], [] => rfl
  | [], _ :: _ => rfl
  | _ :: _, [] => rfl
  | a :: a', b :: b' => by
    simp only [cpl, cpl_comm a' b', eq_comm]
theorem cpl_take : ∀ (a b : List (List UInt8)), a.take (cpl a b) = b.take (cpl a b)
  | [], [] => rfl
  | [], _ :: _ => rfl
  | _ :: _, [] => rfl
  | a :: a', b :: b' => by
    by_cases h : a = b
    · subst h; simp [cpl, cpl_take a' b']
    · simp [cpl, h]
theorem cpl_ge : ∀ (a b c : List (List UInt8)), c <+: a → c <+: b → c.length ≤ cpl a b
  | _, _, [], _, _ => by simp
  | [], _, c :: c', h, _ => by simp at h
  | a :: a', [], c :: c', _, h => by simp at h
  | a :: a', b :: b', c :: c', h1, h2 => by
    obtain ⟨rfl, h1'⟩ := List.cons_prefix_cons.1 h1
    obtain ⟨rfl, h2'⟩ := List.cons_prefix_cons.1 h2
    have := cpl_ge a' b' c' h1' h2'
    simp [cpl, this]

theorem comN_rev (a b : List (List UInt8)) : (lowN (comN a b)).reverse = (lowN a).reverse.take (cpl (lowN a).reverse (lowN b).reverse) := by
  have h : lowN (comN a b) = (lowN a).drop (a.length - shEnd (lowN a) (lowN b)) := by simp [comN, lowN]
  have hl := (shEnd_le (lowN a) (lowN b)).1
  rw [lowN_length] at hl
  rw [h, List.reverse_drop, lowN_length, shEnd] at *
  congr 1; omega

theorem comN_len (a b : List (List UInt8)) : (comN a b).length = shEnd (lowN a) (lowN b) := by
  have hl := (shEnd_le (lowN a) (lowN b)).1
  rw [lowN_length] at hl
  simp [comN]; omega

theorem com_eq (a b : List (List UInt8)) : eqB (comN a b) (comN b a) = true := by
  rw [eqB, decide_eq_true_iff]
  apply List.reverse_inj.1
  rw [comN_rev, comN_rev, cpl_comm (lowN b).reverse, cpl_take]

theorem und_rev (a b : List (List UInt8)) : undB a b = true ↔ (lowN b).reverse <+: (lowN a).reverse := by
  rw [undB_iff, List.reverse_prefix]

theorem und_com_left (a b : List (List UInt8)) : undB a (comN a b) = true := by
  rw [und_rev, comN_rev]; exact List.take_prefix _ _
theorem und_com_right (a b : List (List UInt8)) : undB b (comN a b) = true := by
  rw [und_rev, comN_rev, cpl_take]; exact List.take_prefix _ _
theorem und_com_of (a b c : List (List UInt8)) (h1 : undB a c = true) (h2 : undB b c = true) : undB (comN a b) c = true := by
  rw [und_rev] at *
  rw [comN_rev]
  have := cpl_ge _ _ _ h1 h2
  exact List.prefix_take_iff.2 ⟨h1, this⟩
theorem und_iff_com (a b : List (List UInt8)) : undB a b = eqB b (comN a b) := by
  rw [Bool.eq_iff_iff]
  constructor
  · intro h
    rw [eqB, decide_eq_true_iff]
    apply List.reverse_inj.1
    rw [comN_rev]
    have h' := (und_rev a b).1 h
    have hk : cpl (lowN a).reverse (lowN b).reverse = (lowN b).reverse.length := (cpl_full _ _).2 h'
    rw [hk]; exact List.prefix_iff_eq_take.1 h'
  · intro h
    rw [eqB, decide_eq_true_iff] at h
    rw [und_rev, h, comN_rev]; exact List.take_prefix _ _
theorem und_len {a b : List (List UInt8)} (h : undB a b = true) : b.length ≤ a.length := (und_split h).1
theorem und_cmp {a b : List (List UInt8)} (h : undB a b = true) : 0 ≤ cmpN a b := by
  have hl := und_len h
  rw [undB, decide_eq_true_iff] at h
  rw [cmpN_short (.inr (by rw [h, lowN_length])), lowN_length, lowN_length, cmpI]
  split
  · omega
  · split <;> omega
theorem cmp_child (l : List UInt8) (a : List (List UInt8)) : cmpN (l :: a) a = 1 := by
  have h : undB (l :: a) a = true := by
    rw [undB_iff]; exact List.suffix_cons _ _
  rw [undB, decide_eq_true_iff] at h
  rw [cmpN_short (.inr (by rw [h, lowN_length])), lowN_length, lowN_length, cmpI, List.length_cons, if_neg (by omega), if_pos (by omega)]
theorem und_child (l : List UInt8) (a : List (List UInt8)) : undB (l :: a) a = true := by
  rw [undB_iff]; exact List.suffix_cons _ _
theorem not_und_child (l : List UInt8) (a : List (List UInt8)) : undB a (l :: a) = false := by
  cases h : undB a (l :: a) with
  | false => rfl
  | true => have := und_len h; rw [List.length_cons] at this; omega

theorem flat_drop_le (ls : List (List UInt8)) (k : Nat) : (flat (ls.drop k)).length ≤ (flat ls).length := by
  have : flat ls = flat (ls.take k) ++ flat (ls.drop k) := by rw [← flat_append, List.take_append_drop]
  rw [this, List.length_append]; omega
theorem OkN.drop {ls : List (List UInt8)} (h : OkN ls) (k : Nat) : OkN (ls.drop k) :=
  ⟨fun l hl => h.lab l (List.mem_of_mem_drop hl), by have := flat_drop_le ls k; have := h.len; omega⟩
theorem ok_com {a b : List (List UInt8)} (h : OkN a) : OkN (comN a b) := h.drop _

end Go.Proofs.YtaiakpigljcjbaaGreatDoor
