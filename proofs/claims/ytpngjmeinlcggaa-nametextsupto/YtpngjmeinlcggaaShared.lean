/- sharedEnd: how many of the last labels of two lists are the same. -/
import Derived.Deep.QuietTactic
import Derived.BigQuiet
import Derived.Test.YtpngjmeinlcggaaLabelsOf
namespace Go.Proofs.Ytpngjmeinlcggaa
set_option linter.unusedVariables false
open Go.RowKit

/-- how many of the first are the same. -/
def cpl : List (List UInt8) → List (List UInt8) → Nat
  | x :: xs, y :: ys => if x = y then cpl xs ys + 1 else 0
  | _, _ => 0
def shEnd (a b : List (List UInt8)) : Nat := cpl a.reverse b.reverse

theorem cpl_nil_right (a : List (List UInt8)) : cpl a [] = 0 := by cases a <;> rfl
theorem cpl_at : ∀ (a b : List (List UInt8)) (k : Nat), k ≤ a.length → k ≤ b.length → (∀ i, i < k → a[i]? = b[i]?) → (∀ (h1 : k < a.length) (h2 : k < b.length), a[k] ≠ b[k]) → cpl a b = k
  | [], b, k, ha, hb, he, hn => by simp at ha; subst ha; rfl
  | a :: a', [], k, ha, hb, he, hn => by simp at hb; subst hb; rfl
  | a :: a', b :: b', 0, ha, hb, he, hn => by
    have := hn (by simp) (by simp)
    simp at this
    simp [cpl, this]
  | a :: a', b :: b', k + 1, ha, hb, he, hn => by
    have h0 := he 0 (by omega)
    simp at h0
    subst h0
    have := cpl_at a' b' k (by simpa using ha) (by simpa using hb) (fun i hi => by simpa using he (i + 1) (by omega)) (fun h1 h2 => hn (by simpa using h1) (by simpa using h2))
    simp [cpl, this]

theorem shEnd_at (a b : List (List UInt8)) (k : Nat) (ha : k ≤ a.length) (hb : k ≤ b.length) (he : ∀ i, i < k → ∀ (h1 : a.length - 1 - i < a.length) (h2 : b.length - 1 - i < b.length), a[a.length - 1 - i] = b[b.length - 1 - i])
    (hn : ∀ (h1 : k < a.length) (h2 : k < b.length), a[a.length - 1 - k] ≠ b[b.length - 1 - k]) : shEnd a b = k := by
  refine cpl_at _ _ k (by simpa using ha) (by simpa using hb) (fun i hi => ?_) (fun h1 h2 => ?_)
  · rw [List.getElem?_eq_getElem (by simp; omega), List.getElem?_eq_getElem (by simp; omega), List.getElem_reverse, List.getElem_reverse]
    exact congrArg some (he i hi (by omega) (by omega))
  · rw [List.getElem_reverse, List.getElem_reverse]
    exact hn (by simpa using h1) (by simpa using h2)

set_option maxHeartbeats 1000000 in
theorem sharedEnd_core (ga gb ca cb : Nat) (a b : List (List UInt8)) (w : World) (hla : a.length ≤ 255) (hlb : b.length ≤ 255)
    (hca : ∀ j (h : j < a.length), w.cell? ⟨ga, j, none⟩ = some (strV a[j])) (hcb : ∀ j (h : j < b.length), w.cell? ⟨gb, j, none⟩ = some (strV b[j])) :
    Calls Try.prog 52 #[.slice (some ⟨ga, 0, none⟩) a.length ca, .slice (some ⟨gb, 0, none⟩) b.length cb] w fun e w' => e = .returned (.int .i64 (shEnd a b)) ∧ ∃ n, w' = w.drewN n := by
  go_enter Try.func52, Try.ntmps52
  go_wp2
  go_loopw [5] (fun i wr => ∃ k : Nat, i = .int .i64 k ∧ k ≤ a.length ∧ k ≤ b.length ∧ (∀ i, i < k → ∀ (h1 : a.length - 1 - i < a.length) (h2 : b.length - 1 - i < b.length), a[a.length - 1 - i] = b[b.length - 1 - i]) ∧ ∃ n, wr = w.drewN n) (fun i _ => a.length - (intOf i).toNat)
  case atStart => exact ⟨0, rfl, Nat.zero_le _, Nat.zero_le _, fun i h => absurd h (by omega), 0, rfl⟩
  case round =>
    obtain ⟨k, rfl, hka, hkb, hag, n, rfl⟩ := hrel
    by_cases hlt : k < a.length
    · by_cases hlt2 : k < b.length
      · obtain ⟨x, hxl, hc1⟩ : ∃ x : ByteArray, Hid (x.data.toList = a[a.length - 1 - k]) ∧ w.cell? ⟨ga, a.length - 1 - k, none⟩ = some (.string x) := ⟨⟨(a[a.length - 1 - k]).toArray⟩, rfl, hca _ _⟩
        obtain ⟨y, hyl, hc2⟩ : ∃ y : ByteArray, Hid (y.data.toList = b[b.length - 1 - k]) ∧ w.cell? ⟨gb, b.length - 1 - k, none⟩ = some (.string y) := ⟨⟨(b[b.length - 1 - k]).toArray⟩, rfl, hcb _ _⟩
        have hw1 : IntKind.i64.wrap ((a.length : Int) - 1) = (a.length : Int) - 1 := by rw [IntKind.wrap_i64]; omega
        have hw2 : IntKind.i64.wrap ((a.length : Int) - 1 - (k : Int)) = ((a.length - 1 - k : Nat) : Int) := by rw [IntKind.wrap_i64]; omega
        have hv1 : IntKind.i64.wrap ((b.length : Int) - 1) = (b.length : Int) - 1 := by rw [IntKind.wrap_i64]; omega
        have hv2 : IntKind.i64.wrap ((b.length : Int) - 1 - (k : Int)) = ((b.length - 1 - k : Nat) : Int) := by rw [IntKind.wrap_i64]; omega
        have hb1 : a.length - 1 - k < a.length := by omega
        have hb2 : b.length - 1 - k < b.length := by omega
        by_cases heq : a[a.length - 1 - k] = b[b.length - 1 - k]
        · have hbe : (x.toList == y.toList) = true := by rw [beq_iff_eq, ByteArray.toList_eq, ByteArray.toList_eq, hxl.out, hyl.out, heq]
          have HA : Hid (∀ i, i < k + 1 → ∀ (h1 : a.length - 1 - i < a.length) (h2 : b.length - 1 - i < b.length), a[a.length - 1 - i] = b[b.length - 1 - i]) := by
            intro i hi h1 h2
            by_cases e : i = k
            · subst e; exact heq
            · exact hag i (by omega) h1 h2
          clear heq hag hca hcb
          go_wp2
          go_quiet (fail)
          go_wp2
          go_roundw
          case rel => exact ⟨k + 1, by go_num, by omega, by omega, HA.out, _, rfl⟩
          case measure => simp [intOf]; omega
        · have hbe : (x.toList == y.toList) = false := by rw [beq_eq_false_iff_ne, ByteArray.toList_eq, ByteArray.toList_eq, hxl.out, hyl.out]; exact heq
          have HF : Hid (shEnd a b = k) := shEnd_at a b k hka hkb hag (fun _ _ => heq)
          clear heq hag hca hcb
          go_wp2
          go_quiet (fail)
          go_wp2
          go_ret
          exact ⟨by rw [HF.out]; rfl, _, World.drewN_drewN _ _ _⟩
      · have hd : decide ((k : Int) < (b.length : Int)) = false := by simp; omega
        have HF : Hid (shEnd a b = k) := shEnd_at a b k hka hkb hag (fun _ h2 => absurd h2 hlt2)
        clear hag hca hcb
        go_wp2
        go_quiet (fail)
        go_wp2
        go_ret
        exact ⟨by rw [HF.out]; rfl, _, World.drewN_drewN _ _ _⟩
    · have hd : decide ((k : Int) < (a.length : Int)) = false := by simp; omega
      have HF : Hid (shEnd a b = k) := shEnd_at a b k hka hkb hag (fun h1 _ => absurd h1 hlt)
      clear hag hca hcb
      go_wp2
      go_quiet (fail)
      go_wp2
      go_ret
      exact ⟨by rw [HF.out]; rfl, _, World.drewN_drewN _ _ _⟩
theorem shEnd_nil_left (b : List (List UInt8)) : shEnd [] b = 0 := rfl
theorem shEnd_nil_right (a : List (List UInt8)) : shEnd a [] = 0 := cpl_nil_right _

set_option maxHeartbeats 1000000 in
theorem sharedEnd_nilA (vb : Value) (n cb : Nat) (q : Option Addr) (w : World) (hn : n ≤ 255) :
    Calls Try.prog 52 #[.slice none 0 0, .slice q n cb] w fun e w' => e = .returned (.int .i64 0) ∧ ∃ n, w' = w.drewN n := by
  go_enter Try.func52, Try.ntmps52
  go_wp2
  go_loopw [5] (fun i wr => i = .int .i64 0 ∧ ∃ n, wr = w.drewN n) (fun i _ => 0)
  case atStart => exact ⟨rfl, 0, rfl⟩
  case round =>
    obtain ⟨rfl, n, rfl⟩ := hrel
    go_wp2
    go_quiet (fail)
    go_wp2
    go_ret
    exact ⟨rfl, _, World.drewN_drewN _ _ _⟩

set_option maxHeartbeats 1000000 in
theorem sharedEnd_nilB (n ca : Nat) (q : Option Addr) (w : World) (hn : n ≤ 255) :
    Calls Try.prog 52 #[.slice q n ca, .slice none 0 0] w fun e w' => e = .returned (.int .i64 0) ∧ ∃ n, w' = w.drewN n := by
  by_cases h0 : 0 < n
  · go_enter Try.func52, Try.ntmps52
    go_wp2
    go_loopw [5] (fun i wr => i = .int .i64 0 ∧ ∃ n, wr = w.drewN n) (fun i _ => 0)
    case atStart => exact ⟨rfl, 0, rfl⟩
    case round =>
      obtain ⟨rfl, n, rfl⟩ := hrel
      go_wp2
      go_quiet (fail)
      go_wp2
      go_ret
      exact ⟨rfl, _, World.drewN_drewN _ _ _⟩
  · obtain rfl : n = 0 := by omega
    go_enter Try.func52, Try.ntmps52
    go_wp2
    go_loopw [5] (fun i wr => i = .int .i64 0 ∧ ∃ n, wr = w.drewN n) (fun i _ => 0)
    case atStart => exact ⟨rfl, 0, rfl⟩
    case round =>
      obtain ⟨rfl, n, rfl⟩ := hrel
      go_wp2
      go_quiet (fail)
      go_wp2
      go_ret
      exact ⟨rfl, _, World.drewN_drewN _ _ _⟩

theorem sharedEnd_in (va vb : Value) (a b : List (List UInt8)) (n₀ : Nat) (w : World) (hla : a.length ≤ 255) (hlb : b.length ≤ 255) (ha : Strs n₀ w va a) (hb : Strs n₀ w vb b) :
    Calls Try.prog 52 #[va, vb] w fun e w' => e = .returned (.int .i64 (shEnd a b)) ∧ Below w.heap.size w w' := by
  have fin : ∀ (e : Ending) (w' : World) (m : Int), m = shEnd a b → (e = .returned (.int .i64 m) ∧ ∃ n, w' = w.drewN n) → (e = .returned (.int .i64 (shEnd a b)) ∧ Below w.heap.size w w') := by
    rintro e w' m rfl ⟨he, n, rfl⟩
    exact ⟨he, below_drewN (Below.refl _ _) n⟩
  rcases ha with ⟨rfl, rfl⟩ | ⟨ga, ca, rfl, _, hca⟩
  · rcases hb with ⟨rfl, rfl⟩ | ⟨gb, cb, rfl, _, hcb⟩
    · exact (sharedEnd_nilA (.slice none 0 0) 0 0 none w (by omega)).mono fun e w' h => fin e w' _ rfl h
    · exact (sharedEnd_nilA (.slice none 0 0) _ _ _ w hlb).mono fun e w' h => fin e w' _ rfl h
  · rcases hb with ⟨rfl, rfl⟩ | ⟨gb, cb, rfl, _, hcb⟩
    · exact (sharedEnd_nilB _ _ _ w hla).mono fun e w' h => fin e w' _ (by rw [shEnd_nil_right]; rfl) h
    · exact (sharedEnd_core ga gb ca cb a b w hla hlb hca hcb).mono fun e w' h => fin e w' _ rfl h

end Go.Proofs.Ytpngjmeinlcggaa
