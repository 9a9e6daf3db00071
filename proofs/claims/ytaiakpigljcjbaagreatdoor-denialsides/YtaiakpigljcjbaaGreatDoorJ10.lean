/- Texts of this proof, joined: DNsec, ZTy, Shared, Under, Kin, Kin2. -/
import Derived.Deep.RegionHeld3
import Derived.Test.YtaiakpigljcjbaaGreatDoorJ9
import Derived.Deep.QuietTactic
import Derived.BigQuiet
import Derived.Test.YtaiakpigljcjbaaGreatDoorJ2
/- NSEC: taken apart, and put together. -/
namespace Go.Proofs.YtaiakpigljcjbaaGreatDoor
set_option linter.unusedVariables false
open Go.RowKit
theorem IntsAt.below {W W' : World} {v : Value} {l : List Int} (h : IntsAt W v l) (hb : Below W.heap.size W W') : IntsAt W' v l := by
  obtain ⟨q, c, hv, hc⟩ := h
  refine ⟨q, c, hv, fun j hj => ?_⟩
  obtain ⟨g, hq, hg, hx⟩ := hc j hj
  exact ⟨g, hq, Nat.lt_of_lt_of_le hg hb.size, (hb.cell (p := ⟨g, j, none⟩) hg).trans hx⟩
theorem ints_of_row {W : World} {n₀ : Nat} {v : Value} {l : List Nat} (h : W.ownsRow n₀ 3 1 v l.length (intsV l)) : IntsAt W v (l.map fun n => ((n : Nat) : Int)) := by
  obtain ⟨q, c, rfl⟩ := row_as h
  refine ⟨q, c, by simp, fun j hj => ?_⟩
  rw [List.length_map] at hj
  rcases h.2 with ⟨_, h0⟩ | ⟨g, cap, cur, hv, _, hg, _, _, _, ht⟩
  · omega
  · cases hv
    refine ⟨g, rfl, box_lt hg, ?_⟩
    have := Lib.cells_of_row (w := W) hg l.length j (.int .i64 ((l[j] : Nat) : Int)) (by rw [Nat.mul_one] at ht; rw [ht]; simp [intsV, hj])
    rw [add_at] at this
    simpa using this
end Go.Proofs.YtaiakpigljcjbaaGreatDoor
/- Types in memory: has, delegated, lack. -/
namespace Go.Proofs.YtaiakpigljcjbaaGreatDoor
set_option linter.unusedVariables false
open Go.RowKit
set_option maxRecDepth 100000 in
set_option maxHeartbeats 1000000 in
theorem idx_in (W : World) (v : Value) (l : List Int) (k : Int) (hl : l.length ≤ 1000000) (h : IntsAt W v l) :
    Calls Tryz.prog 139 #[v, .int .i64 k] W fun e w' => ∃ r : Int, e = .returned (.int .i64 r) ∧ (0 ≤ r ↔ k ∈ l) ∧ w' = W := by
  obtain ⟨q, c, rfl, hc⟩ := h
  have HC := Hid.mk hc
  clear hc
  obtain ⟨n, hn⟩ : ∃ n, l.length = n := ⟨_, rfl⟩
  have HN := Hid.mk hn
  rw [hn] at hl ⊢
  clear hn
  go_enter Tryz.func139, Tryz.ntmps139
  go_wp2_with fail
  go_loopw [8] (fun iv wr => ∃ i : Nat, i ≤ n ∧ iv = .int .i64 (i : Int) ∧ wr = W ∧ Hid (∀ j, j < i → l[j]? ≠ some k)) (fun iv _ => n - (intOf iv).toNat)
  case atStart => exact ⟨0, Nat.zero_le _, rfl, rfl, fun j hj => absurd hj (Nat.not_lt_zero _)⟩
  case round =>
    obtain ⟨i, hi, rfl, rfl, hno⟩ := hrel
    by_cases hlt : i < n
    · have hil : i < l.length := by rw [HN.out]; exact hlt
      obtain ⟨g, rfl, hg, hcell⟩ := HC.out i hil
      obtain ⟨x, hx⟩ : ∃ x, l[i] = x := ⟨_, rfl⟩
      rw [hx] at hcell
      have hx? : Hid (l[i]? = some x) := by rw [Hid, List.getElem?_eq_getElem hil, hx]
      have hi' : (i : Int) < (n : Int) := by omega
      clear hil hx
      by_cases hk : k = x
      · subst hk
        have HM : Hid (k ∈ l) := List.mem_of_getElem? hx?.out
        clear hno hx?
        go_wp2
        go_ret
        exact ⟨(i : Int), rfl, ⟨fun _ => HM.out, fun _ => by omega⟩, rfl⟩
      · have e1 : (k == x) = false := by simpa using hk
        have e2 : decide (k = x) = false := by simpa using hk
        have HNo : Hid (∀ j, j < i + 1 → l[j]? ≠ some k) := fun j hj => by
          rcases Nat.lt_succ_iff_lt_or_eq.1 hj with h | h
          · exact hno j h
          · subst h
            rw [hx?.out]
            exact fun e => hk (Option.some.inj e).symm
        clear hno hx?
        go_wp2
        go_roundw
        case rel => exact ⟨i + 1, by omega, by go_num, by first | rfl | trivial, HNo⟩
        case measure => simp [intOf]; omega
    · obtain rfl : i = n := by omega
      have HM : Hid (¬ k ∈ l) := fun hm => by
        obtain ⟨j, hj⟩ := List.getElem?_of_mem hm
        have : j < l.length := (List.getElem?_eq_some_iff.1 hj).1
        exact hno j (by rw [HN.out] at this; exact this) hj
      clear hno
      go_wp2
      go_ret
      exact ⟨-1, rfl, ⟨fun h => absurd h (by decide), fun h => absurd h HM.out⟩, rfl⟩
def hasB (l : List Int) (k : Int) : Bool := decide (k ∈ l)
set_option maxRecDepth 100000 in
set_option maxHeartbeats 1000000 in
theorem cont_in (W : World) (v : Value) (l : List Int) (k : Int) (hl : l.length ≤ 1000000) (h : IntsAt W v l) :
    Calls Tryz.prog 119 #[v, .int .i64 k] W fun e w' => e = .returned (.bool (hasB l k)) ∧ w' = W := by
  have HI := Hid.mk (idx_in W v l k hl h)
  have HB : Hid (∀ r : Int, (0 ≤ r ↔ k ∈ l) → decide (0 ≤ r) = hasB l k) := fun r hr => by
    unfold hasB
    by_cases hm : k ∈ l
    · rw [decide_eq_true hm, decide_eq_true (hr.2 hm)]
    · rw [decide_eq_false hm, decide_eq_false fun h => hm (hr.1 h)]
  generalize hasB l k = D at HB ⊢
  clear h hl
  go_enter Tryz.func119, Tryz.ntmps119
  go_wp2_with fail
  refine HI.out.mono ?_
  rintro e w1 ⟨r, rfl, hr, rfl⟩
  have hd := HB.out r hr
  have HD := Hid.mk hd
  clear hr hd
  go_wp2
  go_ret
  exact ⟨by rw [← HD.out]; rfl, rfl⟩
set_option maxRecDepth 100000 in
set_option maxHeartbeats 1000000 in
theorem has_in (W : World) (v : Value) (l : List Int) (k : Int) (hl : l.length ≤ 1000000) (h : IntsAt W v l) :
    Calls Tryz.prog 98 #[v, .int .i64 k] W fun e w' => e = .returned (.bool (hasB l k)) ∧ w' = W := by
  have HI := Hid.mk (cont_in W v l k hl h)
  generalize hasB l k = D at HI ⊢
  clear h hl
  go_enter Tryz.func98, Tryz.ntmps98
  go_wp2_with fail
  refine HI.out.mono ?_
  rintro e w1 ⟨rfl, rfl⟩
  go_wp2
  go_ret
  exact ⟨rfl, rfl⟩
def delB (l : List Int) : Bool := hasB l 2 && !hasB l 6
set_option maxRecDepth 100000 in
set_option maxHeartbeats 1000000 in
theorem del_in (W : World) (v : Value) (l : List Int) (hl : l.length ≤ 1000000) (h : IntsAt W v l) :
    Calls Tryz.prog 97 #[v] W fun e w' => e = .returned (.bool (delB l)) ∧ w' = W := by
  have H2 := Hid.mk (has_in W v l 2 hl h)
  have H6 := Hid.mk (has_in W v l 6 hl h)
  unfold delB
  generalize hasB l 2 = A at H2 ⊢
  generalize hasB l 6 = B at H6 ⊢
  clear h hl
  cases A with
  | false =>
    go_enter Tryz.func97, Tryz.ntmps97
    go_wp2_with fail
    refine H2.out.mono ?_
    rintro e w1 ⟨rfl, rfl⟩
    go_wp2
    go_ret
    exact ⟨rfl, rfl⟩
  | true =>
    go_enter Tryz.func97, Tryz.ntmps97
    go_wp2_with fail
    refine H2.out.mono ?_
    rintro e w1 ⟨rfl, rfl⟩
    go_wp2_with fail
    refine H6.out.mono ?_
    rintro e w1 ⟨rfl, rfl⟩
    go_wp2
    go_ret
    exact ⟨by simp, rfl⟩
def lackB (l : List Int) (k : Int) (rt : Bool) : Bool := !hasB l k && !hasB l 5 && (if k = 43 then rt || !hasB l 6 else !delB l)
set_option maxRecDepth 100000 in
set_option maxHeartbeats 1000000 in
theorem lack_in (W : World) (v : Value) (l : List Int) (k : Int) (rt : Bool) (hl : l.length ≤ 1000000) (h : IntsAt W v l) :
    Calls Tryz.prog 95 #[v, .int .i64 k, .bool rt] W fun e w' => e = .returned (.bool (lackB l k rt)) ∧ w' = W := by
  have HK := Hid.mk (has_in W v l k hl h)
  have H5 := Hid.mk (has_in W v l 5 hl h)
  have H6 := Hid.mk (has_in W v l 6 hl h)
  have HD := Hid.mk (del_in W v l hl h)
  unfold lackB
  generalize hasB l k = A at HK ⊢
  generalize hasB l 5 = B at H5 ⊢
  generalize hasB l 6 = C at H6 ⊢
  generalize delB l = D at HD ⊢
  clear h hl
  by_cases hk : k = 43
  · subst hk
    rw [if_pos rfl]
    cases A with
    | true =>
      go_enter Tryz.func95, Tryz.ntmps95
      go_wp2_with fail
      refine HK.out.mono ?_
      rintro e w1 ⟨rfl, rfl⟩
      go_wp2
      go_ret
      exact ⟨rfl, rfl⟩
    | false =>
      go_enter Tryz.func95, Tryz.ntmps95
      go_wp2_with fail
      refine HK.out.mono ?_
      rintro e w1 ⟨rfl, rfl⟩
      go_wp2_with fail
      refine H5.out.mono ?_
      rintro e w1 ⟨rfl, rfl⟩
      cases B with
      | true =>
        go_wp2
        go_ret
        exact ⟨rfl, rfl⟩
      | false =>
        cases rt with
        | true =>
          go_wp2
          go_ret
          exact ⟨rfl, rfl⟩
        | false =>
          go_wp2_with fail
          refine H6.out.mono ?_
          rintro e w1 ⟨rfl, rfl⟩
          go_wp2
          go_ret
          exact ⟨by simp, rfl⟩
  · rw [if_neg hk]
    have e1 : (k == 43) = false := by simpa using hk
    have e2 : decide (k = 43) = false := by simpa using hk
    cases A with
    | true =>
      go_enter Tryz.func95, Tryz.ntmps95
      go_wp2_with fail
      refine HK.out.mono ?_
      rintro e w1 ⟨rfl, rfl⟩
      go_wp2
      go_ret
      exact ⟨rfl, rfl⟩
    | false =>
      go_enter Tryz.func95, Tryz.ntmps95
      go_wp2_with fail
      refine HK.out.mono ?_
      rintro e w1 ⟨rfl, rfl⟩
      go_wp2_with fail
      refine H5.out.mono ?_
      rintro e w1 ⟨rfl, rfl⟩
      cases B with
      | true =>
        go_wp2
        go_ret
        exact ⟨rfl, rfl⟩
      | false =>
        go_wp2_with fail
        refine HD.out.mono ?_
        rintro e w1 ⟨rfl, rfl⟩
        go_wp2
        go_ret
        exact ⟨by simp, rfl⟩
end Go.Proofs.YtaiakpigljcjbaaGreatDoor
/- sharedEnd: how many of the last labels of two lists are the same. -/
namespace Go.Proofs.YtaiakpigljcjbaaGreatDoor
set_option linter.unusedVariables false
open Go.RowKit
def cpl : List (List UInt8) → List (List UInt8) → Nat
  | x :: xs, y :: ys => if x = y then cpl xs ys + 1 else 0
  | _, _ => 0
def shEnd (a b : List (List UInt8)) : Nat := cpl a.reverse b.reverse
theorem cpl_nil_right (a : List (List UInt8)) : cpl a [] = 0 := by cases a <;> rfl
theorem cpl_at : ∀ (a b : List (List UInt8)) (k : Nat), k ≤ a.length → k ≤ b.length → (∀ i, i < k → a[i]? = b[i]?) → (∀ (h1 : k < a.length) (h2 : k < b.length), a[k] ≠ b[k]) → cpl a b = k
  | [], b, k, ha, hb, he, hn => by simp at ha; subst ha; rfl
  | a :: a', [], k, ha, hb, he, hn => by simp at hb; subst hb; rfl
  | a :: a', b :: b', 0, ha, hb, he, hn => by
    have := hn (by simp) (by simp)
    simp at this
    simp [cpl, this]
  | a :: a', b :: b', k + 1, ha, hb, he, hn => by
    have h0 := he 0 (by omega)
    simp at h0
    subst h0
    have := cpl_at a' b' k (by simpa using ha) (by simpa using hb) (fun i hi => by simpa using he (i + 1) (by omega)) (fun h1 h2 => hn (by simpa using h1) (by simpa using h2))
    simp [cpl, this]
theorem shEnd_at (a b : List (List UInt8)) (k : Nat) (ha : k ≤ a.length) (hb : k ≤ b.length) (he : ∀ i, i < k → ∀ (h1 : a.length - 1 - i < a.length) (h2 : b.length - 1 - i < b.length), a[a.length - 1 - i] = b[b.length - 1 - i])
    (hn : ∀ (h1 : k < a.length) (h2 : k < b.length), a[a.length - 1 - k] ≠ b[b.length - 1 - k]) : shEnd a b = k := by
  refine cpl_at _ _ k (by simpa using ha) (by simpa using hb) (fun i hi => ?_) (fun h1 h2 => ?_)
  · rw [List.getElem?_eq_getElem (by simp; omega), List.getElem?_eq_getElem (by simp; omega), List.getElem_reverse, List.getElem_reverse]
    exact congrArg some (he i hi (by omega) (by omega))
  · rw [List.getElem_reverse, List.getElem_reverse]
    exact hn (by simpa using h1) (by simpa using h2)
set_option maxHeartbeats 1000000 in
theorem sharedEnd_core (ga gb ca cb : Nat) (a b : List (List UInt8)) (w : World) (hla : a.length ≤ 255) (hlb : b.length ≤ 255)
    (hca : ∀ j (h : j < a.length), w.cell? ⟨ga, j, none⟩ = some (strV a[j])) (hcb : ∀ j (h : j < b.length), w.cell? ⟨gb, j, none⟩ = some (strV b[j])) :
    Calls Tryz.prog 43 #[.slice (some ⟨ga, 0, none⟩) a.length ca, .slice (some ⟨gb, 0, none⟩) b.length cb] w fun e w' => e = .returned (.int .i64 (shEnd a b)) ∧ ∃ n, w' = w.drewN n := by
  go_enter Tryz.func43, Tryz.ntmps43
  go_wp2
  go_loopw [5] (fun i wr => ∃ k : Nat, i = .int .i64 k ∧ k ≤ a.length ∧ k ≤ b.length ∧ (∀ i, i < k → ∀ (h1 : a.length - 1 - i < a.length) (h2 : b.length - 1 - i < b.length), a[a.length - 1 - i] = b[b.length - 1 - i]) ∧ ∃ n, wr = w.drewN n) (fun i _ => a.length - (intOf i).toNat)
  case atStart => exact ⟨0, rfl, Nat.zero_le _, Nat.zero_le _, fun i h => absurd h (by omega), 0, rfl⟩
  case round =>
    obtain ⟨k, rfl, hka, hkb, hag, n, rfl⟩ := hrel
    by_cases hlt : k < a.length
    · by_cases hlt2 : k < b.length
      · obtain ⟨x, hxl, hc1⟩ : ∃ x : ByteArray, Hid (x.data.toList = a[a.length - 1 - k]) ∧ w.cell? ⟨ga, a.length - 1 - k, none⟩ = some (.string x) := ⟨⟨(a[a.length - 1 - k]).toArray⟩, rfl, hca _ _⟩
        obtain ⟨y, hyl, hc2⟩ : ∃ y : ByteArray, Hid (y.data.toList = b[b.length - 1 - k]) ∧ w.cell? ⟨gb, b.length - 1 - k, none⟩ = some (.string y) := ⟨⟨(b[b.length - 1 - k]).toArray⟩, rfl, hcb _ _⟩
        have hw1 : IntKind.i64.wrap ((a.length : Int) - 1) = (a.length : Int) - 1 := by rw [IntKind.wrap_i64]; omega
        have hw2 : IntKind.i64.wrap ((a.length : Int) - 1 - (k : Int)) = ((a.length - 1 - k : Nat) : Int) := by rw [IntKind.wrap_i64]; omega
        have hv1 : IntKind.i64.wrap ((b.length : Int) - 1) = (b.length : Int) - 1 := by rw [IntKind.wrap_i64]; omega
        have hv2 : IntKind.i64.wrap ((b.length : Int) - 1 - (k : Int)) = ((b.length - 1 - k : Nat) : Int) := by rw [IntKind.wrap_i64]; omega
        have hb1 : a.length - 1 - k < a.length := by omega
        have hb2 : b.length - 1 - k < b.length := by omega
        by_cases heq : a[a.length - 1 - k] = b[b.length - 1 - k]
        · have hbe : (x.toList == y.toList) = true := by rw [beq_iff_eq, ByteArray.toList_eq, ByteArray.toList_eq, hxl.out, hyl.out, heq]
          have HA : Hid (∀ i, i < k + 1 → ∀ (h1 : a.length - 1 - i < a.length) (h2 : b.length - 1 - i < b.length), a[a.length - 1 - i] = b[b.length - 1 - i]) := by
            intro i hi h1 h2
            by_cases e : i = k
            · subst e; exact heq
            · exact hag i (by omega) h1 h2
          clear heq hag hca hcb
          go_wp2
          go_quiet (fail)
          go_wp2
          go_roundw
          case rel => exact ⟨k + 1, by go_num, by omega, by omega, HA.out, _, rfl⟩
          case measure => simp [intOf]; omega
        · have hbe : (x.toList == y.toList) = false := by rw [beq_eq_false_iff_ne, ByteArray.toList_eq, ByteArray.toList_eq, hxl.out, hyl.out]; exact heq
          have HF : Hid (shEnd a b = k) := shEnd_at a b k hka hkb hag (fun _ _ => heq)
          clear heq hag hca hcb
          go_wp2
          go_quiet (fail)
          go_wp2
          go_ret
          exact ⟨by rw [HF.out]; rfl, _, World.drewN_drewN _ _ _⟩
      · have hd : decide ((k : Int) < (b.length : Int)) = false := by simp; omega
        have HF : Hid (shEnd a b = k) := shEnd_at a b k hka hkb hag (fun _ h2 => absurd h2 hlt2)
        clear hag hca hcb
        go_wp2
        go_quiet (fail)
        go_wp2
        go_ret
        exact ⟨by rw [HF.out]; rfl, _, World.drewN_drewN _ _ _⟩
    · have hd : decide ((k : Int) < (a.length : Int)) = false := by simp; omega
      have HF : Hid (shEnd a b = k) := shEnd_at a b k hka hkb hag (fun h1 _ => absurd h1 hlt)
      clear hag hca hcb
      go_wp2
      go_quiet (fail)
      go_wp2
      go_ret
      exact ⟨by rw [HF.out]; rfl, _, World.drewN_drewN _ _ _⟩
theorem shEnd_nil_right (a : List (List UInt8)) : shEnd a [] = 0 := cpl_nil_right _
set_option maxHeartbeats 1000000 in
theorem sharedEnd_nilA (vb : Value) (n cb : Nat) (q : Option Addr) (w : World) (hn : n ≤ 255) :
    Calls Tryz.prog 43 #[.slice none 0 0, .slice q n cb] w fun e w' => e = .returned (.int .i64 0) ∧ ∃ n, w' = w.drewN n := by
  go_enter Tryz.func43, Tryz.ntmps43
  go_wp2
  go_loopw [5] (fun i wr => i = .int .i64 0 ∧ ∃ n, wr = w.drewN n) (fun i _ => 0)
  case atStart => exact ⟨rfl, 0, rfl⟩
  case round =>
    obtain ⟨rfl, n, rfl⟩ := hrel
    go_wp2
    go_quiet (fail)
    go_wp2
    go_ret
    exact ⟨rfl, _, World.drewN_drewN _ _ _⟩
set_option maxHeartbeats 1000000 in
theorem sharedEnd_nilB (n ca : Nat) (q : Option Addr) (w : World) (hn : n ≤ 255) :
    Calls Tryz.prog 43 #[.slice q n ca, .slice none 0 0] w fun e w' => e = .returned (.int .i64 0) ∧ ∃ n, w' = w.drewN n := by
  by_cases h0 : 0 < n
  · go_enter Tryz.func43, Tryz.ntmps43
    go_wp2
    go_loopw [5] (fun i wr => i = .int .i64 0 ∧ ∃ n, wr = w.drewN n) (fun i _ => 0)
    case atStart => exact ⟨rfl, 0, rfl⟩
    case round =>
      obtain ⟨rfl, n, rfl⟩ := hrel
      go_wp2
      go_quiet (fail)
      go_wp2
      go_ret
      exact ⟨rfl, _, World.drewN_drewN _ _ _⟩
  · obtain rfl : n = 0 := by omega
    go_enter Tryz.func43, Tryz.ntmps43
    go_wp2
    go_loopw [5] (fun i wr => i = .int .i64 0 ∧ ∃ n, wr = w.drewN n) (fun i _ => 0)
    case atStart => exact ⟨rfl, 0, rfl⟩
    case round =>
      obtain ⟨rfl, n, rfl⟩ := hrel
      go_wp2
      go_quiet (fail)
      go_wp2
      go_ret
      exact ⟨rfl, _, World.drewN_drewN _ _ _⟩
theorem sharedEnd_in (va vb : Value) (a b : List (List UInt8)) (n₀ : Nat) (w : World) (hla : a.length ≤ 255) (hlb : b.length ≤ 255) (ha : Strs n₀ w va a) (hb : Strs n₀ w vb b) :
    Calls Tryz.prog 43 #[va, vb] w fun e w' => e = .returned (.int .i64 (shEnd a b)) ∧ Below w.heap.size w w' := by
  have fin : ∀ (e : Ending) (w' : World) (m : Int), m = shEnd a b → (e = .returned (.int .i64 m) ∧ ∃ n, w' = w.drewN n) → (e = .returned (.int .i64 (shEnd a b)) ∧ Below w.heap.size w w') := by
    rintro e w' m rfl ⟨he, n, rfl⟩
    exact ⟨he, below_drewN (Below.refl _ _) n⟩
  rcases ha with ⟨rfl, rfl⟩ | ⟨ga, ca, rfl, _, hca⟩
  · rcases hb with ⟨rfl, rfl⟩ | ⟨gb, cb, rfl, _, hcb⟩
    · exact (sharedEnd_nilA (.slice none 0 0) 0 0 none w (by omega)).mono fun e w' h => fin e w' _ rfl h
    · exact (sharedEnd_nilA (.slice none 0 0) _ _ _ w hlb).mono fun e w' h => fin e w' _ rfl h
  · rcases hb with ⟨rfl, rfl⟩ | ⟨gb, cb, rfl, _, hcb⟩
    · exact (sharedEnd_nilB _ _ _ w hla).mono fun e w' h => fin e w' _ (by rw [shEnd_nil_right]; rfl) h
    · exact (sharedEnd_core ga gb ca cb a b w hla hlb hca hcb).mono fun e w' h => fin e w' _ rfl h
end Go.Proofs.YtaiakpigljcjbaaGreatDoor
/- under, Under, Equal. -/
namespace Go.Proofs.YtaiakpigljcjbaaGreatDoor
set_option linter.unusedVariables false
open Go.RowKit
theorem bthen {w w1 w2 : World} (h : Below w.heap.size w w1) (k : Below w1.heap.size w1 w2) : Below w.heap.size w w2 := h.trans (k.mono h.size)
theorem Strs.form {n₀ : Nat} {W : World} {v : Value} {ls : List (List UInt8)} (h : Strs n₀ W v ls) : ∃ q c, v = .slice q ls.length c := by
  rcases h with ⟨rfl, rfl⟩ | ⟨g, cap, hv, _⟩
  · exact ⟨none, 0, rfl⟩
  · exact ⟨_, _, hv⟩
theorem OkN.count {ls : List (List UInt8)} (h : OkN ls) : ls.length ≤ 127 := by
  have := flat_count ls (fun l hl => (h.lab l hl).1); have := h.len; omega
theorem lowN_length (ls : List (List UInt8)) : (lowN ls).length = ls.length := by simp [lowN]
def undB (a b : List (List UInt8)) : Bool := decide (shEnd (lowN a) (lowN b) = b.length)
set_option maxHeartbeats 400000 in
theorem under_in (a b : List (List UInt8)) (ha : OkN a) (hb : OkN b) (w : World) :
    Calls Tryz.prog 48 #[.string (nm a), .string (nm b)] w fun e w' => e = .returned (.bool (undB a b)) ∧ Below w.heap.size w w' := by
  have hca := ha.low.count
  have hcb := hb.low.count
  have hl := lowN_length b
  have HL := Hid.mk hl
  clear hl
  go_enter Tryz.func48, Tryz.ntmps48
  go_wp2_with fail
  refine (lowered_nm b hb _).mono ?_
  rintro e w1 ⟨rfl, hb1⟩
  go_wp2_with fail
  refine (labelsOf_in (lowN b) hb.low _).mono ?_
  rintro e w2 ⟨⟨vb, rfl, hvb⟩, hb2⟩
  go_wp2_with fail
  refine (lowered_nm a ha _).mono ?_
  rintro e w3 ⟨rfl, hb3⟩
  go_wp2_with fail
  refine (labelsOf_in (lowN a) ha.low _).mono ?_
  rintro e w4 ⟨⟨va, rfl, hva⟩, hb4⟩
  have hvb4 := (hvb.below (bthen hb3 hb4)).mono (bthen hb3 hb4).size
  clear hvb
  obtain ⟨q, c, hq⟩ := hvb4.form
  subst hq
  go_wp2_with fail
  refine (sharedEnd_in _ _ (lowN a) (lowN b) _ _ (by omega) (by omega) hva hvb4).mono ?_
  rintro e w5 ⟨rfl, hb5⟩
  clear hva hvb4
  go_wp2
  go_ret
  refine ⟨?_, (bthen hb1 (bthen hb2 (bthen hb3 (bthen hb4 hb5))))⟩
  rw [HL.out]
  show Ending.returned (.bool (((shEnd (lowN a) (lowN b) : Nat) : Int) == ((b.length : Nat) : Int))) = _
  congr 2
  rw [undB, Bool.eq_iff_iff]; simp; omega
theorem under_yes (a b : List (List UInt8)) (ha : OkN a) (hb : OkN b) (w : World) :
    Calls Tryz.prog 28 #[.string (nm a), .string (nm b)] w fun e w' => e = .returned (.bool (undB a b)) ∧ Below w.heap.size w w' := by
  go_enter Tryz.func28, Tryz.ntmps28
  go_wp2_with fail
  refine (right_yes a ha _).mono ?_
  rintro e w1 ⟨rfl, hb1⟩
  go_wp2_with fail
  refine (right_yes b hb _).mono ?_
  rintro e w2 ⟨rfl, hb2⟩
  go_wp2_with fail
  refine (under_in a b ha hb _).mono ?_
  rintro e w3 ⟨rfl, hb3⟩
  go_wp2
  go_ret
  exact ⟨rfl, bthen hb1 (bthen hb2 hb3)⟩
theorem nm_inj {a b : List (List UInt8)} (ha : OkN a) (hb : OkN b) (h : nm a = nm b) : a = b := by
  have h1 : Seq (nm b) a := ⟨by rw [← h, nm_list]; exact List.prefix_append _ _, fun l hl => ⟨(ha.lab l hl).1, by have := (ha.lab l hl).2; omega⟩⟩
  have h2 : Ends (nm b) (flat a).length := fun hl => by
    left
    have : (flat a).length < (nm a).size := by rw [nm_size]; omega
    have e := nm_get_end a this
    simp only [← h]; exact e
  exact h1.all_name hb h2
def eqB (a b : List (List UInt8)) : Bool := decide (lowN a = lowN b)
theorem equal_yes (a b : List (List UInt8)) (ha : OkN a) (hb : OkN b) (w : World) :
    Calls Tryz.prog 12 #[.string (nm a), .string (nm b)] w fun e w' => e = .returned (.bool (eqB a b)) ∧ Below w.heap.size w w' := by
  go_enter Tryz.func12, Tryz.ntmps12
  go_wp2_with fail
  refine (right_yes a ha _).mono ?_
  rintro e w1 ⟨rfl, hb1⟩
  go_wp2_with fail
  refine (right_yes b hb _).mono ?_
  rintro e w2 ⟨rfl, hb2⟩
  go_wp2_with fail
  refine (lowered_nm a ha _).mono ?_
  rintro e w3 ⟨rfl, hb3⟩
  go_wp2_with fail
  refine (lowered_nm b hb _).mono ?_
  rintro e w4 ⟨rfl, hb4⟩
  go_wp2
  go_ret
  refine ⟨?_, bthen hb1 (bthen hb2 (bthen hb3 hb4))⟩
  show Ending.returned (.bool ((nm (lowN a)).toList == (nm (lowN b)).toList)) = _
  congr 2
  rw [eqB, Bool.eq_iff_iff, beq_iff_eq, decide_eq_true_iff, ByteArray.toList_eq, ByteArray.toList_eq]
  exact ⟨fun h => nm_inj ha.low hb.low (ba_ext h), fun h => by rw [h]⟩
end Go.Proofs.YtaiakpigljcjbaaGreatDoor
/- withoutFirst, Parent, Common, Child, Moved. -/
namespace Go.Proofs.YtaiakpigljcjbaaGreatDoor
set_option linter.unusedVariables false
open Go.RowKit Go.Shelf
attribute [local go_sem] Oper.semAt_some
theorem flat_drop_nm (p q : List (List UInt8)) : (nm (p ++ q)).extract (flat p).length (nm (p ++ q)).size = nm q := by
  apply ba_ext
  rw [Lib.extract_data, nm_list, nm_list, nmL, flat_append, List.append_assoc, List.drop_left]
  exact List.take_of_length_le (by rw [nm_size, flat_append]; simp; omega)
theorem keepsOthers_below {W W' : World} (h : Below W.heap.size W W') : KeepsOthers W W' :=
  ⟨h.size, fun k o hk _ => (h.block k (Array.getElem?_eq_some_iff.1 hk).1).trans hk⟩
theorem stop_drop {ls : List (List UInt8)} {N : Nat} (ho : OkN ls) {pre : List (Lab N)} (hsq : Seq (nm ls) (labs pre)) (hpl : Placed pre) {c : Nat} (hlen : pre.length = c + 1) :
    (nm ls).extract ((pre.getLast?.map (fun x => x.1.1)).getD 0) (nm ls).size = nm (ls.drop c) := by
  rcases List.eq_nil_or_concat pre with rfl | ⟨q, x, rfl⟩
  · simp at hlen
  · rw [List.concat_eq_append] at *
    have hq : q.length = c := by simpa using hlen
    obtain ⟨r, hr⟩ := hsq.of_name ho
    rw [labs_snoc, List.append_assoc] at hr
    have hx : x.1.1 = (flat (labs q)).length := by have := hpl q.length (by simp); simpa using this
    have hd : ls.drop c = [x.1.2.data.toList] ++ r := by
      rw [← hr, List.drop_append_of_le_length (by simp [labs]; omega), List.drop_of_length_le (by simp [labs]; omega)]; rfl
    rw [hd]
    simp only [List.getLast?_append, List.getLast?_singleton, Option.some_or, Option.map_some, Option.getD_some]
    rw [hx, ← hr]
    exact flat_drop_nm _ _
set_option maxRecDepth 100000 in
set_option maxHeartbeats 1000000 in
theorem withoutFirst_in (ls : List (List UInt8)) (ho : OkN ls) (c : Nat) (hc : c ≤ ls.length) (w : World) :
    Calls Tryz.prog 117 #[.string (nm ls), .int .i64 c] w fun e w' => e = .returned (.string (nm (ls.drop c))) ∧ Below w.heap.size w w' := by
  have hsz : (nm ls).size ≤ 255 := by rw [nm_size]; have := ho.len; omega
  have hcnt := ho.count
  refine (callsIn_wide (n := 5)).1 ?_
  refine callsIn_of_wp_marks Tryz.func117 rfl trivial ?_ rfl
  simp only [Tryz.ntmps117, List.size_toArray, List.length_cons, List.length_nil, Nat.reduceAdd, Nat.reduceSub, Array.replicate_succ, Array.replicate_zero, List.push_toArray, List.append_toArray, List.nil_append, List.cons_append]
  gi_wp2_with (refine ⟨trivial, ?_⟩; gi_at_call 26; refine (callsIn_wide.2 (eachLabel_in _ _)).mono ?_; rintro e w' ⟨rfl, rfl⟩)
  obtain ⟨W0, hW0⟩ : ∃ W0, ((((w.alloc (.cells #[.string (nm ls)] 9)).alloc (.cells #[.int .i64 (c : Int)] 3)).alloc (.cells #[.string ⟨#[]⟩] 9)).alloc (.cells #[.string (nm ls)] 9)) = W0 := ⟨_, rfl⟩
  have hsz0 : W0.heap.size = w.heap.size + 4 := by rw [← hW0]; simp
  have hx0 : Boxed W0 w.heap.size 9 (.string (nm ls)) := by rw [← hW0]; exact (((Boxed.new _ _ _).alloc _).alloc _).alloc _
  have hx1 : Boxed W0 (w.heap.size + 1) 3 (.int .i64 (c : Int)) := by
    rw [← hW0]
    have := ((Boxed.new (w.alloc (.cells #[.string (nm ls)] 9)) 3 (.int .i64 (c : Int))).alloc (.cells #[.string ⟨#[]⟩] 9)).alloc (.cells #[.string (nm ls)] 9)
    rwa [World.size_alloc] at this
  have hx2 : Boxed W0 (w.heap.size + 1 + 1) 9 (.string ⟨#[]⟩) := by
    rw [← hW0]
    have := (Boxed.new ((w.alloc (.cells #[.string (nm ls)] 9)).alloc (.cells #[.int .i64 (c : Int)] 3)) 9 (.string ⟨#[]⟩)).alloc (.cells #[.string (nm ls)] 9)
    rwa [World.size_alloc, World.size_alloc] at this
  have hx3 : Boxed W0 (w.heap.size + 1 + 1 + 1) 9 (.string (nm ls)) := by
    rw [← hW0]
    have := (Boxed.new (((w.alloc (.cells #[.string (nm ls)] 9)).alloc (.cells #[.int .i64 (c : Int)] 3)).alloc (.cells #[.string ⟨#[]⟩] 9)) 9 (.string (nm ls)))
    rwa [World.size_alloc, World.size_alloc, World.size_alloc] at this
  have hB0 : Below w.heap.size w W0 := by
    rw [← hW0]; exact ((((Below.refl _ _).alloc (Nat.le_refl _) _).alloc (by simp) _).alloc (by simp; omega) _).alloc (by simp; omega) _
  rw [hW0]
  clear hW0
  refine wpIn_rangeFunc_ownF rfl (by omega) (gf := 46) (lb := #[.pointer (some ⟨w.heap.size + 1 + 1 + 1, 0, none⟩)]) rfl trivial (enters_of Tryz.func46 (by kernel_rfl) rfl)
    (eachLabel_stops Fence.wide (5 - 1) trivial rfl (by omega) (w.heap.size + 1 + 1 + 1) (nm ls) hsz _ hx3.lt hx3.cell) KeepCell.t KeepCell.b (Below.refl _ _) (fun _ => rfl)
    (fun pre W => (Boxed W w.heap.size 9 (.string (nm ls)) ∧ Boxed W (w.heap.size + 1) 3 (.int .i64 ((c : Int) - pre.length)) ∧ Boxed W (w.heap.size + 1 + 1) 9 (.string ⟨#[]⟩) ∧ pre.length ≤ c) ∧ Below w.heap.size w W)
    (fun j pre W => (Boxed W (w.heap.size + 1 + 1) 9 (.string ((nm ls).extract ((pre.getLast?.map (fun x => x.1.1)).getD 0) (nm ls).size)) ∧ (j = .ret ∧ pre.length = c + 1)) ∧ Below w.heap.size w W)
    ?hI ?hIx ?h0 (fun x => { tmps := #[.string (nm ls), .int .i64 (c : Int), .pointer (some ⟨w.heap.size, 0, none⟩), .pointer (some ⟨w.heap.size + 1, 0, none⟩), .pointer (some ⟨w.heap.size + 1 + 1, 0, none⟩), .int .i64 (x.1.1 : Int), .string (nm ls), .func (.func 46) #[] #[.pointer (some ⟨w.heap.size + 1 + 1 + 1, 0, none⟩)], .int .i64 (x.1.1 : Int), .string x.1.2, undef, undef, undef, undef, undef, undef, undef, undef], defers := [] }) ?assign ?body ?done ?stop
  case hI =>
    exact OwnFrom.and (OwnFrom.and (Own.from (boxed_own _ _ _) _) (OwnFrom.and (Own.from (boxed_own _ _ _) _) (OwnFrom.and (Own.from (boxed_own _ _ _) _) (ownFrom_pure _ _)))) (ownFrom_below (Nat.le_refl _) (by omega))
  case hIx =>
    intro j
    exact OwnFrom.and (OwnFrom.and (Own.from (boxed_own _ _ _) _) (ownFrom_pure _ _)) (ownFrom_below (Nat.le_refl _) (by omega))
  case h0 =>
    exact ⟨⟨hx0, by simpa using hx1, hx2, Nat.zero_le _⟩, hB0⟩
  case assign =>
    intro l x W K hK
    gi_wp2
    exact hK
  case body =>
    rintro l pre x W ⟨⟨h0, h1, h2, hle⟩, hB⟩ _
    clear hx0 hx1 hx2 hx3 hB0
    have hxl := x.2.1
    have hc0 := h0.cell
    have hc1 := h1.cell
    have hf1 := h1.frozen
    have hlt0 := h0.lt
    have hlt1 := h1.lt
    have hlt2 := h2.lt
    by_cases he : pre.length = c
    · have hz : (((c : Int) - (pre.length : Int)) == 0) = true := by simp; omega
      have hsx : ((nm ls).extract x.1.1 (nm ls).size).size ≤ 255 := by rw [ByteArray.size_extract]; omega
      have HE := Hid.mk he
      clear he hc1 hle
      have hc1 : W.cell? ⟨w.heap.size + 1, 0, none⟩ = some (.int .i64 ((c : Int) - pre.length)) := h1.cell
      gi_wp2_with (refine ⟨trivial, ?_⟩; gi_at_call 96; refine (CallsIn.inRound l (callsIn_wide.2 (clone_in _ _ (Nat.le_trans hsx (by omega))))).mono ?_; rintro e w1 ⟨rfl, hb1⟩; have hy2 : Boxed w1 (w.heap.size + 1 + 1) 9 (.string ⟨#[]⟩) := (hb1.block _ hlt2).trans h2; have hcy := hy2.cell; have hfy := hy2.frozen)
      refine ⟨(keepsOthers_below hb1).trans (KeepsOthers.setCell _ _ _), ⟨?_, rfl, by simp; exact HE.out⟩, (hB.trans (hb1.mono hB.size)).setCell (p := ⟨w.heap.size + 1 + 1, 0, none⟩) (by simp; omega) _⟩
      have := hy2.set (.string ((nm ls).extract x.1.1 (nm ls).size))
      simpa using this
    · have hz : (((c : Int) - (pre.length : Int)) == 0) = false := by simp; omega
      have hlt : pre.length < c := by omega
      clear he
      gi_wp2
      refine ⟨KeepsOthers.setCell _ _ _, KeepCell.setCell _ _ (by omega), ⟨h0.other (by omega) _, ?_, h2.other (by omega) _, by simp; omega⟩, hB.setCell (p := ⟨w.heap.size + 1, 0, none⟩) (by simp) _⟩
      have := h1.set (.int .i64 ((c : Int) - ((pre ++ [x]).length : Nat)))
      have e : ((c : Int) - ((pre ++ [x]).length : Nat)) = (c : Int) - pre.length - 1 := by simp; omega
      rw [e] at this ⊢
      exact this
  case done =>
    rintro D ys W hD ⟨hsq, hpl, hen⟩ ⟨⟨h0, h1, h2, hle⟩, hB⟩ hK
    have hys : labs ys = ls := hsq.all_name ho hen
    have hlen : ls.length = ys.length := by have := congrArg List.length hys; simp [labs] at this; omega
    have hdr : Hid (ls.drop c = []) := List.drop_eq_nil_of_le (by omega)
    clear hys hlen hle
    have hc2 := h2.cell
    have hf2 := h2.frozen
    gi_wp2
    have hK' := (KeepsOthers.setCell W ⟨w.heap.size + 1 + 1, 0, none⟩ (.string ⟨#[0]⟩)).same D _ hK rfl
    refine ⟨by simp, .inl ⟨_, _, rfl, run_takeDeferred hK', ?_⟩⟩
    have hc5 := cell_kept (World.cell?_setCell_same' W ⟨w.heap.size + 1 + 1, 0, none⟩ (.string ⟨#[0]⟩) (by rw [hc2]; rfl)) (grownBy_putObj' _ D (.deferred none)) (fun r e => by cases e; exact ⟨_, hK', rfl⟩)
    refine ⟨.string ⟨#[0]⟩, ?_, by rw [hdr.out]; rfl, (hB.setCell (p := ⟨w.heap.size + 1 + 1, 0, none⟩) (by simp; omega) _).trans (belowK_b (w := w) (Nat.le_refl _) _ D _ _ (by omega) hK' rfl rfl)⟩
    simp [results, Tryz.f117, go_sem, hc5]
  case stop =>
    rintro D j pre W hD ⟨hsq, hpl⟩ ⟨⟨h2, rfl, hlen⟩, hB⟩ hK
    have hv := stop_drop ho hsq hpl hlen
    rw [hv] at h2
    gi_wp2
    refine ⟨by simp, .inl ⟨_, _, rfl, run_takeDeferred hK, ?_⟩⟩
    have hc5 := cell_kept h2.cell (grownBy_putObj' _ D (.deferred none)) (fun r e => by cases e; exact ⟨_, hK, rfl⟩)
    refine ⟨.string (nm (ls.drop c)), ?_, rfl, hB.trans (belowK_b (w := w) (Nat.le_refl _) W D _ _ (by omega) hK rfl rfl)⟩
    simp [results, Tryz.f117, go_sem, hc5]
end Go.Proofs.YtaiakpigljcjbaaGreatDoor
/- Parent, Common, Child, Moved. -/
namespace Go.Proofs.YtaiakpigljcjbaaGreatDoor
set_option linter.unusedVariables false
open Go.RowKit
/-! ### Common -/
def comN (a b : List (List UInt8)) : List (List UInt8) := a.drop (a.length - shEnd (lowN a) (lowN b))
theorem cpl_le : ∀ (a b : List (List UInt8)), cpl a b ≤ a.length ∧ cpl a b ≤ b.length
  | [], b => by simp [cpl]
  | a :: a', [] => by simp [cpl]
  | a :: a', b :: b' => by
    have := cpl_le a' b'
    unfold cpl
    split <;> simp <;> omega
theorem shEnd_le (a b : List (List UInt8)) : shEnd a b ≤ a.length ∧ shEnd a b ≤ b.length := by
  have := cpl_le a.reverse b.reverse; simpa [shEnd] using this
set_option maxHeartbeats 400000 in
theorem common_yes (a b : List (List UInt8)) (ha : OkN a) (hb : OkN b) (w : World) :
    Calls Tryz.prog 94 #[.string (nm a), .string (nm b)] w fun e w' => e = .returned (.tuple #[.string (nm (comN a b)), .int .i64 0]) ∧ Below w.heap.size w w' := by
  have hca := ha.low.count
  have hcb := hb.low.count
  have hla := lowN_length a
  have HL := Hid.mk hla
  have hle := (shEnd_le (lowN a) (lowN b)).1
  have hle' : shEnd (lowN a) (lowN b) ≤ a.length := by rw [← hla]; exact hle
  have hw1 : (((lowN a).length : Int) - (shEnd (lowN a) (lowN b) : Int)) = ((a.length - shEnd (lowN a) (lowN b) : Nat) : Int) := by rw [hla]; omega
  have HW := Hid.mk hw1
  clear hla hle hw1
  go_enter Tryz.func94, Tryz.ntmps94
  go_wp2_with fail
  refine (right_yes a ha _).mono ?_
  rintro e w1 ⟨rfl, hb1⟩
  go_wp2_with fail
  refine (right_yes b hb _).mono ?_
  rintro e w2 ⟨rfl, hb2⟩
  go_wp2_with fail
  refine (lowered_nm a ha _).mono ?_
  rintro e w3 ⟨rfl, hb3⟩
  go_wp2_with fail
  refine (labelsOf_in (lowN a) ha.low _).mono ?_
  rintro e w4 ⟨⟨va, rfl, hva⟩, hb4⟩
  go_wp2_with fail
  refine (lowered_nm b hb _).mono ?_
  rintro e w5 ⟨rfl, hb5⟩
  go_wp2_with fail
  refine (labelsOf_in (lowN b) hb.low _).mono ?_
  rintro e w6 ⟨⟨vb, rfl, hvb⟩, hb6⟩
  have hva6 := (hva.below (bthen hb5 hb6)).mono (bthen hb5 hb6).size
  clear hva
  obtain ⟨q, c, hq⟩ := hva6.form
  subst hq
  go_wp2_with fail
  refine (sharedEnd_in _ _ (lowN a) (lowN b) _ _ (by omega) (by omega) hva6 hvb).mono ?_
  rintro e w7 ⟨rfl, hb7⟩
  clear hva6 hvb
  have hle2 : shEnd (lowN a) (lowN b) ≤ (lowN a).length := by rw [HL.out]; exact hle'
  go_wp2_with fail
  rw [HW.out]
  refine (withoutFirst_in a ha _ (by omega) _).mono ?_
  rintro e w8 ⟨rfl, hb8⟩
  go_wp2
  go_ret2
  exact ⟨rfl, bthen hb1 (bthen hb2 (bthen hb3 (bthen hb4 (bthen hb5 (bthen hb6 (bthen hb7 hb8))))))⟩
/-! ### Parent -/
/-! ### Moved -/
/-! ### what 'under' says of the labels -/
end Go.Proofs.YtaiakpigljcjbaaGreatDoor