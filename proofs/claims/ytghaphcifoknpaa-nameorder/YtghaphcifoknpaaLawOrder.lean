/- NameOrder returns true for every three texts: the order of names is one: of three each is held the same way round about, and only the same ones are in no order. No conditions. -/
import Derived.ProofKit
import Derived.OpenShut
import Derived.ShutString
import Derived.Test.YtghaphcifoknpaaExamples
import Derived.Test.YtghaphcifoknpaaOrder
namespace Go.Proofs.Ytghaphcifoknpaa
set_option linter.unusedVariables false
open Go.RowKit

set_option maxHeartbeats 1000000 in
theorem order_lt_le (s t u : ByteArray) (y z : Int) (w : World)
    (h1 : ∀ w, Calls Try.prog 30 #[.string s, .string t] w fun e w' => e = .returned (.int .i64 (-1)) ∧ Below w.heap.size w w')
    (h2 : ∀ w, Calls Try.prog 30 #[.string t, .string u] w fun e w' => e = .returned (.int .i64 y) ∧ Below w.heap.size w w')
    (h3 : ∀ w, Calls Try.prog 30 #[.string s, .string u] w fun e w' => e = .returned (.int .i64 z) ∧ Below w.heap.size w w')
    (h4 : ∀ w, Calls Try.prog 30 #[.string t, .string s] w fun e w' => e = .returned (.int .i64 1) ∧ Below w.heap.size w w')
    (h5 : ∀ w, Calls Try.prog 30 #[.string s, .string s] w fun e w' => e = .returned (.int .i64 0) ∧ Below w.heap.size w w')
    (h6 : ∀ w, Calls Try.prog 28 #[.string s, .string t] w fun e w' => e = .returned (.bool false) ∧ Below w.heap.size w w')
    (hy : decide (y ≤ 0) = true) (hz : decide (0 < z) = false) :
    Calls Try.prog 8 #[.string s, .string t, .string u] w fun e w' => e = .returned (.bool true) ∧ Below w.heap.size w w' := by
  have H1 := Hid.mk h1
  have H2 := Hid.mk h2
  have H3 := Hid.mk h3
  have H4 := Hid.mk h4
  have H5 := Hid.mk h5
  have H6 := Hid.mk h6
  clear h1 h2 h3 h4 h5 h6
  go_enter Try.func8, Try.ntmps8
  go_wp2_with fail
  refine (examples_in _).mono ?_
  rintro e w1 ⟨rfl, hb1⟩
  go_wp2_with fail
  refine (H1.out _).mono ?_
  rintro e w2 ⟨rfl, hb2⟩
  go_wp2_with fail
  refine (H2.out _).mono ?_
  rintro e w3 ⟨rfl, hb3⟩
  go_wp2_with fail
  refine (H3.out _).mono ?_
  rintro e w4 ⟨rfl, hb4⟩
  go_wp2_with fail
  refine (H4.out _).mono ?_
  rintro e w5 ⟨rfl, hb5⟩
  go_wp2_with fail
  refine (H5.out _).mono ?_
  rintro e w6 ⟨rfl, hb6⟩
  go_wp2_with fail
  refine (H6.out _).mono ?_
  rintro e w7 ⟨rfl, hb7⟩
  go_wp2
  go_ret
  exact ⟨by first | rfl | simp, (bthen hb1 (bthen hb2 (bthen hb3 (bthen hb4 (bthen hb5 (bthen hb6 hb7))))))⟩

set_option maxHeartbeats 1000000 in
theorem order_lt_gt (s t u : ByteArray) (y z : Int) (w : World)
    (h1 : ∀ w, Calls Try.prog 30 #[.string s, .string t] w fun e w' => e = .returned (.int .i64 (-1)) ∧ Below w.heap.size w w')
    (h2 : ∀ w, Calls Try.prog 30 #[.string t, .string u] w fun e w' => e = .returned (.int .i64 y) ∧ Below w.heap.size w w')
    (h3 : ∀ w, Calls Try.prog 30 #[.string s, .string u] w fun e w' => e = .returned (.int .i64 z) ∧ Below w.heap.size w w')
    (h4 : ∀ w, Calls Try.prog 30 #[.string t, .string s] w fun e w' => e = .returned (.int .i64 1) ∧ Below w.heap.size w w')
    (h5 : ∀ w, Calls Try.prog 30 #[.string s, .string s] w fun e w' => e = .returned (.int .i64 0) ∧ Below w.heap.size w w')
    (h6 : ∀ w, Calls Try.prog 28 #[.string s, .string t] w fun e w' => e = .returned (.bool false) ∧ Below w.heap.size w w')
    (hy : decide (y ≤ 0) = false) :
    Calls Try.prog 8 #[.string s, .string t, .string u] w fun e w' => e = .returned (.bool true) ∧ Below w.heap.size w w' := by
  have H1 := Hid.mk h1
  have H2 := Hid.mk h2
  have H3 := Hid.mk h3
  have H4 := Hid.mk h4
  have H5 := Hid.mk h5
  have H6 := Hid.mk h6
  clear h1 h2 h3 h4 h5 h6
  go_enter Try.func8, Try.ntmps8
  go_wp2_with fail
  refine (examples_in _).mono ?_
  rintro e w1 ⟨rfl, hb1⟩
  go_wp2_with fail
  refine (H1.out _).mono ?_
  rintro e w2 ⟨rfl, hb2⟩
  go_wp2_with fail
  refine (H2.out _).mono ?_
  rintro e w3 ⟨rfl, hb3⟩
  go_wp2_with fail
  refine (H3.out _).mono ?_
  rintro e w4 ⟨rfl, hb4⟩
  go_wp2_with fail
  refine (H4.out _).mono ?_
  rintro e w5 ⟨rfl, hb5⟩
  go_wp2_with fail
  refine (H5.out _).mono ?_
  rintro e w6 ⟨rfl, hb6⟩
  go_wp2_with fail
  refine (H6.out _).mono ?_
  rintro e w7 ⟨rfl, hb7⟩
  go_wp2
  go_ret
  exact ⟨by first | rfl | simp, (bthen hb1 (bthen hb2 (bthen hb3 (bthen hb4 (bthen hb5 (bthen hb6 hb7))))))⟩

set_option maxHeartbeats 1000000 in
theorem order_gt_ge (s t u : ByteArray) (y z : Int) (w : World)
    (h1 : ∀ w, Calls Try.prog 30 #[.string s, .string t] w fun e w' => e = .returned (.int .i64 1) ∧ Below w.heap.size w w')
    (h2 : ∀ w, Calls Try.prog 30 #[.string t, .string u] w fun e w' => e = .returned (.int .i64 y) ∧ Below w.heap.size w w')
    (h3 : ∀ w, Calls Try.prog 30 #[.string s, .string u] w fun e w' => e = .returned (.int .i64 z) ∧ Below w.heap.size w w')
    (h4 : ∀ w, Calls Try.prog 30 #[.string t, .string s] w fun e w' => e = .returned (.int .i64 (-1)) ∧ Below w.heap.size w w')
    (h5 : ∀ w, Calls Try.prog 30 #[.string s, .string s] w fun e w' => e = .returned (.int .i64 0) ∧ Below w.heap.size w w')
    (h6 : ∀ w, Calls Try.prog 28 #[.string s, .string t] w fun e w' => e = .returned (.bool false) ∧ Below w.heap.size w w')
    (hy : decide (0 ≤ y) = true) (hz : decide (z < 0) = false) :
    Calls Try.prog 8 #[.string s, .string t, .string u] w fun e w' => e = .returned (.bool true) ∧ Below w.heap.size w w' := by
  have H1 := Hid.mk h1
  have H2 := Hid.mk h2
  have H3 := Hid.mk h3
  have H4 := Hid.mk h4
  have H5 := Hid.mk h5
  have H6 := Hid.mk h6
  clear h1 h2 h3 h4 h5 h6
  go_enter Try.func8, Try.ntmps8
  go_wp2_with fail
  refine (examples_in _).mono ?_
  rintro e w1 ⟨rfl, hb1⟩
  go_wp2_with fail
  refine (H1.out _).mono ?_
  rintro e w2 ⟨rfl, hb2⟩
  go_wp2_with fail
  refine (H2.out _).mono ?_
  rintro e w3 ⟨rfl, hb3⟩
  go_wp2_with fail
  refine (H3.out _).mono ?_
  rintro e w4 ⟨rfl, hb4⟩
  go_wp2_with fail
  refine (H4.out _).mono ?_
  rintro e w5 ⟨rfl, hb5⟩
  go_wp2_with fail
  refine (H5.out _).mono ?_
  rintro e w6 ⟨rfl, hb6⟩
  go_wp2_with fail
  refine (H6.out _).mono ?_
  rintro e w7 ⟨rfl, hb7⟩
  go_wp2
  go_ret
  exact ⟨by first | rfl | simp, (bthen hb1 (bthen hb2 (bthen hb3 (bthen hb4 (bthen hb5 (bthen hb6 hb7))))))⟩

set_option maxHeartbeats 1000000 in
theorem order_gt_lt (s t u : ByteArray) (y z : Int) (w : World)
    (h1 : ∀ w, Calls Try.prog 30 #[.string s, .string t] w fun e w' => e = .returned (.int .i64 1) ∧ Below w.heap.size w w')
    (h2 : ∀ w, Calls Try.prog 30 #[.string t, .string u] w fun e w' => e = .returned (.int .i64 y) ∧ Below w.heap.size w w')
    (h3 : ∀ w, Calls Try.prog 30 #[.string s, .string u] w fun e w' => e = .returned (.int .i64 z) ∧ Below w.heap.size w w')
    (h4 : ∀ w, Calls Try.prog 30 #[.string t, .string s] w fun e w' => e = .returned (.int .i64 (-1)) ∧ Below w.heap.size w w')
    (h5 : ∀ w, Calls Try.prog 30 #[.string s, .string s] w fun e w' => e = .returned (.int .i64 0) ∧ Below w.heap.size w w')
    (h6 : ∀ w, Calls Try.prog 28 #[.string s, .string t] w fun e w' => e = .returned (.bool false) ∧ Below w.heap.size w w')
    (hy : decide (0 ≤ y) = false) :
    Calls Try.prog 8 #[.string s, .string t, .string u] w fun e w' => e = .returned (.bool true) ∧ Below w.heap.size w w' := by
  have H1 := Hid.mk h1
  have H2 := Hid.mk h2
  have H3 := Hid.mk h3
  have H4 := Hid.mk h4
  have H5 := Hid.mk h5
  have H6 := Hid.mk h6
  clear h1 h2 h3 h4 h5 h6
  go_enter Try.func8, Try.ntmps8
  go_wp2_with fail
  refine (examples_in _).mono ?_
  rintro e w1 ⟨rfl, hb1⟩
  go_wp2_with fail
  refine (H1.out _).mono ?_
  rintro e w2 ⟨rfl, hb2⟩
  go_wp2_with fail
  refine (H2.out _).mono ?_
  rintro e w3 ⟨rfl, hb3⟩
  go_wp2_with fail
  refine (H3.out _).mono ?_
  rintro e w4 ⟨rfl, hb4⟩
  go_wp2_with fail
  refine (H4.out _).mono ?_
  rintro e w5 ⟨rfl, hb5⟩
  go_wp2_with fail
  refine (H5.out _).mono ?_
  rintro e w6 ⟨rfl, hb6⟩
  go_wp2_with fail
  refine (H6.out _).mono ?_
  rintro e w7 ⟨rfl, hb7⟩
  go_wp2
  go_ret
  exact ⟨by first | rfl | simp, (bthen hb1 (bthen hb2 (bthen hb3 (bthen hb4 (bthen hb5 (bthen hb6 hb7))))))⟩

set_option maxHeartbeats 1000000 in
theorem order_eq_lt_same (s t u : ByteArray) (y z : Int) (bb : Bool) (w : World)
    (h1 : ∀ w, Calls Try.prog 30 #[.string s, .string t] w fun e w' => e = .returned (.int .i64 0) ∧ Below w.heap.size w w')
    (h2 : ∀ w, Calls Try.prog 30 #[.string t, .string u] w fun e w' => e = .returned (.int .i64 y) ∧ Below w.heap.size w w')
    (h3 : ∀ w, Calls Try.prog 30 #[.string s, .string u] w fun e w' => e = .returned (.int .i64 z) ∧ Below w.heap.size w w')
    (h4 : ∀ w, Calls Try.prog 30 #[.string t, .string s] w fun e w' => e = .returned (.int .i64 0) ∧ Below w.heap.size w w')
    (h5 : ∀ w, Calls Try.prog 30 #[.string s, .string s] w fun e w' => e = .returned (.int .i64 0) ∧ Below w.heap.size w w')
    (h6 : ∀ w, Calls Try.prog 28 #[.string s, .string t] w fun e w' => e = .returned (.bool bb) ∧ Below w.heap.size w w')
    (hy : decide (y ≤ 0) = true) (hy' : decide (0 ≤ y) = false) (hz : decide (0 < z) = false) (hst : (s.toList == t.toList) = true) :
    Calls Try.prog 8 #[.string s, .string t, .string u] w fun e w' => e = .returned (.bool true) ∧ Below w.heap.size w w' := by
  have H1 := Hid.mk h1
  have H2 := Hid.mk h2
  have H3 := Hid.mk h3
  have H4 := Hid.mk h4
  have H5 := Hid.mk h5
  have H6 := Hid.mk h6
  clear h1 h2 h3 h4 h5 h6
  cases bb
  all_goals
    go_enter Try.func8, Try.ntmps8
    go_wp2_with fail
    refine (examples_in _).mono ?_
    rintro e w1 ⟨rfl, hb1⟩
    go_wp2_with fail
    refine (H1.out _).mono ?_
    rintro e w2 ⟨rfl, hb2⟩
    go_wp2_with fail
    refine (H2.out _).mono ?_
    rintro e w3 ⟨rfl, hb3⟩
    go_wp2_with fail
    refine (H3.out _).mono ?_
    rintro e w4 ⟨rfl, hb4⟩
    go_wp2_with fail
    refine (H4.out _).mono ?_
    rintro e w5 ⟨rfl, hb5⟩
    go_wp2_with fail
    refine (H5.out _).mono ?_
    rintro e w6 ⟨rfl, hb6⟩
    go_wp2_with fail
    refine (H6.out _).mono ?_
    rintro e w7 ⟨rfl, hb7⟩
    go_wp2
    go_ret
    exact ⟨by first | rfl | simp, (bthen hb1 (bthen hb2 (bthen hb3 (bthen hb4 (bthen hb5 (bthen hb6 hb7))))))⟩

set_option maxHeartbeats 1000000 in
theorem order_eq_lt_alike (s t u : ByteArray) (y z : Int) (w : World)
    (h1 : ∀ w, Calls Try.prog 30 #[.string s, .string t] w fun e w' => e = .returned (.int .i64 0) ∧ Below w.heap.size w w')
    (h2 : ∀ w, Calls Try.prog 30 #[.string t, .string u] w fun e w' => e = .returned (.int .i64 y) ∧ Below w.heap.size w w')
    (h3 : ∀ w, Calls Try.prog 30 #[.string s, .string u] w fun e w' => e = .returned (.int .i64 z) ∧ Below w.heap.size w w')
    (h4 : ∀ w, Calls Try.prog 30 #[.string t, .string s] w fun e w' => e = .returned (.int .i64 0) ∧ Below w.heap.size w w')
    (h5 : ∀ w, Calls Try.prog 30 #[.string s, .string s] w fun e w' => e = .returned (.int .i64 0) ∧ Below w.heap.size w w')
    (h6 : ∀ w, Calls Try.prog 28 #[.string s, .string t] w fun e w' => e = .returned (.bool true) ∧ Below w.heap.size w w')
    (hy : decide (y ≤ 0) = true) (hy' : decide (0 ≤ y) = false) (hz : decide (0 < z) = false) (hst : (s.toList == t.toList) = false) :
    Calls Try.prog 8 #[.string s, .string t, .string u] w fun e w' => e = .returned (.bool true) ∧ Below w.heap.size w w' := by
  have H1 := Hid.mk h1
  have H2 := Hid.mk h2
  have H3 := Hid.mk h3
  have H4 := Hid.mk h4
  have H5 := Hid.mk h5
  have H6 := Hid.mk h6
  clear h1 h2 h3 h4 h5 h6
  go_enter Try.func8, Try.ntmps8
  go_wp2_with fail
  refine (examples_in _).mono ?_
  rintro e w1 ⟨rfl, hb1⟩
  go_wp2_with fail
  refine (H1.out _).mono ?_
  rintro e w2 ⟨rfl, hb2⟩
  go_wp2_with fail
  refine (H2.out _).mono ?_
  rintro e w3 ⟨rfl, hb3⟩
  go_wp2_with fail
  refine (H3.out _).mono ?_
  rintro e w4 ⟨rfl, hb4⟩
  go_wp2_with fail
  refine (H4.out _).mono ?_
  rintro e w5 ⟨rfl, hb5⟩
  go_wp2_with fail
  refine (H5.out _).mono ?_
  rintro e w6 ⟨rfl, hb6⟩
  go_wp2_with fail
  refine (H6.out _).mono ?_
  rintro e w7 ⟨rfl, hb7⟩
  go_wp2_with fail
  refine (H6.out _).mono ?_
  rintro e w8 ⟨rfl, hb8⟩
  go_wp2
  go_ret
  exact ⟨by first | rfl | simp, (bthen hb1 (bthen hb2 (bthen hb3 (bthen hb4 (bthen hb5 (bthen hb6 (bthen hb7 hb8)))))))⟩

set_option maxHeartbeats 1000000 in
theorem order_eq_eq_same (s t u : ByteArray) (y z : Int) (bb : Bool) (w : World)
    (h1 : ∀ w, Calls Try.prog 30 #[.string s, .string t] w fun e w' => e = .returned (.int .i64 0) ∧ Below w.heap.size w w')
    (h2 : ∀ w, Calls Try.prog 30 #[.string t, .string u] w fun e w' => e = .returned (.int .i64 y) ∧ Below w.heap.size w w')
    (h3 : ∀ w, Calls Try.prog 30 #[.string s, .string u] w fun e w' => e = .returned (.int .i64 z) ∧ Below w.heap.size w w')
    (h4 : ∀ w, Calls Try.prog 30 #[.string t, .string s] w fun e w' => e = .returned (.int .i64 0) ∧ Below w.heap.size w w')
    (h5 : ∀ w, Calls Try.prog 30 #[.string s, .string s] w fun e w' => e = .returned (.int .i64 0) ∧ Below w.heap.size w w')
    (h6 : ∀ w, Calls Try.prog 28 #[.string s, .string t] w fun e w' => e = .returned (.bool bb) ∧ Below w.heap.size w w')
    (hy : decide (y ≤ 0) = true) (hy' : decide (0 ≤ y) = true) (hz : decide (0 < z) = false) (hz' : decide (z < 0) = false) (hst : (s.toList == t.toList) = true) :
    Calls Try.prog 8 #[.string s, .string t, .string u] w fun e w' => e = .returned (.bool true) ∧ Below w.heap.size w w' := by
  have H1 := Hid.mk h1
  have H2 := Hid.mk h2
  have H3 := Hid.mk h3
  have H4 := Hid.mk h4
  have H5 := Hid.mk h5
  have H6 := Hid.mk h6
  clear h1 h2 h3 h4 h5 h6
  cases bb
  all_goals
    go_enter Try.func8, Try.ntmps8
    go_wp2_with fail
    refine (examples_in _).mono ?_
    rintro e w1 ⟨rfl, hb1⟩
    go_wp2_with fail
    refine (H1.out _).mono ?_
    rintro e w2 ⟨rfl, hb2⟩
    go_wp2_with fail
    refine (H2.out _).mono ?_
    rintro e w3 ⟨rfl, hb3⟩
    go_wp2_with fail
    refine (H3.out _).mono ?_
    rintro e w4 ⟨rfl, hb4⟩
    go_wp2_with fail
    refine (H4.out _).mono ?_
    rintro e w5 ⟨rfl, hb5⟩
    go_wp2_with fail
    refine (H5.out _).mono ?_
    rintro e w6 ⟨rfl, hb6⟩
    go_wp2_with fail
    refine (H6.out _).mono ?_
    rintro e w7 ⟨rfl, hb7⟩
    go_wp2
    go_ret
    exact ⟨by first | rfl | simp, (bthen hb1 (bthen hb2 (bthen hb3 (bthen hb4 (bthen hb5 (bthen hb6 hb7))))))⟩

set_option maxHeartbeats 1000000 in
theorem order_eq_eq_alike (s t u : ByteArray) (y z : Int) (w : World)
    (h1 : ∀ w, Calls Try.prog 30 #[.string s, .string t] w fun e w' => e = .returned (.int .i64 0) ∧ Below w.heap.size w w')
    (h2 : ∀ w, Calls Try.prog 30 #[.string t, .string u] w fun e w' => e = .returned (.int .i64 y) ∧ Below w.heap.size w w')
    (h3 : ∀ w, Calls Try.prog 30 #[.string s, .string u] w fun e w' => e = .returned (.int .i64 z) ∧ Below w.heap.size w w')
    (h4 : ∀ w, Calls Try.prog 30 #[.string t, .string s] w fun e w' => e = .returned (.int .i64 0) ∧ Below w.heap.size w w')
    (h5 : ∀ w, Calls Try.prog 30 #[.string s, .string s] w fun e w' => e = .returned (.int .i64 0) ∧ Below w.heap.size w w')
    (h6 : ∀ w, Calls Try.prog 28 #[.string s, .string t] w fun e w' => e = .returned (.bool true) ∧ Below w.heap.size w w')
    (hy : decide (y ≤ 0) = true) (hy' : decide (0 ≤ y) = true) (hz : decide (0 < z) = false) (hz' : decide (z < 0) = false) (hst : (s.toList == t.toList) = false) :
    Calls Try.prog 8 #[.string s, .string t, .string u] w fun e w' => e = .returned (.bool true) ∧ Below w.heap.size w w' := by
  have H1 := Hid.mk h1
  have H2 := Hid.mk h2
  have H3 := Hid.mk h3
  have H4 := Hid.mk h4
  have H5 := Hid.mk h5
  have H6 := Hid.mk h6
  clear h1 h2 h3 h4 h5 h6
  go_enter Try.func8, Try.ntmps8
  go_wp2_with fail
  refine (examples_in _).mono ?_
  rintro e w1 ⟨rfl, hb1⟩
  go_wp2_with fail
  refine (H1.out _).mono ?_
  rintro e w2 ⟨rfl, hb2⟩
  go_wp2_with fail
  refine (H2.out _).mono ?_
  rintro e w3 ⟨rfl, hb3⟩
  go_wp2_with fail
  refine (H3.out _).mono ?_
  rintro e w4 ⟨rfl, hb4⟩
  go_wp2_with fail
  refine (H4.out _).mono ?_
  rintro e w5 ⟨rfl, hb5⟩
  go_wp2_with fail
  refine (H5.out _).mono ?_
  rintro e w6 ⟨rfl, hb6⟩
  go_wp2_with fail
  refine (H6.out _).mono ?_
  rintro e w7 ⟨rfl, hb7⟩
  go_wp2_with fail
  refine (H6.out _).mono ?_
  rintro e w8 ⟨rfl, hb8⟩
  go_wp2
  go_ret
  exact ⟨by first | rfl | simp, (bthen hb1 (bthen hb2 (bthen hb3 (bthen hb4 (bthen hb5 (bthen hb6 (bthen hb7 hb8)))))))⟩

set_option maxHeartbeats 1000000 in
theorem order_eq_gt_same (s t u : ByteArray) (y z : Int) (bb : Bool) (w : World)
    (h1 : ∀ w, Calls Try.prog 30 #[.string s, .string t] w fun e w' => e = .returned (.int .i64 0) ∧ Below w.heap.size w w')
    (h2 : ∀ w, Calls Try.prog 30 #[.string t, .string u] w fun e w' => e = .returned (.int .i64 y) ∧ Below w.heap.size w w')
    (h3 : ∀ w, Calls Try.prog 30 #[.string s, .string u] w fun e w' => e = .returned (.int .i64 z) ∧ Below w.heap.size w w')
    (h4 : ∀ w, Calls Try.prog 30 #[.string t, .string s] w fun e w' => e = .returned (.int .i64 0) ∧ Below w.heap.size w w')
    (h5 : ∀ w, Calls Try.prog 30 #[.string s, .string s] w fun e w' => e = .returned (.int .i64 0) ∧ Below w.heap.size w w')
    (h6 : ∀ w, Calls Try.prog 28 #[.string s, .string t] w fun e w' => e = .returned (.bool bb) ∧ Below w.heap.size w w')
    (hy : decide (y ≤ 0) = false) (hy' : decide (0 ≤ y) = true) (hz' : decide (z < 0) = false) (hst : (s.toList == t.toList) = true) :
    Calls Try.prog 8 #[.string s, .string t, .string u] w fun e w' => e = .returned (.bool true) ∧ Below w.heap.size w w' := by
  have H1 := Hid.mk h1
  have H2 := Hid.mk h2
  have H3 := Hid.mk h3
  have H4 := Hid.mk h4
  have H5 := Hid.mk h5
  have H6 := Hid.mk h6
  clear h1 h2 h3 h4 h5 h6
  cases bb
  all_goals
    go_enter Try.func8, Try.ntmps8
    go_wp2_with fail
    refine (examples_in _).mono ?_
    rintro e w1 ⟨rfl, hb1⟩
    go_wp2_with fail
    refine (H1.out _).mono ?_
    rintro e w2 ⟨rfl, hb2⟩
    go_wp2_with fail
    refine (H2.out _).mono ?_
    rintro e w3 ⟨rfl, hb3⟩
    go_wp2_with fail
    refine (H3.out _).mono ?_
    rintro e w4 ⟨rfl, hb4⟩
    go_wp2_with fail
    refine (H4.out _).mono ?_
    rintro e w5 ⟨rfl, hb5⟩
    go_wp2_with fail
    refine (H5.out _).mono ?_
    rintro e w6 ⟨rfl, hb6⟩
    go_wp2_with fail
    refine (H6.out _).mono ?_
    rintro e w7 ⟨rfl, hb7⟩
    go_wp2
    go_ret
    exact ⟨by first | rfl | simp, (bthen hb1 (bthen hb2 (bthen hb3 (bthen hb4 (bthen hb5 (bthen hb6 hb7))))))⟩

set_option maxHeartbeats 1000000 in
theorem order_eq_gt_alike (s t u : ByteArray) (y z : Int) (w : World)
    (h1 : ∀ w, Calls Try.prog 30 #[.string s, .string t] w fun e w' => e = .returned (.int .i64 0) ∧ Below w.heap.size w w')
    (h2 : ∀ w, Calls Try.prog 30 #[.string t, .string u] w fun e w' => e = .returned (.int .i64 y) ∧ Below w.heap.size w w')
    (h3 : ∀ w, Calls Try.prog 30 #[.string s, .string u] w fun e w' => e = .returned (.int .i64 z) ∧ Below w.heap.size w w')
    (h4 : ∀ w, Calls Try.prog 30 #[.string t, .string s] w fun e w' => e = .returned (.int .i64 0) ∧ Below w.heap.size w w')
    (h5 : ∀ w, Calls Try.prog 30 #[.string s, .string s] w fun e w' => e = .returned (.int .i64 0) ∧ Below w.heap.size w w')
    (h6 : ∀ w, Calls Try.prog 28 #[.string s, .string t] w fun e w' => e = .returned (.bool true) ∧ Below w.heap.size w w')
    (hy : decide (y ≤ 0) = false) (hy' : decide (0 ≤ y) = true) (hz' : decide (z < 0) = false) (hst : (s.toList == t.toList) = false) :
    Calls Try.prog 8 #[.string s, .string t, .string u] w fun e w' => e = .returned (.bool true) ∧ Below w.heap.size w w' := by
  have H1 := Hid.mk h1
  have H2 := Hid.mk h2
  have H3 := Hid.mk h3
  have H4 := Hid.mk h4
  have H5 := Hid.mk h5
  have H6 := Hid.mk h6
  clear h1 h2 h3 h4 h5 h6
  go_enter Try.func8, Try.ntmps8
  go_wp2_with fail
  refine (examples_in _).mono ?_
  rintro e w1 ⟨rfl, hb1⟩
  go_wp2_with fail
  refine (H1.out _).mono ?_
  rintro e w2 ⟨rfl, hb2⟩
  go_wp2_with fail
  refine (H2.out _).mono ?_
  rintro e w3 ⟨rfl, hb3⟩
  go_wp2_with fail
  refine (H3.out _).mono ?_
  rintro e w4 ⟨rfl, hb4⟩
  go_wp2_with fail
  refine (H4.out _).mono ?_
  rintro e w5 ⟨rfl, hb5⟩
  go_wp2_with fail
  refine (H5.out _).mono ?_
  rintro e w6 ⟨rfl, hb6⟩
  go_wp2_with fail
  refine (H6.out _).mono ?_
  rintro e w7 ⟨rfl, hb7⟩
  go_wp2_with fail
  refine (H6.out _).mono ?_
  rintro e w8 ⟨rfl, hb8⟩
  go_wp2
  go_ret
  exact ⟨by first | rfl | simp, (bthen hb1 (bthen hb2 (bthen hb3 (bthen hb4 (bthen hb5 (bthen hb6 (bthen hb7 hb8)))))))⟩

theorem order_walk (s t u : ByteArray) (hs : s.size ≤ maxLen) (ht : t.size ≤ maxLen) (hu : u.size ≤ maxLen) (w : World) :
    Calls Try.prog 8 #[.string s, .string t, .string u] w fun e w' => e = .returned (.bool true) ∧ Below w.heap.size w w' := by
  obtain ⟨p, hp⟩ := has_key s
  obtain ⟨q, hq⟩ := has_key t
  obtain ⟨r, hr⟩ := has_key u
  have c1 := compare_any hs ht hp hq
  have c2 := compare_any ht hu hq hr
  have c3 := compare_any hs hu hp hr
  have c4 := compare_any ht hs hq hp
  have c5 := compare_any hs hs hp hp
  obtain ⟨b, hb1, hb2, c6⟩ := equal_any hs ht hp hq
  rw [cmpK_refl] at c5
  rw [cmpK_anti] at c4
  have tr1 : cmpK p q ≤ 0 → cmpK q r ≤ 0 → cmpK p r ≤ 0 := cmpK_trans
  have tr2 : 0 ≤ cmpK p q → 0 ≤ cmpK q r → 0 ≤ cmpK p r := by
    intro h1 h2
    have a1 := cmpK_anti p q
    have a2 := cmpK_anti q r
    have a3 := cmpK_anti p r
    have := cmpK_trans (p := r) (q := q) (r := p) (by omega) (by omega)
    omega
  have sx := cmpK_sign p q
  generalize cmpK p q = x at *
  generalize cmpK q r = y at *
  generalize cmpK p r = z at *
  rcases sx with rfl | rfl | rfl
  · have hbf : b = false := by cases b with | false => rfl | true => exact absurd (hb1 rfl) (by decide)
    subst hbf
    by_cases h : y ≤ 0
    · exact order_lt_le s t u y z w c1 c2 c3 c4 c5 c6 (by simpa using h) (by have := tr1 (by decide) h; simp; omega)
    · exact order_lt_gt s t u y z w c1 c2 c3 c4 c5 c6 (by simp; omega)
  · by_cases hst : (s.toList == t.toList) = true
    · by_cases h : y < 0
      · exact order_eq_lt_same s t u y z b w c1 c2 c3 c4 c5 c6 (by simp; omega) (by simp; omega) (by have := tr1 (by decide) (by omega); simp; omega) hst
      · by_cases h0 : y = 0
        · exact order_eq_eq_same s t u y z b w c1 c2 c3 c4 c5 c6 (by simp; omega) (by simp; omega) (by have := tr1 (by decide) (by omega); simp; omega) (by have := tr2 (by decide) (by omega); simp; omega) hst
        · exact order_eq_gt_same s t u y z b w c1 c2 c3 c4 c5 c6 (by simp; omega) (by simp; omega) (by have := tr2 (by decide) (by omega); simp; omega) hst
    · have hbt : b = true := by
        rcases hb2 rfl with h | h
        · exact h
        · subst h; exact absurd (by simp) hst
      subst hbt
      have hst' : (s.toList == t.toList) = false := by simpa using hst
      by_cases h : y < 0
      · exact order_eq_lt_alike s t u y z w c1 c2 c3 c4 c5 c6 (by simp; omega) (by simp; omega) (by have := tr1 (by decide) (by omega); simp; omega) hst'
      · by_cases h0 : y = 0
        · exact order_eq_eq_alike s t u y z w c1 c2 c3 c4 c5 c6 (by simp; omega) (by simp; omega) (by have := tr1 (by decide) (by omega); simp; omega) (by have := tr2 (by decide) (by omega); simp; omega) hst'
        · exact order_eq_gt_alike s t u y z w c1 c2 c3 c4 c5 c6 (by simp; omega) (by simp; omega) (by have := tr2 (by decide) (by omega); simp; omega) hst'
  · have hbf : b = false := by cases b with | false => rfl | true => exact absurd (hb1 rfl) (by decide)
    subst hbf
    by_cases h : 0 ≤ y
    · exact order_gt_ge s t u y z w c1 c2 c3 c4 c5 c6 (by simpa using h) (by have := tr2 (by decide) h; simp; omega)
    · exact order_gt_lt s t u y z w c1 c2 c3 c4 c5 c6 (by simp; omega)

namespace nameOrder
open Go.ChangeShapes Go.WideShapes Go.ChangeAt Go.RowKit
open Go.ChangeMaps (open_string shut_string)

theorem own : ownKnob Try.prog.godebug = none := by kernel_rfl

set_option maxRecDepth 100000 in
theorem lifted (os : Os) (started : os.Started) (H : Type) (enc : TypeId × Value → H) :
    ReturnsInHanded {} Try.checked os 8 .any (Rows.nameOrderSpec.pre6 enc Try.prog Try.f8 Rows.nameOrderRow.domain false) (Rows.nameOrderSpec.post enc Try.prog Try.f8 false true false false) := by
  refine returnsInHanded_of_change (C := Try.checked) own started (by kernel_rfl) Try.func8
    (ChangeSpec.witness6 (enc := enc) (C := Try.checked) false ⟨#[], #[.string ByteArray.empty, .string ByteArray.empty, .string ByteArray.empty], []⟩ 8 (by kernel_rfl) (by kernel_rfl) (by kernel_rfl) (by kernel_rfl)) ?_
  intro W base args ds gs before hval0 hW hcnd _
  have hval : ∀ (j : Nat) t v, Try.f8.params[j]? = some t → args[j]? = some v → Value.okWide Try.prog W .any base t v := hval0
  have hW' := hW
  obtain ⟨p, q, hA0, hV, rfl, hfz, hnd⟩ := hW
  have hA : DataW.TrodAll enc Try.prog W 0 (fun _ => true) true Try.f8.params.toList args.toList ds p := hA0
  rw [Try.params8] at hA hval
  obtain ⟨v0, vs0, d0, ds0, p0, q0, hargs, rfl, rfl, h0, r0⟩ := trodAll_cons hA
  obtain ⟨v1, vs1, d1, ds1, p1, q1, rfl, rfl, rfl, h1, r1⟩ := trodAll_cons r0
  obtain ⟨v2, vs2, d2, ds2, p2, q2, rfl, rfl, rfl, h2, r2⟩ := trodAll_cons r1
  obtain ⟨rfl, rfl, rfl⟩ := trodAll_nil r2
  obtain rfl : args = #[v0, v1, v2] := by cases args; simp_all
  obtain ⟨rfl, rfl⟩ := trodVars_none hV
  obtain ⟨a0, rfl, rfl, rfl, w0⟩ := open_string Try.underlying9 (hval 0 9 v0 rfl rfl) h0
  obtain ⟨a1, rfl, rfl, rfl, w1⟩ := open_string Try.underlying9 (hval 1 9 v1 rfl rfl) h1
  obtain ⟨a2, rfl, rfl, rfl, w2⟩ := open_string Try.underlying9 (hval 2 9 v2 rfl rfl) h2
  clear hA0 hval0
  simp only [List.append_nil] at hW'
  refine (order_walk a0 a1 a2 w0 w1 w2 W).mono fun e W' ⟨he, bel⟩ => ?_
  subst he
  exact ⟨_, rfl, _, _, _, [], [], [], hW', trodAll_mk1 (shut_bool Try.underlying4 _), (trodAll_cons_mk (shut_string Try.underlying9 w0) (trodAll_cons_mk (shut_string Try.underlying9 w1) (trodAll_cons_mk (shut_string Try.underlying9 w2) trodAll_mk0))), rfl, bel.frame _, fun h => by cases h⟩

theorem over : Rows.nameOrderRow.holds Try.pinned (OpenSpec.ofChange Rows.nameOrderSpec) :=
  OpenClaim.holds_of_wide 8 Try.f8 rfl rfl rfl rfl rfl rfl rfl ⟨rfl, rfl, rfl, rfl, rfl⟩ rfl rfl rfl rfl rfl (by kernel_rfl) Try.func8 (by kernel_rfl)
    (of_decide_eq_true (by kernel_rfl)) (by unfold Func.isWrapper; first | (rw [if_pos (by decide +kernel)]; kernel_rfl) | (rw [if_neg (by decide +kernel)]; exact ⟨rfl, rfl⟩))
    (fun os started H enc _ => lifted os started H enc)
end nameOrder

theorem nameOrder_holds : Rows.NameOrderSaid := nameOrder.over

end Go.Proofs.Ytghaphcifoknpaa
