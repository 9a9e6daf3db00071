/- The chapter's examples, asked ahead of each statement: all are so. -/
import Derived.Test.YtpngjmeinlcggaaParse
import Derived.Test.YtpngjmeinlcggaaCased
import Derived.Test.YtpngjmeinlcggaaCmp
namespace Go.Proofs.Ytpngjmeinlcggaa
set_option linter.unusedVariables false
open Go.RowKit

def exA : List (List UInt8) := [[119, 119, 119], [69, 120, 97, 109, 112, 108, 101]]
theorem okA : OkN exA := ⟨by decide, by decide⟩

theorem ex_parse1 (w : World) : Calls Try.prog 18 #[.string ⟨#[119, 119, 119, 46, 69, 120, 97, 109, 112, 108, 101, 46]⟩] w fun e w' => e = .returned (.tuple #[.string (nm exA), .int .i64 0]) ∧ Below w.heap.size w w' := by
  have h := parse_in ⟨#[119, 119, 119, 46, 69, 120, 97, 109, 112, 108, 101, 46]⟩ (by decide) w
  have e : parseR (ByteArray.mk #[119, 119, 119, 46, 69, 120, 97, 109, 112, 108, 101, 46]).data.toList = (nmL exA, 0) := by decide +kernel
  rw [e] at h
  exact h
theorem ex_parse2 (w : World) : Calls Try.prog 18 #[.string ⟨#[97, 92, 46, 98, 46, 99]⟩] w fun e w' => e = .returned (.tuple #[.string ⟨#[3, 97, 46, 98, 1, 99, 0]⟩, .int .i64 0]) ∧ Below w.heap.size w w' := by
  have h := parse_in ⟨#[97, 92, 46, 98, 46, 99]⟩ (by decide) w
  have e : parseR (ByteArray.mk #[97, 92, 46, 98, 46, 99]).data.toList = ([3, 97, 46, 98, 1, 99, 0], 0) := by decide +kernel
  rw [e] at h
  exact h
theorem ex_parse3 (w : World) : Calls Try.prog 18 #[.string ⟨#[97, 46, 46, 98]⟩] w fun e w' => e = .returned (.tuple #[.string ⟨#[]⟩, .int .i64 7]) ∧ Below w.heap.size w w' := by
  have h := parse_in ⟨#[97, 46, 46, 98]⟩ (by decide) w
  have e : parseR (ByteArray.mk #[97, 46, 46, 98]).data.toList = ([], 7) := by decide +kernel
  rw [e] at h
  exact h
theorem ex_moved (w : World) : Calls Try.prog 32 #[.string ⟨#[1, 97, 3, 111, 108, 100, 0]⟩, .string ⟨#[3, 111, 108, 100, 0]⟩, .string ⟨#[3, 110, 101, 119, 0]⟩] w fun e w' => e = .returned (.tuple #[.string ⟨#[1, 97, 3, 110, 101, 119, 0]⟩, .int .i64 0]) ∧ Below w.heap.size w w' := by
  have hu : undB [[97], [111, 108, 100]] [[111, 108, 100]] = true := by decide +kernel
  have h := moved_go [[97], [111, 108, 100]] [[111, 108, 100]] [[110, 101, 119]] ⟨by decide, by decide⟩ ⟨by decide, by decide⟩ ⟨by decide, by decide⟩ (by decide) hu (und_bytes _ hu).1 w
  rw [if_pos (by decide)] at h
  exact h
theorem ex_cased (w : World) : Calls Try.prog 36 #[.string ⟨#[3, 97, 98, 99, 0]⟩, .int .u64 5] w fun e w' => e = .returned (.tuple #[.string ⟨#[3, 65, 98, 67, 0]⟩, .int .i64 0]) ∧ Below w.heap.size w w' := by
  have h := cased_yes [[97, 98, 99]] ⟨by decide, by decide⟩ 5 (by omega) w
  have e : casGo 5 0 (nm (lowN [[97, 98, 99]])).data.toList = [3, 65, 98, 67, 0] := by decide +kernel
  rw [e] at h
  exact h
theorem not_empty : ¬ IsName ⟨#[]⟩ := by
  rintro ⟨ls, ho, h⟩
  have := congrArg ByteArray.size h
  have h0 : (⟨#[]⟩ : ByteArray).size = 0 := rfl
  rw [nm_size, h0] at this
  omega
theorem ex_under (w : World) : Calls Try.prog 29 #[.string (nm exA), .string ⟨#[0]⟩] w fun e w' => e = .returned (.bool true) ∧ Below w.heap.size w w' := by
  have h := under_yes exA [] okA okNil w
  have e : undB exA [] = true := by decide +kernel
  rw [e] at h
  exact h
theorem ex_compare (w : World) : Calls Try.prog 30 #[.string ⟨#[1, 122, 0]⟩, .string ⟨#[1, 97, 1, 122, 0]⟩] w fun e w' => e = .returned (.int .i64 (-1)) ∧ Below w.heap.size w w' := by
  have h := compare_yes [[122]] [[97], [122]] ⟨by decide, by decide⟩ ⟨by decide, by decide⟩ w
  have e : cmpN [[122]] [[97], [122]] = -1 := by decide +kernel
  rw [e] at h
  exact h

set_option maxRecDepth 100000 in
set_option maxHeartbeats 1000000 in
theorem examples_in (w : World) : Calls Try.prog 9 #[] w fun e w' => e = .returned (.bool true) ∧ Below w.heap.size w w' := by
  have ha : ((nm exA).toList == [3, 119, 119, 119, 7, 69, 120, 97, 109, 112, 108, 101, 0]) = true := by rw [ByteArray.toList_eq, nm_list]; decide
  go_enter Try.func9, Try.ntmps9
  go_wp2_with fail
  refine (ex_parse1 _).mono ?_
  rintro e w1 ⟨rfl, hb1⟩
  go_wp2_with fail
  refine (ex_parse2 _).mono ?_
  rintro e w2 ⟨rfl, hb2⟩
  go_wp2_with fail
  refine (ex_parse3 _).mono ?_
  rintro e w3 ⟨rfl, hb3⟩
  go_wp2_with fail
  refine (ex_moved _).mono ?_
  rintro e w4 ⟨rfl, hb4⟩
  go_wp2_with fail
  refine (ex_cased _).mono ?_
  rintro e w5 ⟨rfl, hb5⟩
  go_wp2_with fail
  refine (right_yes exA okA _).mono ?_
  rintro e w6 ⟨rfl, hb6⟩
  go_wp2_with fail
  refine (right_no _ not_empty (by decide) _).mono ?_
  rintro e w7 ⟨rfl, hb7⟩
  go_wp2_with fail
  refine (ex_under _).mono ?_
  rintro e w8 ⟨rfl, hb8⟩
  go_wp2_with fail
  refine (ex_compare _).mono ?_
  rintro e w9 ⟨rfl, hb9⟩
  go_wp2
  go_ret
  exact ⟨rfl, bthen hb1 (bthen hb2 (bthen hb3 (bthen hb4 (bthen hb5 (bthen hb6 (bthen hb7 (bthen hb8 hb9)))))))⟩

end Go.Proofs.Ytpngjmeinlcggaa
