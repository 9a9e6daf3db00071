/- Layer 13: ParseUint, moved. -/
import Derived.Test.YtpognbkdafnfjaaDoorAcPu
import Derived.Test.YtpognbkdafnfjaaDoorAcSp
namespace Go.Proofs.YtpognbkdafnfjaaDoor
set_option linter.unusedVariables false
set_option linter.unusedSimpArgs false
open Go.RowKit

def PupPost (o : Option Nat) (e : Ending) : Prop := (∃ n : Nat, o = some n ∧ e = .returned (.tuple #[.int .u64 (n : Int), .nilIface])) ∨ (o = none ∧ ∃ x te pe, e = .returned (.tuple #[.int .u64 x, .iface te pe]))
set_option maxRecDepth 100000 in
set_option maxHeartbeats 4000000 in
theorem pup_in (v : Bool) (t : ByteArray) (ht : t.size ≤ 140737488355328) (w : World) (hG : AG w) :
    Calls Tryd.prog 43 #[.string t, .int .i64 ((shp v).base : Int), .int .i64 ((shp v).bits : Int)] w fun e w' => PupPost (puR (shp v).base (2 ^ (shp v).bits - 1) t.data.toList) e ∧ Below w.heap.size w w' := by
  have H : Hid (Calls Tryd.prog 53 #[.string t, .int .i64 ((shp v).base : Int), .int .i64 ((shp v).bits : Int)] w fun e w' => PuPost (puR (shp v).base (2 ^ (shp v).bits - 1) t.data.toList) e ∧ Below w.heap.size w w') := by
    cases v
    · exact pu10_in t (by omega) w
    · exact pu16_in t (by omega) w
  generalize puR (shp v).base (2 ^ (shp v).bits - 1) t.data.toList = R at *
  generalize (shp v).base = B at *
  generalize (shp v).bits = C at *
  have HS : Hid (∀ w', Below w.heap.size w w' → Calls Tryd.prog 54 #[.string ⟨#[80, 97, 114, 115, 101, 85, 105, 110, 116]⟩, .string t, .int .i64 (B : Int), .int .i64 (C : Int), .iface 113 (.int .i64 2)] w' fun e w'' => (∃ te pe, e = .returned (.iface te pe)) ∧ Below w'.heap.size w' w'') := fun w' hb => by
    obtain ⟨te, pe, hc⟩ := (hG.below hb).syn
    exact (Tryd.strconv_toError_syntax _ t B C _ w' (by omega) hc (.inr ⟨te, pe, rfl⟩)).mono fun e w'' ⟨N, he, _, _, hb⟩ => ⟨⟨_, _, he⟩, hb⟩
  have HR : Hid (∀ w', Below w.heap.size w w' → Calls Tryd.prog 54 #[.string ⟨#[80, 97, 114, 115, 101, 85, 105, 110, 116]⟩, .string t, .int .i64 (B : Int), .int .i64 (C : Int), .iface 113 (.int .i64 1)] w' fun e w'' => (∃ te pe, e = .returned (.iface te pe)) ∧ Below w'.heap.size w' w'') := fun w' hb => by
    obtain ⟨te, pe, hc⟩ := (hG.below hb).rng
    exact (Tryd.strconv_toError_range _ t B C _ w' (by omega) hc (.inr ⟨te, pe, rfl⟩)).mono fun e w'' ⟨N, he, _, _, hb⟩ => ⟨⟨_, _, he⟩, hb⟩
  clear hG ht
  go_enter Tryd.func43, Tryd.ntmps43
  go_wp2_with fail
  refine H.out.mono ?_
  rintro e w1 ⟨hp, hb1⟩
  rcases hp with ⟨n, rfl, rfl⟩ | ⟨rfl, x, k, hk, rfl⟩
  · go_wp2
    go_ret2
    exact ⟨.inl ⟨n, rfl, rfl⟩, hb1⟩
  · rcases hk with rfl | rfl
    · go_wp2_with fail
      refine (HR.out _ hb1).mono ?_
      rintro e w2 ⟨⟨te, pe, rfl⟩, hb2⟩
      go_wp2
      go_ret2
      exact ⟨.inr ⟨rfl, _, _, _, rfl⟩, hb1.trans (hb2.mono hb1.size)⟩
    · go_wp2_with fail
      refine (HS.out _ hb1).mono ?_
      rintro e w2 ⟨⟨te, pe, rfl⟩, hb2⟩
      go_wp2
      go_ret2
      exact ⟨.inr ⟨rfl, _, _, _, rfl⟩, hb1.trans (hb2.mono hb1.size)⟩
theorem or_int (h l p q : Nat) (hl : l < 2 ^ 64) : bits BinOp.or IntKind.u64 (IntKind.u64.wrap ((h : Int) * p)) ((l : Int) / q) = ((h * p % 2 ^ 64 ||| l / q : Nat) : Int) := by
  have e1 : IntKind.u64.wrap ((h : Int) * p) = ((h * p % 2 ^ 64 : Nat) : Int) := by
    rw [IntKind.wrap_u64, ← Int.natCast_mul]
    omega
  rw [e1, ← Int.natCast_ediv, bits_or_u64 _ _ (Nat.mod_lt _ (by decide)) (Nat.lt_of_le_of_lt (Nat.div_le_self _ _) hl)]
theorem or_int2 (l p n : Nat) (hn : n < 2 ^ 64) : bits BinOp.or IntKind.u64 (IntKind.u64.wrap ((l : Int) * p)) (n : Int) = ((l * p % 2 ^ 64 ||| n : Nat) : Int) := by
  have := or_int l n p 1 hn
  simpa using this
theorem heap_two (w : World) (a b : Obj) : ((w.alloc a).alloc b).drew.heap[w.heap.size + 1]? = some b := by
  show ((w.heap.push a).push b)[w.heap.size + 1]? = _
  simp [Array.getElem_push]
set_option maxRecDepth 100000 in
set_option maxHeartbeats 4000000 in
theorem moved_in (v : Bool) (h l n : Nat) (hh : h < 2 ^ 64) (hl : l < 2 ^ 64) (hn : n < 2 ^ (shp v).bits) (w : World) :
    Calls Tryd.prog 44 #[adV v h l, .int .i64 ((shp v).bits : Int), .int .u64 (n : Int)] w fun e w' => e = .returned (adV v (mvd ⟨v, h, l⟩ (shp v).bits n).hi (mvd ⟨v, h, l⟩ (shp v).bits n).lo) ∧ Below w.heap.size w w' := by
  unfold mvd
  simp only
  cases v with
  | true =>
    rw [show (shp true).bits = 16 from rfl] at hn ⊢
    have h1 : bits BinOp.or IntKind.u64 (IntKind.u64.wrap ((h : Int) * 65536)) ((l : Int) / 281474976710656) = ((h * 2 ^ 16 % 2 ^ 64 ||| l / 2 ^ (64 - 16) : Nat) : Int) := or_int h l 65536 281474976710656 hl
    have h2 : bits BinOp.or IntKind.u64 (IntKind.u64.wrap ((l : Int) * 65536)) (n : Int) = ((l * 2 ^ 16 % 2 ^ 64 ||| n : Nat) : Int) := or_int2 l 65536 n (by omega)
    obtain ⟨A, hA⟩ : ∃ A, (h * 2 ^ 16 % 2 ^ 64 ||| l / 2 ^ (64 - 16)) = A := ⟨_, rfl⟩
    obtain ⟨B, hB⟩ : ∃ B, (l * 2 ^ 16 % 2 ^ 64 ||| n) = B := ⟨_, rfl⟩
    rw [hA] at h1 ⊢
    rw [hB] at h2 ⊢
    clear hA hB
    have HH := Hid.mk (And.intro h1 h2)
    clear h1 h2
    go_enter Tryd.func44, Tryd.ntmps44
    go_upto_region 1 with fail
    go_region
    go_wp2
    refine bodyPost_ret (results_ad Tryd.results44 rfl (heap_two ..)) rfl ⟨?_, by go_grown⟩
    rw [HH.out.1, HH.out.2]
  | false =>
    rw [show (shp false).bits = 8 from rfl] at hn ⊢
    have h1 : bits BinOp.or IntKind.u64 (IntKind.u64.wrap ((h : Int) * 256)) ((l : Int) / 72057594037927936) = ((h * 2 ^ 8 % 2 ^ 64 ||| l / 2 ^ (64 - 8) : Nat) : Int) := or_int h l 256 72057594037927936 hl
    have h2 : bits BinOp.or IntKind.u64 (IntKind.u64.wrap ((l : Int) * 256)) (n : Int) = ((l * 2 ^ 8 % 2 ^ 64 ||| n : Nat) : Int) := or_int2 l 256 n (by omega)
    obtain ⟨A, hA⟩ : ∃ A, (h * 2 ^ 8 % 2 ^ 64 ||| l / 2 ^ (64 - 8)) = A := ⟨_, rfl⟩
    obtain ⟨B, hB⟩ : ∃ B, (l * 2 ^ 8 % 2 ^ 64 ||| n) = B := ⟨_, rfl⟩
    rw [hA] at h1 ⊢
    rw [hB] at h2 ⊢
    clear hA hB
    have HH := Hid.mk (And.intro h1 h2)
    clear h1 h2
    go_enter Tryd.func44, Tryd.ntmps44
    go_upto_region 1 with fail
    go_region
    go_wp2
    refine bodyPost_ret (results_ad Tryd.results44 rfl (heap_two ..)) rfl ⟨?_, by go_grown⟩
    rw [HH.out.1, HH.out.2]
end Go.Proofs.YtpognbkdafnfjaaDoor
