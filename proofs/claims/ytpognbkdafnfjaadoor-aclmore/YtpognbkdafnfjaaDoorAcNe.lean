/- Layer 13: addresses and prefixes that are not the same. -/
import Derived.Test.YtpognbkdafnfjaaDoorAcOp
namespace Go.Proofs.YtpognbkdafnfjaaDoor
set_option linter.unusedVariables false
set_option linter.unusedSimpArgs false
open Go.RowKit
def adNeV (x y : Value) : Sem Value := binOp .neq 32 x y
def pfNeV (x y : Value) : Sem Value := binOp .neq 34 x y
theorem bin_adn (x y : Value) : binOp .neq 32 x y = adNeV x y := rfl
theorem bin_pfn (x y : Value) : binOp .neq 34 x y = pfNeV x y := rfl
theorem adNeV_run (W : World) (v v' : Bool) (h l h' l' : Nat) : (adNeV (adV v h l) (adV v' h' l')).run Tryd.prog W = .ok (.bool (!decide ((⟨v, h, l⟩ : Ad) = ⟨v', h', l'⟩))) W := by
  unfold adNeV
  rw [run_neq_struct, adEq_run 9997 W]
  rfl
theorem pfNeV_run (W : World) (v v' : Bool) (h l h' l' : Nat) (n n' : Int) : (pfNeV (pfV v h l n) (pfV v' h' l' n')).run Tryd.prog W = .ok (.bool (!decide ((⟨v, h, l⟩ : Ad) = ⟨v', h', l'⟩ ∧ n = n'))) W := by
  unfold pfNeV
  rw [run_neq_struct, pfEq_run 9996 W]
  rfl
theorem pfNe_zero (W : World) : (pfNeV (.agg #[.bool false, .int .u64 0, .int .u64 0, .int .i64 0]) (.agg #[.bool false, .int .u64 0, .int .u64 0, .int .i64 0])).run Tryd.prog W = .ok (.bool false) W := pfNeV_run W false false 0 0 0 0 0 0
theorem adEq_zero (W : World) : (adEqV (.agg #[.bool false, .int .u64 0, .int .u64 0]) (.agg #[.bool false, .int .u64 0, .int .u64 0])).run Tryd.prog W = .ok (.bool true) W := adEqV_run W false false 0 0 0 0
/-- what New makes of rules. -/
def NwB (V : World) (rs : List Rl) (e : Ending) (w' : World) : Prop := Below V.heap.size V w' ∧ ((OkRs rs ∧ ∃ X D, e = .returned (.tuple #[pt X, .int .i64 0]) ∧ Tr 0 w' X D (look rs)) ∨ (¬ OkRs rs ∧ e = .returned (.tuple #[.pointer none, .int .i64 12])))
theorem new_b (W : World) (q : Option Addr) (cap : Nat) (rs : List Rl) (hat : RlsAt W q rs) (hok : ∀ r ∈ rs, r.ok) (hcap : rs.length ≤ cap) (hcap2 : cap ≤ 9223372036854775807) :
    Calls Tryd.prog 9 #[.slice q rs.length cap] W fun e w' => NwB W rs e w' := by
  refine (new_in W q cap rs hat hok hcap hcap2).mono ?_
  rintro e w' ⟨hb, h | h⟩
  · obtain ⟨h0, D, he, hT, _⟩ := h
    exact ⟨hb, .inl ⟨h0, _, D, he, hT.zero⟩⟩
  · exact ⟨hb, .inr h⟩
end Go.Proofs.YtpognbkdafnfjaaDoor
