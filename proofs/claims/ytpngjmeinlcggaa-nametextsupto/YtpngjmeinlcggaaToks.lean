/- eachTold and what it hands back: the labels that a text tells, one behind the other. -/
import Derived.RangeFuncNested
import Derived.RangeFuncBound
import Derived.RangeFuncCalls
import Derived.RangeFuncLeaves
import Derived.Test.YtpngjmeinlcggaaCut
namespace Go.Proofs.Ytpngjmeinlcggaa
set_option linter.unusedVariables false
open Go.RowKit Go.Shelf
attribute [local go_sem] Oper.semAt_some

theorem tb_pos {l : List UInt8} (h : (tb l).2 ≠ 0) : 1 ≤ (tb l).2 := by omega

theorem cutF_len : ∀ (n : Nat) (acc l : List UInt8) (r : List UInt8 × List UInt8), cutF n acc l = some r → acc.length ≤ 64 → r.2.length ≤ l.length ∧ r.1.length ≤ 64 ∧ acc.length ≤ r.1.length
  | 0, acc, l, r, h, _ => by simp [cutF] at h
  | n + 1, acc, [], r, h, ha => by simp [cutF] at h; subst h; exact ⟨Nat.le_refl _, ha, Nat.le_refl _⟩
  | n + 1, acc, c :: t, r, h, ha => by
    rw [cutF] at h
    split at h
    · simp at h; subst h; exact ⟨Nat.le_refl _, ha, Nat.le_refl _⟩
    · split at h
      · simp at h
      · have hl : (if acc.length ≤ 63 then acc ++ [(tb (c :: t)).1] else acc).length ≤ 64 ∧ acc.length ≤ (if acc.length ≤ 63 then acc ++ [(tb (c :: t)).1] else acc).length := by
          split <;> simp <;> omega
        have := cutF_len n _ _ r h hl.1
        rw [List.length_drop] at this
        exact ⟨by omega, this.2.1, by omega⟩

theorem trimD_len (l : List UInt8) : (trimD l).length ≤ l.length := by unfold trimD; split <;> simp

theorem cutB_len {l : List UInt8} {r : List UInt8 × List UInt8} (h : cutB l = some r) : r.2.length < l.length ∧ r.1.length ≤ 64 ∧ 1 ≤ r.1.length := by
  cases l with
  | nil => simp [cutB] at h
  | cons c t =>
    rw [cutB] at h
    split at h
    · simp at h
    · rename_i hc
      rw [List.length_cons, cutF, if_neg hc] at h
      split at h
      · simp at h
      · rename_i hz
        simp only [Option.map_eq_some_iff] at h
        obtain ⟨q, hq, rfl⟩ := h
        have := cutF_len _ _ _ q hq (by simp)
        have h1 := trimD_len q.2
        rw [List.length_drop] at this
        have h2 : ([] : List UInt8).length ≤ 63 := by simp
        rw [if_pos h2] at this
        simp at this ⊢
        omega

/-- the labels that a text tells, or none, if it is not of the right form. -/
def toks : Nat → List UInt8 → Option (List (List UInt8))
  | 0, _ => none
  | n + 1, l => match l with
    | [] => some []
    | c :: t => match cutB (c :: t) with
      | none => none
      | some r => (toks n r.2).map fun ls => r.1 :: ls

/-- what a round is handed: a label, and whether the text was of the right form. -/
abbrev Tok := { x : ByteArray × Bool // x.1.size ≤ 64 }
abbrev tokEnc (x : Tok) : Array Value := #[.string x.1.1, .bool x.1.2]
def tokL (p : List Tok) : List (List UInt8) := p.map fun x => x.1.1.data.toList
theorem tokL_snoc (p : List Tok) (x : Tok) : tokL (p ++ [x]) = tokL p ++ [x.1.1.data.toList] := by simp [tokL]

theorem eachTold_in (s : ByteArray) (w : World) :
    Calls Try.prog 46 #[.string s] w fun e w' => e = .returned (.func (.func 64) #[] #[.pointer (some ⟨w.heap.size, 0, none⟩)]) ∧ w' = w.alloc (.cells #[.string s] 9) := by
  go_enter Try.func46, Try.ntmps46
  go_wp2
  go_ret
  exact ⟨rfl, rfl⟩

theorem grown_below {W W' : World} (h : Below W.heap.size W W') : W.grownBy W' none :=
  ⟨h.os, h.tape, h.output, h.size, fun k hk _ => h.block k hk⟩

theorem toks_step {n : Nat} {s : ByteArray} (h : 0 < s.size) : toks (n + 1) s.data.toList = match cutB s.data.toList with
      | none => none
      | some r => (toks n r.2).map fun ls => r.1 :: ls := by
  cases hl : s.data.toList with
  | nil => rw [← size_list, hl] at h; simp at h
  | cons c t => rfl

/-- all that came was of the right form. -/
def AllT (p : List Tok) : Prop := ∀ x ∈ p, x.1.2 = true

set_option maxRecDepth 100000 in
set_option maxHeartbeats 1000000 in
theorem told1_in (F : Fence) (n : Nat) (hdep : F = Fence.wide) (hn : 2 ≤ n) (l Bn : Nat) (s : ByteArray) (hs : s.size ≤ maxLen) (J Jx : List Tok → World → Prop) (N : Nat)
    (hJ : AbidesFrom N J)
    (hY : ∀ pre x W, J pre W → pre.length < s.size → YieldAt F (n - 1) Try.prog l (tokEnc x) W fun e W' =>
      (e = .returned (.bool true) ∧ J (pre ++ [x]) W' ∧ True) ∨ (e = .returned (.bool false) ∧ Jx (pre ++ [x]) W'))
    (W : World) (hBn : W.cell? ⟨Bn, 0, none⟩ = some (.string s)) (h0 : J [] W) :
    CallsIn F n Try.prog 64 #[.func (.yield l) #[] #[], .pointer (some ⟨Bn, 0, none⟩)] W fun e W' => (∃ v, e = .returned v) ∧
      ((∃ ys : List Tok, (AllT ys → toks (s.size + 1) s.data.toList = some (tokL ys)) ∧ J ys W') ∨
       (∃ pre : List Tok, (∀ x, pre.getLast? = some x → x.1.2 = false → toks (s.size + 1) s.data.toList = none) ∧ Jx pre W')) := by
  subst hdep
  have hmax := hs
  unfold maxLen at hs
  obtain ⟨R, hR⟩ : ∃ R, toks (s.size + 1) s.data.toList = R := ⟨_, rfl⟩
  rw [hR]
  refine callsIn_of_wp Try.func64 rfl trivial ?_ rfl
  simp only [Try.ntmps64, List.size_toArray, List.length_cons, List.length_nil, Nat.reduceAdd, Nat.reduceSub, Array.replicate_succ, Array.replicate_zero, List.push_toArray, List.append_toArray, List.nil_append, List.cons_append]
  gi_wp2
  gi_loopw [3] (fun v wr => ∃ (r : ByteArray) (pre : List Tok) (m : Nat), v = .string r ∧ pre.length + r.size ≤ s.size ∧ r.size < m ∧ AllT pre ∧ Hid ((toks m r.data.toList).map (fun ls => tokL pre ++ ls) = R) ∧ J pre wr)
    (fun v _ => (match v with | .string r => r.size | _ => 0))
  case atStart =>
    refine ⟨s, [], s.size + 1, rfl, by simp, by omega, by simp [AllT], ?_, h0⟩
    show _ = R
    rw [hR]; simp [tokL]
  case round =>
    obtain ⟨r, pre, m, rfl, hlen, hm, hat, hT, hJs⟩ := hrel
    clear hBn h0 hR
    obtain ⟨m, rfl⟩ : ∃ m', m = m' + 1 := ⟨m - 1, by omega⟩
    by_cases hlt : 0 < r.size
    · have hne : r.toList.isEmpty = false := by
        rw [ByteArray.toList_eq]
        cases hl : r.data.toList with
        | nil => rw [← size_list, hl] at hlt; simp at hlt
        | cons c t => rfl
      have hcut := cutLabel_in r (by unfold maxLen; omega) hlt
      cases hc : cutB r.data.toList with
      | none =>
        have hRn : Hid (R = none) := by
          have := hT.out
          rw [toks_step hlt, hc] at this
          exact this.symm
        rw [hc] at hcut
        have HC := Hid.mk hcut
        clear hcut hc hT
        gi_wp2_with fail
        refine ⟨trivial, fun _ => (by omega), ?_⟩
        refine (callsIn_wide.2 (HC.out _)).mono ?_
        rintro e w1 ⟨rfl, hb1⟩
        have hJ1 := hJ _ _ _ none hJs (grown_below hb1) (fun r e => by cases e)
        obtain ⟨fn, tmps, assign, body, hy, hR⟩ := hY pre ⟨(⟨#[]⟩, false), by decide⟩ w1 hJ1 (by omega)
        dsimp only [tokEnc] at hy
        dsimp only [cutV]
        gi_wp2
        refine ⟨fun _ => (by omega), ?_⟩
        refine hR.mono ?_
        rintro e W3 (⟨rfl, hJ3, -⟩ | ⟨rfl, hJx3⟩)
        · gi_wp2
          refine bodyPost_ret (results_none rfl _ _ _) rfl ?_
          refine ⟨⟨_, rfl⟩, .inl ⟨_, fun h => ?_, hJ3⟩⟩
          have := h ⟨(⟨#[]⟩, false), by decide⟩ (by simp)
          cases this
        · gi_wp2
          refine bodyPost_ret (results_none rfl _ _ _) rfl ?_
          exact ⟨⟨_, rfl⟩, .inr ⟨_, fun _ _ _ => hRn.out, hJx3⟩⟩
      | some q =>
        have hq := cutB_len hc
        rw [size_list] at hq
        have hRn : Hid ((toks m q.2).map (fun ls => (tokL pre ++ [q.1]) ++ ls) = R) := by
          have := hT.out
          rw [toks_step hlt, hc] at this
          rw [← this]
          show _ = Option.map _ (Option.map _ (toks m q.2))
          rw [Option.map_map]
          congr 1
          funext ls; simp
        rw [hc] at hcut
        have HC := Hid.mk hcut
        obtain ⟨q1, q2⟩ := q
        dsimp only at hq hRn
        have HQ := Hid.mk hq
        clear hcut hc hT
        gi_wp2_with fail
        refine ⟨trivial, fun _ => (by omega), ?_⟩
        refine (callsIn_wide.2 (HC.out _)).mono ?_
        rintro e w1 ⟨rfl, hb1⟩
        have hJ1 := hJ _ _ _ none hJs (grown_below hb1) (fun r e => by cases e)
        obtain ⟨fn, tmps, assign, body, hy, hR⟩ := hY pre ⟨(⟨q1.toArray⟩, true), hq.2.1⟩ w1 hJ1 (by omega)
        dsimp only [tokEnc] at hy
        dsimp only [cutV]
        gi_wp2
        refine ⟨fun _ => (by omega), ?_⟩
        refine hR.mono ?_
        rintro e W3 (⟨rfl, hJ3, -⟩ | ⟨rfl, hJx3⟩)
        · gi_wp2
          go_roundw
          case rel =>
            refine ⟨⟨q2.toArray⟩, _, m, rfl, ?_, ?_, ?_, ?_, hJ3⟩
            · have hz2 : (ByteArray.mk q2.toArray).size = q2.length := rfl
              rw [List.length_append, List.length_singleton]; omega
            · rw [ba_size]; omega
            · intro x hx
              rcases List.mem_append.1 hx with h' | h'
              · exact hat x h'
              · simp at h'; subst h'; rfl
            · show Option.map _ _ = R
              rw [tokL_snoc]; exact hRn.out
          case measure => show (ByteArray.mk q2.toArray).size < r.size; rw [ba_size]; omega
        · gi_wp2
          refine bodyPost_ret (results_none rfl _ _ _) rfl ?_
          refine ⟨⟨_, rfl⟩, .inr ⟨_, fun x hx hf => ?_, hJx3⟩⟩
          simp at hx
          subst hx
          cases hf
    · have hr0 : r.data.toList = [] := List.eq_nil_of_length_eq_zero (by rw [size_list]; omega)
      have hne : r.toList.isEmpty = true := by rw [ByteArray.toList_eq, hr0]; rfl
      have hRv : R = some (tokL pre) := by
        have := hT.out
        rw [hr0] at this
        simpa [toks] using this.symm
      have HRV := Hid.mk hRv
      clear hT hRv hr0 hlt
      gi_wp2
      go_end0
      exact ⟨⟨_, rfl⟩, .inl ⟨pre, fun _ => HRV.out, hJs⟩⟩

theorem eachTold_stops (n : Nat) (hn : 2 ≤ n) (Bn : Nat) (s : ByteArray) (hs : s.size ≤ maxLen) (w : World) (hBw : Bn < w.heap.size) (hBn : w.cell? ⟨Bn, 0, none⟩ = some (.string s)) :
    SeqStopsK Fence.wide n Try.prog 64 #[.pointer (some ⟨Bn, 0, none⟩)] tokEnc (fun _ _ => True) (fun ys => AllT ys → toks (s.size + 1) s.data.toList = some (tokL ys)) (fun pre => ∀ x, pre.getLast? = some x → x.1.2 = false → toks (s.size + 1) s.data.toList = none) s.size w :=
  fun l J Jx W hW hJ _ hY h0 => told1_in Fence.wide n rfl hn l Bn s hs J Jx _ hJ hY W ((hW.cell (p := ⟨Bn, 0, none⟩) hBw).trans hBn) h0

end Go.Proofs.Ytpngjmeinlcggaa
