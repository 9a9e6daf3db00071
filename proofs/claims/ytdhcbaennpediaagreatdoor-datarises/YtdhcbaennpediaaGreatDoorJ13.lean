/- Texts of this proof, joined: DRiseW, DTypeOf, DExam, DExamples, DRises. -/
import Derived.Test.YtdhcbaennpediaaGreatDoorJ12
import Derived.Test.YtdhcbaennpediaaGreatDoorJ3
import Derived.Test.YtdhcbaennpediaaGreatDoorJ8
/- rise, the walk: numbers of a list, each once, in order. -/
namespace Go.Proofs.YtdhcbaennpediaaGreatDoor
set_option linter.unusedVariables false
open Go.RowKit

/-- a list of numbers that came in. -/
def GivenI (W : World) (a0 : Option Addr) (ls : List Int) : Prop := ∀ j (h : j < ls.length), ∃ b off, a0 = some ⟨b, off, none⟩ ∧ b < W.heap.size ∧ W.cell? ⟨b, off + j, none⟩ = some (.int .i64 ls[j])
theorem GivenI.below {w W : World} {a0 : Option Addr} {ls : List Int} (h : GivenI w a0 ls) (hB : Below w.heap.size w W) : GivenI W a0 ls := fun j hj => by
  obtain ⟨b, off, h1, h2, h3⟩ := h j hj
  exact ⟨b, off, h1, Nat.lt_of_lt_of_le h2 hB.size, (hB.cell (p := ⟨b, off + j, none⟩) h2).trans h3⟩
theorem GivenI.take {W : World} {a0 : Option Addr} {ls : List Int} (h : GivenI W a0 ls) (n : Nat) : GivenI W a0 (ls.take n) := fun j hj => by
  rw [List.length_take] at hj
  obtain ⟨b, off, h1, h2, h3⟩ := h j (by omega)
  exact ⟨b, off, h1, h2, by rw [List.getElem_take]; exact h3⟩

theorem row_cells {W : World} {n₀ : Nat} {q : Option Addr} {c : Nat} {l : List Nat} (h : W.ownsRow n₀ 3 1 (.slice q l.length c) l.length (intsV l)) : ∀ j (hj : j < l.length), ∃ g, q = some ⟨g, 0, none⟩ ∧ W.cell? ⟨g, j, none⟩ = some (.int .i64 ((l[j] : Nat) : Int)) := fun j hj => by
  obtain ⟨q', c', hv, hc⟩ := ints_of_row h
  simp only [Value.slice.injEq, List.length_map] at hv
  obtain ⟨rfl, _, rfl⟩ := hv
  obtain ⟨g, h1, h2, h3⟩ := hc j (by simpa using hj)
  exact ⟨g, h1, by simpa using h3⟩
theorem row_none {W : World} {n₀ : Nat} {q : Option Addr} {c n : Nat} {xs : List Value} (h : W.ownsRow n₀ 3 1 (.slice q n c) n xs) : (q = none ∧ n = 0 ∧ c = 0) ∨ ∃ g, q = some ⟨g, 0, none⟩ ∧ n ≤ c := by
  rcases h.2 with ⟨hv, h0⟩ | ⟨g, cap, cur, hv, hcap, hg, _⟩
  · cases hv
    exact .inl ⟨rfl, rfl, rfl⟩
  · cases hv
    exact .inr ⟨g, rfl, by first | assumption | omega⟩

/-- what the step of rise needs of one number. -/
theorem rise_num (x : Int) (h1 : -9223372036854775808 ≤ x) (h2 : x ≤ 9223372036854775807) : ((if x < 0 then -(x + 1) else x) % 65536 = ((riseN x : Nat) : Int)) ∧ riseN x ≤ 65535 := by
  refine ⟨?_, riseN_le x⟩
  unfold riseN
  split <;> omega

theorem isrc_head {W : World} {n₀ : Nat} {q : Option Addr} {c : Nat} {l : List Nat} (h : W.ownsRow n₀ 3 1 (.slice q l.length c) l.length (intsV l)) (k : Nat) (hk : k ≤ l.length) (c' : Nat) (hc' : q = none → c' = 0) : ISrc W (.slice q k c') (l.take k) := by
  have hlen : (l.take k).length = k := by rw [List.length_take]; omega
  rcases row_none h with ⟨rfl, h0, _⟩ | ⟨g, rfl, _⟩
  · left
    have : k = 0 := by omega
    subst this
    exact ⟨by rw [hc' rfl], rfl⟩
  · right
    refine ⟨g, 0, c', by rw [hlen], fun j hj => ?_⟩
    rw [hlen] at hj
    obtain ⟨g', hq, hx⟩ := row_cells h j (by omega)
    cases hq
    rw [Nat.zero_add, hx, List.getElem_take]
theorem isrc_tail {W W' : World} {n₀ : Nat} {g c : Nat} {l : List Nat} (h : W.ownsRow n₀ 3 1 (.slice (some ⟨g, 0, none⟩) l.length c) l.length (intsV l)) (k : Nat) (hk : k ≤ l.length) (c' : Nat) (hB : Below W.heap.size W W') : ISrc W' (.slice (some ⟨g, k, none⟩) (l.length - k) c') (l.drop k) := by
  right
  refine ⟨g, k, c', by rw [List.length_drop], fun j hj => ?_⟩
  rw [List.length_drop] at hj
  obtain ⟨g', hq, hx⟩ := row_cells h (k + j) (by omega)
  cases hq
  rw [hB.cell (p := ⟨g, k + j, none⟩) (cell_block hx), hx, List.getElem_drop]
theorem row_eq {W : World} {n₀ n n' : Nat} {v : Value} {xs xs' : List Value} (h : W.ownsRow n₀ 3 1 v n xs) (hn : n = n') (hx : xs = xs') : W.ownsRow n₀ 3 1 v n' xs' := by
  subst hn hx
  exact h
theorem bel2 {n : Nat} {A B C : World} {o : Obj} (h1 : Below n A B) (h2 : Below n (B.alloc o) C) (hn : n ≤ A.heap.size := by exact Nat.le_refl _) : Below n A C := (h1.alloc (Nat.le_trans hn h1.size) _).trans h2

theorem isrc_one (w : World) (n : Nat) : ISrc (w.alloc (.cells #[.int .i64 ((n : Nat) : Int)] 3)) (.slice (some ⟨w.heap.size, 0, none⟩) 1 1) [n] := by
  right
  refine ⟨w.heap.size, 0, 1, rfl, fun j hj => ?_⟩
  obtain rfl : j = 0 := by simp at hj; omega
  exact (cells_at (v := .int .i64 ((n : Nat) : Int)) (j := 0) (heap_new w _) rfl).1

set_option maxRecDepth 100000 in
set_option maxHeartbeats 4000000 in
theorem rise_in (W : World) (a0 : Option Addr) (cap : Nat) (ls : List Int) (hl : ls.length ≤ 40) (hg : GivenI W a0 ls) (hr : ∀ x ∈ ls, -9223372036854775808 ≤ x ∧ x ≤ 9223372036854775807) :
    Calls Tryz.prog 31 #[.slice a0 ls.length cap] W fun e w' => (∃ v os, e = .returned v ∧ Rise (-1) os ∧ os.length ≤ 40 ∧ w'.ownsRow W.heap.size 3 1 v os.length (intsV os)) ∧ Below W.heap.size W w' := by
  have HG := Hid.mk hg
  have HR := Hid.mk hr
  clear hg hr
  go_enter Tryz.func31, Tryz.ntmps31
  go_wp2
  go_loopw [3, 4] (fun ov iv wr => ∃ (m : Nat) (os : List Nat), m ≤ ls.length ∧ iv = .int .i64 m ∧ wr.ownsRow W.heap.size 3 1 ov os.length (intsV os) ∧ Hid (Rise (-1) os) ∧ os.length ≤ m ∧ Below W.heap.size W wr) (fun _ iv _ => ls.length - (intOf iv).toNat)
  case atStart => exact ⟨0, [], Nat.zero_le _, rfl, World.ownsRow_nil .., trivial, by simp, Below.refl _ _⟩
  case round =>
    obtain ⟨m, os, hm, rfl, hrow, HRi, hol, hbl⟩ := hrel
    obtain ⟨q, c, hv⟩ := row_as hrow
    subst hv
    by_cases hlt : m < ls.length
    · obtain ⟨b, off, hb, hbw, hc⟩ := HG.out m hlt
      subst hb
      have cA := (hbl.cell (p := ⟨b, off + m, none⟩) hbw).trans hc
      obtain ⟨hr1, hr2⟩ := HR.out ls[m] (List.getElem_mem hlt)
      clear hc
      generalize ls[m] = x at cA hr1 hr2
      have hi0 : (0 : Int) ≤ (m : Int) := by omega
      have hi1 : (m : Int) < (ls.length : Int) := by omega
      obtain ⟨hn1, hn2⟩ := rise_num x hr1 hr2
      generalize riseN x = n at hn1 hn2
      have hn3 : (if x < 0 then -(x + 1) else x).tmod 65536 = ((n : Nat) : Int) := by
        rw [Int.tmod_eq_emod_of_nonneg (by split <;> omega)]; exact hn1
      clear hn1
      by_cases hx : x < 0
      · rw [if_pos hx] at hn3
        have hw1 : IntKind.i64.wrap (x + 1) = x + 1 := by rw [IntKind.wrap_i64]; omega
        have hw2 : IntKind.i64.wrap (-(x + 1)) = -(x + 1) := by rw [IntKind.wrap_i64]; omega
        go_wp2
        go_loopw [6] (fun av wr2 => ∃ k : Nat, k ≤ os.length ∧ av = .int .i64 k ∧ Hid (∀ j (h : j < os.length), j < k → os[j] < n) ∧ wr2 = wr) (fun av _ => os.length - (intOf av).toNat)
        case atStart => exact ⟨0, Nat.zero_le _, rfl, fun j _ h => absurd h (by omega), rfl⟩
        case round =>
          obtain ⟨k, hk, rfl, HLt, rfl⟩ := hrel
          by_cases hke : k < os.length
          · obtain ⟨g, hq, hcl⟩ := row_cells hrow k hke
            subst hq
            have hgc : os.length ≤ c := by
              rcases row_none hrow with ⟨h, _⟩ | ⟨_, _, h⟩
              · cases h
              · exact h
            obtain ⟨y, hy⟩ : ∃ y, os[k] = y := ⟨_, rfl⟩
            rw [hy] at hcl
            have HY := Hid.mk hy
            clear hy
            by_cases c1 : y < n
            · have HN : Hid (∀ j (h : j < os.length), j < k + 1 → os[j] < n) := fun j hj h => by
                rcases Nat.lt_or_ge j k with h1 | h1
                · exact HLt.out j hj h1
                · obtain rfl : j = k := by omega
                  rw [HY.out]; exact c1
              go_wp2
              exact ⟨⟨k + 1, by omega, by go_num, HN, trivial⟩, by simp [intOf]; omega⟩
            · by_cases c2 : y = n
              · subst c2
                go_wp2
                exact ⟨⟨m + 1, os, by omega, by go_num, hrow, HRi, by omega, hbl⟩, by simp [intOf]; omega⟩
              · have hins := Hid.mk (rise_ins HRi.out n k hn2 hk (fun j hj h => HLt.out j hj h) (fun hj => by have := HY.out; omega))
                have hyn : ((y : Int) == (n : Int)) = false := by rw [beq_eq_false_iff_ne]; omega
                clear HLt HY
                have hwz : W.heap.size ≤ wr.heap.size := hbl.size
                have M0 : True := trivial
                go_wp2_with (first
                  | (have hck := M2; clear hck; at_builtin; refine wpList_append_ints rfl _ _ rfl wr.heap.size _ _ _ _ (os.drop k) rfl hown2 rfl (isrc_tail hrow k hk _ (bel2 hb1 hb2)) (by first | omega | (simp; done) | (simp; omega)) (by first | omega | (simp; done) | (simp; omega)) (by have := hb1.size; have := hb2.size; simp at this; omega) ?_; intro v3 w3 hown3 hb3; have M3 : True := trivial)
                  | (have hck := M1; clear hck; at_builtin; refine wpList_append_ints rfl _ _ rfl wr.heap.size _ _ _ _ [n] rfl (hown1.alloc _) rfl (isrc_one w1 n) (by first | omega | (simp; done) | (simp; omega)) (by simp) (by have := hb1.size; simp; omega) ?_; intro v2 w2 hown2 hb2; have M2 : True := trivial)
                  | (have hck := M0; clear hck; at_builtin; refine wpList_append_ints rfl _ _ rfl wr.heap.size _ _ 0 [] (os.take k) rfl (World.ownsRow_nil ..) rfl (isrc_head hrow k hk _ (fun h => by cases h)) (by omega) (by first | omega | (simp; done) | (simp; omega)) (Nat.le_refl _) ?_; intro v1 w1 hown1 hb1; have M1 : True := trivial))
                have hBB : Below wr.heap.size wr w3 := (bel2 hb1 hb2).trans hb3
                have HF : Hid (w3.ownsRow W.heap.size 3 1 v3 (os.take k ++ [n] ++ os.drop k).length (intsV (os.take k ++ [n] ++ os.drop k))) := by
                  have := row_down hown3 hwz
                  exact row_eq this (by simp; try omega) (by simp [intsV])
                have HLn : Hid ((os.take k ++ [n] ++ os.drop k).length ≤ m + 1) := by rw [Hid]; first | omega | (simp; done) | (simp; omega)
                go_wp2
                exact ⟨⟨m + 1, os.take k ++ [n] ++ os.drop k, by omega, by go_num, HF.out, hins, HLn.out, bth hbl hBB hwz⟩, by simp [intOf]; omega⟩
          · obtain rfl : k = os.length := by omega
            have hins := Hid.mk (rise_ins HRi.out n os.length hn2 hk (fun j hj h => HLt.out j hj h) (fun hj => by omega))
            clear HLt
            rcases row_none hrow with ⟨rfl, h0, rfl⟩ | ⟨g, rfl, hgc⟩
            · obtain rfl : os = [] := List.eq_nil_of_length_eq_zero h0
              have hwz : W.heap.size ≤ wr.heap.size := hbl.size
              have M0 : True := trivial
              go_wp2_with (first
                | (have hck := M2; clear hck; at_builtin; refine wpList_append_ints rfl _ _ rfl wr.heap.size _ _ _ _ [] rfl hown2 rfl (.inl ⟨rfl, rfl⟩) (by first | omega | (simp; done) | (simp; omega)) (by first | omega | (simp; done) | (simp; omega)) (by have := hb1.size; have := hb2.size; simp at this; omega) ?_; intro v3 w3 hown3 hb3; have M3 : True := trivial)
                | (have hck := M1; clear hck; at_builtin; refine wpList_append_ints rfl _ _ rfl wr.heap.size _ _ _ _ [n] rfl (hown1.alloc _) rfl (isrc_one w1 n) (by first | omega | (simp; done) | (simp; omega)) (by simp) (by have := hb1.size; simp; omega) ?_; intro v2 w2 hown2 hb2; have M2 : True := trivial)
                | (have hck := M0; clear hck; at_builtin; refine wpList_append_ints rfl _ _ rfl wr.heap.size _ _ 0 [] [] rfl (World.ownsRow_nil ..) rfl (.inl ⟨rfl, rfl⟩) (by omega) (by first | omega | (simp; done) | (simp; omega)) (Nat.le_refl _) ?_; intro v1 w1 hown1 hb1; have M1 : True := trivial))
              have hBB : Below wr.heap.size wr w3 := (bel2 hb1 hb2).trans hb3
              have HF : Hid (w3.ownsRow W.heap.size 3 1 v3 ([n]).length (intsV ([n]))) := by
                have := row_down hown3 hwz
                exact row_eq this (by simp; try omega) (by simp [intsV])
              have HLn : Hid (([n]).length ≤ m + 1) := by rw [Hid]; first | omega | (simp; done) | (simp; omega)
              go_wp2
              exact ⟨⟨m + 1, [n], by omega, by go_num, HF.out, by simpa using hins, HLn.out, bth hbl hBB hwz⟩, by simp [intOf]; omega⟩
            · have hwz0 := hbl.size
              by_cases hce : c = os.length
              · subst hce
                have hwz : W.heap.size ≤ wr.heap.size := hbl.size
                have M0 : True := trivial
                go_wp2_with (first
                  | (have hck := M2; clear hck; at_builtin; refine wpList_append_ints rfl _ _ rfl wr.heap.size _ _ _ _ [] rfl hown2 rfl (.inr ⟨_, _, _, rfl, fun j hj => by simp at hj⟩) (by first | omega | (simp; done) | (simp; omega)) (by first | omega | (simp; done) | (simp; omega)) (by have := hb1.size; have := hb2.size; simp at this; omega) ?_; intro v3 w3 hown3 hb3; have M3 : True := trivial)
                  | (have hck := M1; clear hck; at_builtin; refine wpList_append_ints rfl _ _ rfl wr.heap.size _ _ _ _ [n] rfl (hown1.alloc _) rfl (isrc_one w1 n) (by first | omega | (simp; done) | (simp; omega)) (by simp) (by have := hb1.size; simp; omega) ?_; intro v2 w2 hown2 hb2; have M2 : True := trivial)
                  | (have hck := M0; clear hck; at_builtin; refine wpList_append_ints rfl _ _ rfl wr.heap.size _ _ 0 [] os rfl (World.ownsRow_nil ..) rfl (.inr ⟨g, 0, _, rfl, fun j hj => by obtain ⟨g', hq, hx⟩ := row_cells hrow j hj; cases hq; rw [Nat.zero_add]; exact hx⟩) (by omega) (by first | omega | (simp; done) | (simp; omega)) (Nat.le_refl _) ?_; intro v1 w1 hown1 hb1; have M1 : True := trivial))
                have hBB : Below wr.heap.size wr w3 := (bel2 hb1 hb2).trans hb3
                have HF : Hid (w3.ownsRow W.heap.size 3 1 v3 (os ++ [n]).length (intsV (os ++ [n]))) := by
                  have := row_down hown3 hwz
                  exact row_eq this (by simp; try omega) (by simp [intsV])
                have HLn : Hid ((os ++ [n]).length ≤ m + 1) := by rw [Hid]; first | omega | (simp; done) | (simp; omega)
                go_wp2
                exact ⟨⟨m + 1, os ++ [n], by omega, by go_num, HF.out, by simpa using hins, HLn.out, bth hbl hBB hwz⟩, by simp [intOf]; omega⟩
              · have hcl : os.length < c := by omega
                have hwz : W.heap.size ≤ wr.heap.size := hbl.size
                have M0 : True := trivial
                go_wp2_with (first
                  | (have hck := M2; clear hck; at_builtin; refine wpList_append_ints rfl _ _ rfl wr.heap.size _ _ _ _ [] rfl hown2 rfl (.inr ⟨_, _, _, rfl, fun j hj => by simp at hj⟩) (by first | omega | (simp; done) | (simp; omega)) (by first | omega | (simp; done) | (simp; omega)) (by have := hb1.size; have := hb2.size; simp at this; omega) ?_; intro v3 w3 hown3 hb3; have M3 : True := trivial)
                  | (have hck := M1; clear hck; at_builtin; refine wpList_append_ints rfl _ _ rfl wr.heap.size _ _ _ _ [n] rfl (hown1.alloc _) rfl (isrc_one w1 n) (by first | omega | (simp; done) | (simp; omega)) (by simp) (by have := hb1.size; simp; omega) ?_; intro v2 w2 hown2 hb2; have M2 : True := trivial)
                  | (have hck := M0; clear hck; at_builtin; refine wpList_append_ints rfl _ _ rfl wr.heap.size _ _ 0 [] os rfl (World.ownsRow_nil ..) rfl (.inr ⟨g, 0, _, rfl, fun j hj => by obtain ⟨g', hq, hx⟩ := row_cells hrow j hj; cases hq; rw [Nat.zero_add]; exact hx⟩) (by omega) (by first | omega | (simp; done) | (simp; omega)) (Nat.le_refl _) ?_; intro v1 w1 hown1 hb1; have M1 : True := trivial))
                have hBB : Below wr.heap.size wr w3 := (bel2 hb1 hb2).trans hb3
                have HF : Hid (w3.ownsRow W.heap.size 3 1 v3 (os ++ [n]).length (intsV (os ++ [n]))) := by
                  have := row_down hown3 hwz
                  exact row_eq this (by simp; try omega) (by simp [intsV])
                have HLn : Hid ((os ++ [n]).length ≤ m + 1) := by rw [Hid]; first | omega | (simp; done) | (simp; omega)
                go_wp2
                exact ⟨⟨m + 1, os ++ [n], by omega, by go_num, HF.out, by simpa using hins, HLn.out, bth hbl hBB hwz⟩, by simp [intOf]; omega⟩
      · rw [if_neg hx] at hn3
        go_wp2
        go_loopw [6] (fun av wr2 => ∃ k : Nat, k ≤ os.length ∧ av = .int .i64 k ∧ Hid (∀ j (h : j < os.length), j < k → os[j] < n) ∧ wr2 = wr) (fun av _ => os.length - (intOf av).toNat)
        case atStart => exact ⟨0, Nat.zero_le _, rfl, fun j _ h => absurd h (by omega), rfl⟩
        case round =>
          obtain ⟨k, hk, rfl, HLt, rfl⟩ := hrel
          by_cases hke : k < os.length
          · obtain ⟨g, hq, hcl⟩ := row_cells hrow k hke
            subst hq
            have hgc : os.length ≤ c := by
              rcases row_none hrow with ⟨h, _⟩ | ⟨_, _, h⟩
              · cases h
              · exact h
            obtain ⟨y, hy⟩ : ∃ y, os[k] = y := ⟨_, rfl⟩
            rw [hy] at hcl
            have HY := Hid.mk hy
            clear hy
            by_cases c1 : y < n
            · have HN : Hid (∀ j (h : j < os.length), j < k + 1 → os[j] < n) := fun j hj h => by
                rcases Nat.lt_or_ge j k with h1 | h1
                · exact HLt.out j hj h1
                · obtain rfl : j = k := by omega
                  rw [HY.out]; exact c1
              go_wp2
              exact ⟨⟨k + 1, by omega, by go_num, HN, trivial⟩, by simp [intOf]; omega⟩
            · by_cases c2 : y = n
              · subst c2
                go_wp2
                exact ⟨⟨m + 1, os, by omega, by go_num, hrow, HRi, by omega, hbl⟩, by simp [intOf]; omega⟩
              · have hins := Hid.mk (rise_ins HRi.out n k hn2 hk (fun j hj h => HLt.out j hj h) (fun hj => by have := HY.out; omega))
                have hyn : ((y : Int) == (n : Int)) = false := by rw [beq_eq_false_iff_ne]; omega
                clear HLt HY
                have hwz : W.heap.size ≤ wr.heap.size := hbl.size
                have M0 : True := trivial
                go_wp2_with (first
                  | (have hck := M2; clear hck; at_builtin; refine wpList_append_ints rfl _ _ rfl wr.heap.size _ _ _ _ (os.drop k) rfl hown2 rfl (isrc_tail hrow k hk _ (bel2 hb1 hb2)) (by first | omega | (simp; done) | (simp; omega)) (by first | omega | (simp; done) | (simp; omega)) (by have := hb1.size; have := hb2.size; simp at this; omega) ?_; intro v3 w3 hown3 hb3; have M3 : True := trivial)
                  | (have hck := M1; clear hck; at_builtin; refine wpList_append_ints rfl _ _ rfl wr.heap.size _ _ _ _ [n] rfl (hown1.alloc _) rfl (isrc_one w1 n) (by first | omega | (simp; done) | (simp; omega)) (by simp) (by have := hb1.size; simp; omega) ?_; intro v2 w2 hown2 hb2; have M2 : True := trivial)
                  | (have hck := M0; clear hck; at_builtin; refine wpList_append_ints rfl _ _ rfl wr.heap.size _ _ 0 [] (os.take k) rfl (World.ownsRow_nil ..) rfl (isrc_head hrow k hk _ (fun h => by cases h)) (by omega) (by first | omega | (simp; done) | (simp; omega)) (Nat.le_refl _) ?_; intro v1 w1 hown1 hb1; have M1 : True := trivial))
                have hBB : Below wr.heap.size wr w3 := (bel2 hb1 hb2).trans hb3
                have HF : Hid (w3.ownsRow W.heap.size 3 1 v3 (os.take k ++ [n] ++ os.drop k).length (intsV (os.take k ++ [n] ++ os.drop k))) := by
                  have := row_down hown3 hwz
                  exact row_eq this (by simp; try omega) (by simp [intsV])
                have HLn : Hid ((os.take k ++ [n] ++ os.drop k).length ≤ m + 1) := by rw [Hid]; first | omega | (simp; done) | (simp; omega)
                go_wp2
                exact ⟨⟨m + 1, os.take k ++ [n] ++ os.drop k, by omega, by go_num, HF.out, hins, HLn.out, bth hbl hBB hwz⟩, by simp [intOf]; omega⟩
          · obtain rfl : k = os.length := by omega
            have hins := Hid.mk (rise_ins HRi.out n os.length hn2 hk (fun j hj h => HLt.out j hj h) (fun hj => by omega))
            clear HLt
            rcases row_none hrow with ⟨rfl, h0, rfl⟩ | ⟨g, rfl, hgc⟩
            · obtain rfl : os = [] := List.eq_nil_of_length_eq_zero h0
              have hwz : W.heap.size ≤ wr.heap.size := hbl.size
              have M0 : True := trivial
              go_wp2_with (first
                | (have hck := M2; clear hck; at_builtin; refine wpList_append_ints rfl _ _ rfl wr.heap.size _ _ _ _ [] rfl hown2 rfl (.inl ⟨rfl, rfl⟩) (by first | omega | (simp; done) | (simp; omega)) (by first | omega | (simp; done) | (simp; omega)) (by have := hb1.size; have := hb2.size; simp at this; omega) ?_; intro v3 w3 hown3 hb3; have M3 : True := trivial)
                | (have hck := M1; clear hck; at_builtin; refine wpList_append_ints rfl _ _ rfl wr.heap.size _ _ _ _ [n] rfl (hown1.alloc _) rfl (isrc_one w1 n) (by first | omega | (simp; done) | (simp; omega)) (by simp) (by have := hb1.size; simp; omega) ?_; intro v2 w2 hown2 hb2; have M2 : True := trivial)
                | (have hck := M0; clear hck; at_builtin; refine wpList_append_ints rfl _ _ rfl wr.heap.size _ _ 0 [] [] rfl (World.ownsRow_nil ..) rfl (.inl ⟨rfl, rfl⟩) (by omega) (by first | omega | (simp; done) | (simp; omega)) (Nat.le_refl _) ?_; intro v1 w1 hown1 hb1; have M1 : True := trivial))
              have hBB : Below wr.heap.size wr w3 := (bel2 hb1 hb2).trans hb3
              have HF : Hid (w3.ownsRow W.heap.size 3 1 v3 ([n]).length (intsV ([n]))) := by
                have := row_down hown3 hwz
                exact row_eq this (by simp; try omega) (by simp [intsV])
              have HLn : Hid (([n]).length ≤ m + 1) := by rw [Hid]; first | omega | (simp; done) | (simp; omega)
              go_wp2
              exact ⟨⟨m + 1, [n], by omega, by go_num, HF.out, by simpa using hins, HLn.out, bth hbl hBB hwz⟩, by simp [intOf]; omega⟩
            · have hwz0 := hbl.size
              by_cases hce : c = os.length
              · subst hce
                have hwz : W.heap.size ≤ wr.heap.size := hbl.size
                have M0 : True := trivial
                go_wp2_with (first
                  | (have hck := M2; clear hck; at_builtin; refine wpList_append_ints rfl _ _ rfl wr.heap.size _ _ _ _ [] rfl hown2 rfl (.inr ⟨_, _, _, rfl, fun j hj => by simp at hj⟩) (by first | omega | (simp; done) | (simp; omega)) (by first | omega | (simp; done) | (simp; omega)) (by have := hb1.size; have := hb2.size; simp at this; omega) ?_; intro v3 w3 hown3 hb3; have M3 : True := trivial)
                  | (have hck := M1; clear hck; at_builtin; refine wpList_append_ints rfl _ _ rfl wr.heap.size _ _ _ _ [n] rfl (hown1.alloc _) rfl (isrc_one w1 n) (by first | omega | (simp; done) | (simp; omega)) (by simp) (by have := hb1.size; simp; omega) ?_; intro v2 w2 hown2 hb2; have M2 : True := trivial)
                  | (have hck := M0; clear hck; at_builtin; refine wpList_append_ints rfl _ _ rfl wr.heap.size _ _ 0 [] os rfl (World.ownsRow_nil ..) rfl (.inr ⟨g, 0, _, rfl, fun j hj => by obtain ⟨g', hq, hx⟩ := row_cells hrow j hj; cases hq; rw [Nat.zero_add]; exact hx⟩) (by omega) (by first | omega | (simp; done) | (simp; omega)) (Nat.le_refl _) ?_; intro v1 w1 hown1 hb1; have M1 : True := trivial))
                have hBB : Below wr.heap.size wr w3 := (bel2 hb1 hb2).trans hb3
                have HF : Hid (w3.ownsRow W.heap.size 3 1 v3 (os ++ [n]).length (intsV (os ++ [n]))) := by
                  have := row_down hown3 hwz
                  exact row_eq this (by simp; try omega) (by simp [intsV])
                have HLn : Hid ((os ++ [n]).length ≤ m + 1) := by rw [Hid]; first | omega | (simp; done) | (simp; omega)
                go_wp2
                exact ⟨⟨m + 1, os ++ [n], by omega, by go_num, HF.out, by simpa using hins, HLn.out, bth hbl hBB hwz⟩, by simp [intOf]; omega⟩
              · have hcl : os.length < c := by omega
                have hwz : W.heap.size ≤ wr.heap.size := hbl.size
                have M0 : True := trivial
                go_wp2_with (first
                  | (have hck := M2; clear hck; at_builtin; refine wpList_append_ints rfl _ _ rfl wr.heap.size _ _ _ _ [] rfl hown2 rfl (.inr ⟨_, _, _, rfl, fun j hj => by simp at hj⟩) (by first | omega | (simp; done) | (simp; omega)) (by first | omega | (simp; done) | (simp; omega)) (by have := hb1.size; have := hb2.size; simp at this; omega) ?_; intro v3 w3 hown3 hb3; have M3 : True := trivial)
                  | (have hck := M1; clear hck; at_builtin; refine wpList_append_ints rfl _ _ rfl wr.heap.size _ _ _ _ [n] rfl (hown1.alloc _) rfl (isrc_one w1 n) (by first | omega | (simp; done) | (simp; omega)) (by simp) (by have := hb1.size; simp; omega) ?_; intro v2 w2 hown2 hb2; have M2 : True := trivial)
                  | (have hck := M0; clear hck; at_builtin; refine wpList_append_ints rfl _ _ rfl wr.heap.size _ _ 0 [] os rfl (World.ownsRow_nil ..) rfl (.inr ⟨g, 0, _, rfl, fun j hj => by obtain ⟨g', hq, hx⟩ := row_cells hrow j hj; cases hq; rw [Nat.zero_add]; exact hx⟩) (by omega) (by first | omega | (simp; done) | (simp; omega)) (Nat.le_refl _) ?_; intro v1 w1 hown1 hb1; have M1 : True := trivial))
                have hBB : Below wr.heap.size wr w3 := (bel2 hb1 hb2).trans hb3
                have HF : Hid (w3.ownsRow W.heap.size 3 1 v3 (os ++ [n]).length (intsV (os ++ [n]))) := by
                  have := row_down hown3 hwz
                  exact row_eq this (by simp; try omega) (by simp [intsV])
                have HLn : Hid ((os ++ [n]).length ≤ m + 1) := by rw [Hid]; first | omega | (simp; done) | (simp; omega)
                go_wp2
                exact ⟨⟨m + 1, os ++ [n], by omega, by go_num, HF.out, by simpa using hins, HLn.out, bth hbl hBB hwz⟩, by simp [intOf]; omega⟩
    · obtain rfl : m = ls.length := by omega
      go_wp2
      go_ret
      exact ⟨⟨_, os, rfl, HRi.out, by omega, hrow⟩, hbl⟩
end Go.Proofs.YtdhcbaennpediaaGreatDoor

/- TypeOf of a text that is TYPE and a number. -/
namespace Go.Proofs.YtdhcbaennpediaaGreatDoor
set_option linter.unusedVariables false
open Go.RowKit Go.Sort

theorem below_bytesW (w : World) (t : ByteArray) : Below w.heap.size w (Lib.bytesWorld w 5 t) :=
  ⟨rfl, rfl, rfl, by rw [Lib.bytesWorld_size]; omega, fun k hk => Lib.bytesWorld_at_old w 5 t k hk⟩

/-- what TypeOf makes of TYPE and digits that are the number k. -/
def numT (k : Nat) (text : List UInt8) : Nat × Nat := if typeT k = text then (k, 0) else (0, 7)

set_option maxRecDepth 100000 in
set_option maxHeartbeats 2000000 in
theorem numbered_in (text ds : List UInt8) (k : Nat) (hk : k ≤ 65535) (htx : text = [84, 89, 80, 69] ++ ds) (hat : Lib.atoiAll ds = .ok (k : Int)) (hl : text.length ≤ 1000) (w : World) (hT : Types w) (hP : Pow w) :
    Calls Tryz.prog 61 #[.string ⟨text.toArray⟩] w fun e w' => e = .returned (.tuple #[.int .i64 ((numT k text).1 : Nat), .int .i64 ((numT k text).2 : Nat)]) ∧ Below w.heap.size w w' := by
  have h1 : Lib.trimPrefix text [84, 89, 80, 69] = ds := by rw [htx]; simp [Lib.trimPrefix, Lib.hasPrefix]
  have h2 : Lib.hasPrefix text [84, 89, 80, 69] = true := by rw [htx]; simp [Lib.hasPrefix]
  have hC := Tryz.strings_CutPrefix ⟨text.toArray⟩ ⟨#[84, 89, 80, 69]⟩
  have hC' : ∀ w, Calls Tryz.prog 76 #[.string ⟨text.toArray⟩, .string ⟨#[84, 89, 80, 69]⟩] w fun e w' => e = .returned (.tuple #[.string ⟨ds.toArray⟩, .bool true]) ∧ w' = w := by
    intro w
    have := hC w
    simp only at this
    rw [h1, h2] at this
    exact this
  have HC := Hid.mk hC'
  have hA : ∀ w, Calls Tryz.prog 77 #[.string ⟨ds.toArray⟩] w fun e w' => e = .returned (.tuple #[.int .i64 (k : Int), .nilIface]) ∧ Below w.heap.size w w' := by
    intro w
    refine (Tryz.strconv_Atoi_ok ⟨ds.toArray⟩ (by rw [ba_size]; rw [htx, List.length_append] at hl; omega) k hat w).mono ?_
    rintro e w' ⟨rfl, h | ⟨t, h⟩⟩
    · rw [h]; exact ⟨rfl, Below.refl _ _⟩
    · rw [h]; exact ⟨rfl, below_bytesW w t⟩
  have HA := Hid.mk hA
  have HTT := Hid.mk (fun w hT hP => typeText_in k hk w hT hP)
  clear hC hC' hA h1 h2 htx hat hl
  unfold numT
  generalize typeT k = tt at HTT ⊢
  by_cases he : tt = text
  · rw [if_pos he]
    subst he
    have hne : ((⟨tt.toArray⟩ : ByteArray).toList != (⟨tt.toArray⟩ : ByteArray).toList) = false := by simp
    go_enter Tryz.func61, Tryz.ntmps61
    go_wp2_with fail
    refine (HC.out _).mono ?_
    rintro e w1 ⟨rfl, rfl⟩
    go_wp2_with fail
    refine (HA.out _).mono ?_
    rintro e w2 ⟨rfl, hb2⟩
    go_wp2_with fail
    refine (HTT.out _ (hT.below hb2) (hP.below hb2)).mono ?_
    rintro e w3 ⟨rfl, hb3⟩
    go_wp2
    go_ret2
    exact ⟨rfl, hb2.trans (hb3.mono hb2.size)⟩
  · rw [if_neg he]
    have hne : ((⟨tt.toArray⟩ : ByteArray).toList != (⟨text.toArray⟩ : ByteArray).toList) = true := by
      rw [bne_iff_ne, ByteArray.toList_eq, ByteArray.toList_eq]; exact he
    have hn2 : (tt == text) = false := by rw [beq_eq_false_iff_ne]; exact he
    go_enter Tryz.func61, Tryz.ntmps61
    go_wp2_with fail
    refine (HC.out _).mono ?_
    rintro e w1 ⟨rfl, rfl⟩
    go_wp2_with fail
    refine (HA.out _).mono ?_
    rintro e w2 ⟨rfl, hb2⟩
    go_wp2_with fail
    refine (HTT.out _ (hT.below hb2) (hP.below hb2)).mono ?_
    rintro e w3 ⟨rfl, hb3⟩
    go_wp2
    go_ret2
    exact ⟨rfl, hb2.trans (hb3.mono hb2.size)⟩

set_option maxRecDepth 100000 in
set_option maxHeartbeats 2000000 in
theorem typeOf_num (text ds : List UInt8) (k : Nat) (hk : k ≤ 65535) (htx : text = [84, 89, 80, 69] ++ ds) (hno : tab.all (fun r => r.2 != text) = true) (hat : Lib.atoiAll ds = .ok (k : Int)) (hl : text.length ≤ 1000) (w : World) (hT : Types w) (hP : Pow w) :
    Calls Tryz.prog 34 #[.string ⟨text.toArray⟩] w fun e w' => e = .returned (.tuple #[.int .i64 ((numT k text).1 : Nat), .int .i64 ((numT k text).2 : Nat)]) ∧ Below w.heap.size w w' := by
  have HN := Hid.mk (fun w hT hP => numbered_in text ds k hk htx hat hl w hT hP)
  clear hk htx hat hl
  generalize numT k text = r at HN ⊢
  obtain ⟨r1, r2⟩ := r
  have HL := Hid.mk (types_var hT)
  have HNO := Hid.mk hno
  clear hno
  go_enter Tryz.func34, Tryz.ntmps34
  go_upto_region 1 with fail
  refine wp_region_lit ?_
  refine wpList_run (v := .agg tabCells.toArray) rfl ?_ ?_
  · simp only [execOp, Act.eval]
    rw [Sem.run_bind, HL.out]; rfl
  go_wp2
  go_loopw [7] (fun i wr => ∃ m : Nat, m ≤ 15 ∧ i = .int .i64 m ∧ Below w.heap.size w wr) (fun i _ => 15 - (intOf i).toNat)
  case atStart => exact ⟨0, by omega, rfl, Below.refl _ _⟩
  case round =>
    obtain ⟨m, hm, rfl, hbl⟩ := hrel
    have hsz := hbl.size
    by_cases hlt : m < 15
    · obtain ⟨kd, tx, htab, hown, hix⟩ := tab_at m hlt
      have hne : tx ≠ text := by
        have h1 := List.all_eq_true.1 HNO.out _ (List.mem_of_getElem? htab)
        simpa using h1
      have hb1 : (tx == text) = false := by rw [beq_eq_false_iff_ne]; exact hne
      have hb2 : ((⟨tx.toArray⟩ : ByteArray).toList == (⟨text.toArray⟩ : ByteArray).toList) = false := by
        rw [beq_eq_false_iff_ne, ByteArray.toList_eq, ByteArray.toList_eq]; exact hne
      clear htab hown hne
      go_wp2
      go_roundw
      case rel => exact ⟨m + 1, by omega, by go_num, hbl.alloc hsz _⟩
      case measure => simp [intOf]; omega
    · go_wp2_with fail
      refine (HN.out _ (hT.below hbl) (hP.below hbl)).mono ?_
      rintro e w2 ⟨rfl, hb2⟩
      go_wp2
      go_ret2
      exact ⟨rfl, hbl.trans (hb2.mono hsz)⟩
end Go.Proofs.YtdhcbaennpediaaGreatDoor

/- The chapter's examples, one by one. -/
namespace Go.Proofs.YtdhcbaennpediaaGreatDoor
set_option linter.unusedVariables false
open Go.RowKit

theorem word_all (s : List UInt8) (h : Lib.cut s [32] = (s, [], false)) : wordB ⟨s.toArray⟩ = ⟨s.toArray⟩ ∧ restB ⟨s.toArray⟩ = ⟨#[]⟩ := by
  unfold wordB restB
  simp only [h]
  exact ⟨trivial, trivial⟩

theorem dd0 : Lib.decDigits 0 = [48] := by rw [Lib.decDigits]; rfl
theorem dd1 : Lib.decDigits 1 = [49] := by rw [Lib.decDigits]; rfl
theorem dd2 : Lib.decDigits 2 = [50] := by rw [Lib.decDigits]; rfl
theorem dd7 : Lib.decDigits 7 = [55] := by rw [Lib.decDigits]; rfl
theorem dd19 : Lib.decDigits 19 = [49, 57] := by
  rw [Lib.decDigits, dif_neg (by omega), show 19 / 10 = 1 from rfl, dd1]; rfl
theorem dd192 : Lib.decDigits 192 = [49, 57, 50] := by
  rw [Lib.decDigits, dif_neg (by omega), show 192 / 10 = 19 from rfl, dd19]; rfl
theorem dd70 : Lib.decDigits 70 = [55, 48] := by
  rw [Lib.decDigits, dif_neg (by omega), show 70 / 10 = 7 from rfl, dd7]; rfl
theorem aT_ex : aT ⟨#[192, 0, 2, 1]⟩ = [49, 57, 50, 46, 48, 46, 50, 46, 49] := by
  have h : grpW (⟨#[192, 0, 2, 1]⟩ : ByteArray).data.toList = [⟨#[49, 57, 50]⟩, ⟨#[48]⟩, ⟨#[50]⟩, ⟨#[49]⟩] := by
    show [(⟨(Lib.decDigits 192).toArray⟩ : ByteArray), ⟨(Lib.decDigits 0).toArray⟩, ⟨(Lib.decDigits 2).toArray⟩, ⟨(Lib.decDigits 1).toArray⟩] = _
    rw [dd0, dd1, dd2, dd192]
  rw [aT, h]
  rfl

theorem ex_A1 (W : World) (hG : Glob W) : Calls Tryz.prog 32 #[.int .i64 1, .string ⟨#[49, 57, 50, 46, 48, 46, 50, 46, 49]⟩] W fun e w' => e = .returned (.tuple #[.string ⟨#[192, 0, 2, 1]⟩, .int .i64 0]) ∧ Below W.heap.size W w' := by
  have hw := word_all [49, 57, 50, 46, 48, 46, 50, 46, 49] (by rfl)
  have h := readA_in ⟨#[49, 57, 50, 46, 48, 46, 50, 46, 49]⟩ (by decide) [⟨#[49, 57, 50]⟩, ⟨#[48]⟩, ⟨#[50]⟩, ⟨#[49]⟩] [192, 0, 2, 1] rfl rfl (by
      intro j h1 h2
      match j, h1 with
      | 0, _ => exact ⟨Nat.le_of_ble_eq_true rfl, Nat.le_of_ble_eq_true rfl, by rfl⟩
      | 1, _ => exact ⟨Nat.le_of_ble_eq_true rfl, Nat.le_of_ble_eq_true rfl, by rfl⟩
      | 2, _ => exact ⟨Nat.le_of_ble_eq_true rfl, Nat.le_of_ble_eq_true rfl, by rfl⟩
      | 3, _ => exact ⟨Nat.le_of_ble_eq_true rfl, Nat.le_of_ble_eq_true rfl, by rfl⟩) (by rw [hw.1]; decide) (by rw [hw.2]; decide) (by rw [hw.1]; kernel_rfl) W hG
  have hv : (⟨([192, 0, 2, 1].map UInt8.ofNat).toArray⟩ : ByteArray) = ⟨#[192, 0, 2, 1]⟩ := rfl
  rw [hv, aT_ex] at h
  rw [if_pos rfl] at h
  exact h

theorem ex_A2 (W : World) (hG : Glob W) : Calls Tryz.prog 32 #[.int .i64 1, .string ⟨#[49, 57, 50, 46, 48, 46, 50, 46, 48, 49]⟩] W fun e w' => e = .returned (.tuple #[.string ⟨#[]⟩, .int .i64 7]) ∧ Below W.heap.size W w' := by
  have hw := word_all [49, 57, 50, 46, 48, 46, 50, 46, 48, 49] (by rfl)
  have h := readA_in ⟨#[49, 57, 50, 46, 48, 46, 50, 46, 48, 49]⟩ (by decide) [⟨#[49, 57, 50]⟩, ⟨#[48]⟩, ⟨#[50]⟩, ⟨#[48, 49]⟩] [192, 0, 2, 1] rfl rfl (by
      intro j h1 h2
      match j, h1 with
      | 0, _ => exact ⟨Nat.le_of_ble_eq_true rfl, Nat.le_of_ble_eq_true rfl, by rfl⟩
      | 1, _ => exact ⟨Nat.le_of_ble_eq_true rfl, Nat.le_of_ble_eq_true rfl, by rfl⟩
      | 2, _ => exact ⟨Nat.le_of_ble_eq_true rfl, Nat.le_of_ble_eq_true rfl, by rfl⟩
      | 3, _ => exact ⟨Nat.le_of_ble_eq_true rfl, Nat.le_of_ble_eq_true rfl, by rfl⟩) (by rw [hw.1]; decide) (by rw [hw.2]; decide) (by rw [hw.1]; kernel_rfl) W hG
  have hv : (⟨([192, 0, 2, 1].map UInt8.ofNat).toArray⟩ : ByteArray) = ⟨#[192, 0, 2, 1]⟩ := rfl
  rw [hv, aT_ex] at h
  rw [if_neg (by intro e; have := congrArg ByteArray.size e; revert this; decide)] at h
  exact h

theorem ex_T70 (W : World) (hG : Glob W) : Calls Tryz.prog 33 #[.int .i64 70, .string ⟨#[1]⟩] W fun e w' => e = .returned (.tuple #[.string ⟨#[92, 35, 32, 49, 32, 48, 49]⟩, .int .i64 0]) ∧ Below W.heap.size W w' := by
  have h := text_of (by omega) (told_other 70 (by omega) rfl ⟨#[1]⟩ (by decide) W hG.pow)
  have ha : anyT ⟨#[1]⟩ = [92, 35, 32, 49, 32, 48, 49] := by
    have : (⟨#[1]⟩ : ByteArray).size = 1 := rfl
    simp [anyT, this, Lib.decDigits, hexL, hexB, dig]
  rw [ha] at h
  exact h

theorem ex_Txt (W : World) (hG : Glob W) : Calls Tryz.prog 32 #[.int .i64 16, .string ⟨#[34, 97, 92, 34, 98, 34, 32, 34, 34]⟩] W fun e w' => e = .returned (.tuple #[.string ⟨#[3, 97, 34, 98, 0]⟩, .int .i64 0]) ∧ Below W.heap.size W w' := by
  have hm : RsM [32, 34, 34] [0] := RsM.cons [34] [] [] [] rfl (by decide) RsM.nil
  have ht : txtT ⟨(cntd [97, 34, 98] ++ [0]).toArray⟩ = [34, 97, 92, 34, 98, 34, 32, 34, 34] := by kernel_rfl
  have h := readT_in [97, 92, 34, 98, 34, 32, 34, 34] [97, 34, 98] [32, 34, 34] [0] (by decide) rfl (by decide) hm (by kernel_rfl) (by rw [ht]; decide) (by rw [ht]; decide) W hG
  rw [ht, if_pos rfl] at h
  exact h

theorem ex_Of70 (W : World) (hG : Glob W) : Calls Tryz.prog 34 #[.string ⟨#[84, 89, 80, 69, 55, 48]⟩] W fun e w' => e = .returned (.tuple #[.int .i64 70, .int .i64 0]) ∧ Below W.heap.size W w' := by
  have h := typeOf_num [84, 89, 80, 69, 55, 48] [55, 48] 70 (by omega) rfl (by decide) (by rfl) (by decide) W hG.types hG.pow
  have hn : numT 70 [84, 89, 80, 69, 55, 48] = (70, 0) := by
    unfold numT
    have : typeT 70 = [84, 89, 80, 69, 55, 48] := by
      have ho : own? ((70 : Nat) : Int) = none := by rfl
      rw [typeT, ho]
      simp only [dd70]
      rfl
    rw [this]; rfl
  rw [hn] at h
  exact h
theorem ex_Of1 (W : World) (hG : Glob W) : Calls Tryz.prog 34 #[.string ⟨#[84, 89, 80, 69, 49]⟩] W fun e w' => e = .returned (.tuple #[.int .i64 0, .int .i64 7]) ∧ Below W.heap.size W w' := by
  have h := typeOf_num [84, 89, 80, 69, 49] [49] 1 (by omega) rfl (by decide) (by rfl) (by decide) W hG.types hG.pow
  have hn : numT 1 [84, 89, 80, 69, 49] = (0, 7) := by
    unfold numT
    have : typeT 1 = [65] := by
      have ho : own? ((1 : Nat) : Int) = some [65] := by rfl
      rw [typeT, ho]
    rw [this]; rfl
  rw [hn] at h
  exact h

theorem ex_R1 (W : World) : Calls Tryz.prog 35 #[.int .i64 1, .string ⟨#[97, 98, 99]⟩] W fun e w' => e = .returned (.bool false) ∧ Below W.heap.size W w' :=
  right_of (R := none) (split_A_no ⟨#[97, 98, 99]⟩ (by decide) (by decide)) W
theorem ex_R2 (W : World) : Calls Tryz.prog 35 #[.int .i64 70000, .string ⟨#[]⟩] W fun e w' => e = .returned (.bool false) ∧ Below W.heap.size W w' :=
  right_of (R := none) (fun W => split_long W 70000 ⟨#[]⟩ (by decide) (.inl (by decide))) W
end Go.Proofs.YtdhcbaennpediaaGreatDoor

/- examples() holds. -/
namespace Go.Proofs.YtdhcbaennpediaaGreatDoor
set_option linter.unusedVariables false
open Go.RowKit

set_option maxRecDepth 100000 in
set_option maxHeartbeats 2000000 in
theorem examples_in (W : World) (hG : Glob W) : Calls Tryz.prog 7 #[] W fun e w' => e = .returned (.bool true) ∧ Below W.heap.size W w' := by
  go_enter Tryz.func7, Tryz.ntmps7
  go_wp2_with fail
  refine (ex_A1 W hG).mono ?_
  rintro e w1 ⟨rfl, hb1⟩
  have hG1 := hG.below hb1
  go_wp2_with fail
  refine (ex_A2 w1 hG1).mono ?_
  rintro e w2 ⟨rfl, hb2⟩
  have hG2 := hG1.below hb2
  have k2 : Below W.heap.size W w2 := bth hb1 hb2 hb1.size
  go_wp2_with fail
  refine (ex_T70 w2 hG2).mono ?_
  rintro e w3 ⟨rfl, hb3⟩
  have hG3 := hG2.below hb3
  have k3 : Below W.heap.size W w3 := bth k2 hb3 k2.size
  go_wp2_with fail
  refine (ex_Txt w3 hG3).mono ?_
  rintro e w4 ⟨rfl, hb4⟩
  have hG4 := hG3.below hb4
  have k4 : Below W.heap.size W w4 := bth k3 hb4 k3.size
  go_wp2_with fail
  refine (ex_Of70 w4 hG4).mono ?_
  rintro e w5 ⟨rfl, hb5⟩
  have hG5 := hG4.below hb5
  have k5 : Below W.heap.size W w5 := bth k4 hb5 k4.size
  go_wp2_with fail
  refine (ex_Of1 w5 hG5).mono ?_
  rintro e w6 ⟨rfl, hb6⟩
  have k6 : Below W.heap.size W w6 := bth k5 hb6 k5.size
  go_wp2_with fail
  refine (ex_R1 w6).mono ?_
  rintro e w7 ⟨rfl, hb7⟩
  have k7 : Below W.heap.size W w7 := bth k6 hb7 k6.size
  go_wp2_with fail
  refine (ex_R2 w7).mono ?_
  rintro e w8 ⟨rfl, hb8⟩
  have k8 : Below W.heap.size W w8 := bth k7 hb8 k7.size
  go_wp2
  go_ret
  exact ⟨rfl, k8⟩
end Go.Proofs.YtdhcbaennpediaaGreatDoor

/- DataRises, the walk. -/
namespace Go.Proofs.YtdhcbaennpediaaGreatDoor
set_option linter.unusedVariables false
open Go.RowKit

theorem new_at {A B : World} {p : Obj} (hb : Below (A.alloc p).heap.size (A.alloc p) B) : B.heap[A.heap.size]? = some p := (hb.block _ (by simp)).trans (heap_new _ _)
theorem below_new {W A B : World} {p : Obj} (h : Below W.heap.size W A) (hb : Below (A.alloc p).heap.size (A.alloc p) B) : Below W.heap.size W B := (h.alloc h.size _).trans (hb.mono (by have := h.size; simp; omega))
theorem IntsAt.alloc {A : World} {v : Value} {l : List Int} (h : IntsAt A v l) (p : Obj) : IntsAt (A.alloc p) v l := h.below ((Below.refl _ _).alloc (Nat.le_refl _) _)

/-- how the loop that turns the list round stands. -/
theorem rev_take (os : List Nat) (m : Nat) (hm : m < os.length) : os.reverse.take (os.length - m) = os.reverse.take (os.length - (m + 1)) ++ [os[m]] := by
  have hk : os.length - (m + 1) < os.reverse.length := by rw [List.length_reverse]; omega
  have := List.take_succ_eq_append_getElem hk
  rw [show os.length - m = os.length - (m + 1) + 1 by omega, this]
  congr 2
  rw [List.getElem_reverse]
  congr 1
  omega

theorem rises_facts {os : List Nat} (hri : Rise (-1) os) (ho : os.length ≤ 40) :
    Hid (∀ (X : World) v, IntsAt X v (os.map fun n => ((n : Nat) : Int)) → Calls Tryz.prog 29 #[.agg #[.string ⟨#[0]⟩, v]] X fun e w' => e = .returned (.tuple #[.string (cat [⟨#[0]⟩, ⟨(encT os).toArray⟩]), .int .i64 0]) ∧ Below X.heap.size X w') ∧
    Hid (∀ (X : World), Calls Tryz.prog 16 #[.string (cat [⟨#[0]⟩, ⟨(encT os).toArray⟩])] X fun e w' => (∃ nx v', e = .returned (.tuple #[.agg #[.string nx, v'], .int .i64 0]) ∧ IntsAt w' v' (os.map fun n => ((n : Nat) : Int))) ∧ Below X.heap.size X w') ∧
    Hid (∀ (X : World) v, IntsAt X v (os.map fun n => ((n : Nat) : Int)) → Calls Tryz.prog 30 #[.agg #[.int .i64 1, .int .i64 0, .int .i64 0, .string ⟨#[]⟩, .string ⟨#[110]⟩, v]] X fun e w' => e = .returned (.tuple #[.string (cat (pcs3 1 0 0 [] [110] (encT os))), .int .i64 0]) ∧ Below X.heap.size X w') ∧
    Hid (∀ (X : World), Calls Tryz.prog 18 #[.string (cat (pcs3 1 0 0 [] [110] (encT os)))] X fun e w' => (∃ (n0 n1 n2 : Nat) (sa nx : List UInt8) (v' : Value), e = .returned (.tuple #[.agg #[.int .i64 ((n0 : Nat) : Int), .int .i64 ((n1 : Nat) : Int), .int .i64 ((n2 : Nat) : Int), .string ⟨sa.toArray⟩, .string ⟨nx.toArray⟩, v'], .int .i64 0]) ∧ IntsAt w' v' (os.map fun n => ((n : Nat) : Int))) ∧ Below X.heap.size X w') ∧
    Hid (∀ (X : World) va vb, IntsAt X va (os.map fun n => ((n : Nat) : Int)) → IntsAt X vb (os.map fun n => ((n : Nat) : Int)) → Calls Tryz.prog 20 #[va, vb] X fun e w' => e = .returned (.bool true) ∧ Below X.heap.size X w') ∧
    Hid (∀ (X : World) v, 2 ≤ os.length → IntsAt X v (os.reverse.map fun n => ((n : Nat) : Int)) → Calls Tryz.prog 29 #[.agg #[.string ⟨#[0]⟩, v]] X fun e w' => e = .returned (.tuple #[.string ⟨#[]⟩, .int .i64 6]) ∧ Below X.heap.size X w') := by
  refine ⟨fun X v hX => ?_, fun X => ?_, fun X v hX => ?_, fun X => ?_, fun X va vb ha hb => ?_, fun X v h2 hX => ?_⟩
  · have := ofNsec_in ⟨#[0]⟩ v _ (encT os) (by decide) (by simp; omega) (encR_rise hri) X hX
    rw [nsec_join hri ho] at this
    exact this
  · refine (takeNsec_in _ (by have := ((split_iff 47 _ _).1 (nsec_rise hri ho)).2.1; unfold maxLen; omega) X).mono ?_
    rintro e w' ⟨⟨v, er, rfl, ht⟩, hb⟩
    obtain ⟨rfl, nx, v', rfl, hi⟩ := nsec_took hri ho ht
    exact ⟨⟨nx, v', rfl, hi⟩, hb⟩
  · have := ofNsec3_in 1 0 0 (by decide) (by decide) (by decide) [] [110] (by decide) (by decide) v _ (encT os) (by simp; omega) (encR_rise hri) X hX
    rw [nsec3_join hri ho] at this
    exact this
  · refine (takeNsec3_in _ (by have := ((split_iff 50 _ _).1 (nsec3_rise hri ho)).2.1; unfold maxLen; omega) X).mono ?_
    rintro e w' ⟨⟨v, er, rfl, ht⟩, hb⟩
    obtain ⟨rfl, n0, n1, n2, sa, nx, v', rfl, hi⟩ := nsec3_took hri ho ht
    exact ⟨⟨n0, n1, n2, sa, nx, v', rfl, hi⟩, hb⟩
  · have := numbers_in X va vb _ _ ha hb (by simp; omega) (by simp; omega)
    rw [decide_eq_true rfl] at this
    exact this
  · exact ofNsec_no ⟨#[0]⟩ v _ (by simp; omega) (back_none hri h2) X hX

set_option maxRecDepth 100000 in
set_option maxHeartbeats 8000000 in
theorem rises_walk (a0 : Option Addr) (cap : Nat) (ls : List Int) (hmax : ∀ z ∈ ls, -9223372036854775808 ≤ z ∧ z ≤ 9223372036854775807) (hsh : ls.length ≤ cap ∧ cap ≤ maxLen ∧ (a0 = none → cap = 0)) (W : World) (hgiv : GivenI W a0 ls) (hG : Glob W) :
    Calls Tryz.prog 6 #[.slice a0 ls.length cap] W fun e w' => e = .returned (.bool true) ∧ Below W.heap.size W w' := by
  obtain ⟨h1, h2, h3⟩ := hsh
  unfold maxLen at h2
  obtain ⟨k, hk⟩ : ∃ k, (ls.take 40).length = k := ⟨_, rfl⟩
  have hk2 : k ≤ 40 ∧ k ≤ ls.length ∧ min (ls.length : Int) 40 = ((k : Nat) : Int) := by rw [List.length_take] at hk; omega
  obtain ⟨hk40, hkl, hmin⟩ := hk2
  have HRS : Hid (∀ (W' : World), GivenI W' a0 (ls.take 40) → Calls Tryz.prog 31 #[.slice a0 k cap] W' fun e w' => (∃ v os, e = .returned v ∧ Rise (-1) os ∧ os.length ≤ 40 ∧ w'.ownsRow W'.heap.size 3 1 v os.length (intsV os)) ∧ Below W'.heap.size W' w') := fun W' hg => by
    have := rise_in W' a0 cap (ls.take 40) (by omega) hg (fun x hx => hmax x (List.mem_of_mem_take hx))
    rw [hk] at this
    exact this
  have HGV := Hid.mk (hgiv.take 40)
  clear hmax hgiv hk
  go_enter Tryz.func6, Tryz.ntmps6
  go_wp2_with fail
  refine (examples_in W hG).mono ?_
  rintro e w1 ⟨rfl, k1⟩
  have HGV1 := Hid.mk (HGV.out.below k1)
  clear HGV hG
  have hsl : ∀ (P : Prop), ((a0 = none → P) ∧ (∀ ad, a0 = some ad → P)) → P := fun P h => by
    cases a0 with
    | none => exact h.1 rfl
    | some ad => exact h.2 ad rfl
  refine hsl _ ⟨fun e => ?_, fun ad e => ?_⟩
  · subst e
    obtain rfl := h3 rfl
    obtain rfl : k = 0 := by omega
    go_wp2_with fail
    refine (HRS.out w1 HGV1.out).mono ?_
    rintro e w2 ⟨⟨v, os, rfl, hri, ho40, hrow⟩, k2'⟩
    have k2 := Hid.mk (bth k1 k2' k1.size)
    obtain ⟨q, c, hv⟩ := row_as hrow
    subst hv
    have I2 := Hid.mk (ints_of_row hrow)
    obtain ⟨HO1, HT1, HO2, HT2, HNm, HBk⟩ := rises_facts hri ho40
    clear HRS HGV1 k1 k2' hrow hri
    generalize cat [⟨#[0]⟩, ⟨(encT os).toArray⟩] = D at HO1 HT1
    generalize cat (pcs3 1 0 0 [] [110] (encT os)) = D3 at HO2 HT2
    go_wp2_with fail
    refine (HO1.out _ _ I2.out).mono ?_
    rintro e w3 ⟨rfl, y3⟩
    have k3 := Hid.mk (bth k2.out y3 k2.out.size)
    have I3 := Hid.mk (I2.out.below y3)
    clear I2 y3 k2 HO1
    go_wp2_with fail
    refine (HT1.out _).mono ?_
    rintro e w4 ⟨⟨nx, v', rfl, i4⟩, y4⟩
    have X4 := Hid.mk i4
    obtain ⟨q4, c4, hv4, _⟩ := i4
    rw [List.length_map] at hv4
    subst hv4
    have k4 := Hid.mk (bth k3.out y4 k3.out.size)
    have I4 := Hid.mk (I3.out.below y4)
    clear I3 y4 k3 HT1
    go_wp2_with fail
    refine (HO2.out _ _ (I4.out.alloc _)).mono ?_
    rintro e w5 ⟨rfl, y5⟩
    have H7 := Hid.mk (new_at y5)
    have k5 := Hid.mk (below_new k4.out y5)
    have I5 := Hid.mk ((I4.out.alloc _).below y5)
    have X5 := Hid.mk ((X4.out.alloc _).below y5)
    clear I4 X4 y5 k4 HO2
    go_wp2_with fail
    refine (HT2.out _).mono ?_
    rintro e w6 ⟨⟨n0, n1, n2, sa, nx3, v3, rfl, i6⟩, y6⟩
    have Z6 := Hid.mk i6
    obtain ⟨q6, c6, hv6, _⟩ := i6
    rw [List.length_map] at hv6
    subst hv6
    have k6 := Hid.mk (bth k5.out y6 k5.out.size)
    have I6 := Hid.mk ((I5.out.below y6).alloc (.cells #[.int .i64 ((n0 : Nat) : Int), .int .i64 ((n1 : Nat) : Int), .int .i64 ((n2 : Nat) : Int), .string ⟨sa.toArray⟩, .string ⟨nx3.toArray⟩, .slice q6 os.length c6] 56))
    have X6 := Hid.mk ((X5.out.below y6).alloc (.cells #[.int .i64 ((n0 : Nat) : Int), .int .i64 ((n1 : Nat) : Int), .int .i64 ((n2 : Nat) : Int), .string ⟨sa.toArray⟩, .string ⟨nx3.toArray⟩, .slice q6 os.length c6] 56))
    replace H7 := Hid.mk ((y6.block _ (box_lt H7.out)).trans H7.out)
    have H7' := Hid.mk ((alloc_old w6 (.cells #[.int .i64 ((n0 : Nat) : Int), .int .i64 ((n1 : Nat) : Int), .int .i64 ((n2 : Nat) : Int), .string ⟨sa.toArray⟩, .string ⟨nx3.toArray⟩, .slice q6 os.length c6] 56) _ (box_lt H7.out)).trans H7.out)
    have e7 := (cells_at (v := .slice q4 os.length c4) (j := 1) H7'.out rfl).1
    clear I5 X5 y6 k5 HT2 H7 H7'
    go_wp2_with fail
    refine (HNm.out _ _ _ X6.out I6.out).mono ?_
    rintro e w7 ⟨rfl, y7⟩
    have H11 := Hid.mk (new_at y7)
    have e11 := (cells_at (v := .slice q6 os.length c6) (j := 5) H11.out rfl).1
    have k7 := Hid.mk (below_new k6.out y7)
    have Z7 := Hid.mk ((Z6.out.alloc _).below y7)
    have I7 := Hid.mk (I6.out.below y7)
    clear Z6 I6 X6 y7 k6 e7 H11
    go_wp2_with fail
    refine (HNm.out _ _ _ Z7.out I7.out).mono ?_
    rintro e w8 ⟨rfl, y8⟩
    have k8 := Hid.mk (bth k7.out y8 k7.out.size)
    have I8 := Hid.mk (I7.out.below y8)
    clear Z7 I7 y8 k7 e11 HNm
    by_cases h2l : os.length < 2
    · go_wp2
      go_ret
      exact ⟨rfl, k8.out⟩
    · go_wp2
      go_loopw [15, 16] (fun bv iv wr => ∃ m : Nat, m ≤ os.length ∧ iv = .int .i64 ((m : Int) - 1) ∧ wr.ownsRow w8.heap.size 3 1 bv (os.length - m) (intsV (os.reverse.take (os.length - m))) ∧ Below w8.heap.size w8 wr) (fun _ iv _ => ((intOf iv) + 1).toNat)
      case atStart => exact ⟨os.length, Nat.le_refl _, by go_num, by rw [Nat.sub_self]; exact World.ownsRow_nil .., Below.refl _ _⟩
      case round =>
        obtain ⟨m, hm, rfl, hrw, hb9⟩ := hrel
        cases m with
        | zero =>
          have hrw2 := row_eq hrw (show os.length - 0 = os.reverse.length by simp) (show intsV (os.reverse.take (os.length - 0)) = intsV os.reverse by rw [List.take_of_length_le (by simp)])
          obtain ⟨qb, cb, hvb⟩ := row_as hrw2
          rw [List.length_reverse] at hvb
          subst hvb
          have IB := Hid.mk (ints_of_row hrw2)
          have HLr : os.reverse.length = os.length := by simp
          clear hrw hrw2
          go_wp2_with fail
          refine (HBk.out _ _ (by omega) IB.out).mono ?_
          rintro e w9 ⟨rfl, y9⟩
          go_wp2
          go_ret
          exact ⟨rfl, bth k8.out (bth hb9 y9 hb9.size) k8.out.size⟩
        | succ m =>
          obtain ⟨q', c', hv', hcl⟩ := I8.out
          rw [List.length_map] at hv'
          cases hv'
          obtain ⟨g, hq, hg, hx⟩ := hcl m (by rw [List.length_map]; omega)
          subst hq
          have hcx : wr.cell? ⟨g, m, none⟩ = some (.int .i64 ((os[m] : Nat) : Int)) := by
            rw [hb9.cell (p := ⟨g, m, none⟩) hg, hx]; simp
          have HNX := Hid.mk (rev_take os m hm)
          have hsz9 := hb9.size
          clear hx hcl
          generalize os[m] = y at hcx HNX
          go_wp2_with (at_builtin; refine wpList_append_ints rfl _ _ rfl w8.heap.size _ _ _ _ [y] rfl (hrw.alloc _) rfl (isrc_one wr y) (by omega) (by simp) (by simp; omega) ?_; intro v1 w9 hown1 hb1)
          have HOW : Hid (w9.ownsRow w8.heap.size 3 1 v1 (os.length - m) (intsV (os.reverse.take (os.length - m)))) :=
            row_eq hown1 (by have : [y].length = 1 := rfl; omega) (by rw [HNX.out, intsV_app])
          have hb10 : Below w8.heap.size w8 w9 := (hb9.alloc hsz9 _).trans hb1
          go_wp2
          exact ⟨⟨m, by omega, by go_num, HOW.out, hb10⟩, by simp [intOf]⟩
  · subst e
    clear h3 hsl
    go_wp2_with fail
    refine (HRS.out w1 HGV1.out).mono ?_
    rintro e w2 ⟨⟨v, os, rfl, hri, ho40, hrow⟩, k2'⟩
    have k2 := Hid.mk (bth k1 k2' k1.size)
    obtain ⟨q, c, hv⟩ := row_as hrow
    subst hv
    have I2 := Hid.mk (ints_of_row hrow)
    obtain ⟨HO1, HT1, HO2, HT2, HNm, HBk⟩ := rises_facts hri ho40
    clear HRS HGV1 k1 k2' hrow hri
    generalize cat [⟨#[0]⟩, ⟨(encT os).toArray⟩] = D at HO1 HT1
    generalize cat (pcs3 1 0 0 [] [110] (encT os)) = D3 at HO2 HT2
    go_wp2_with fail
    refine (HO1.out _ _ I2.out).mono ?_
    rintro e w3 ⟨rfl, y3⟩
    have k3 := Hid.mk (bth k2.out y3 k2.out.size)
    have I3 := Hid.mk (I2.out.below y3)
    clear I2 y3 k2 HO1
    go_wp2_with fail
    refine (HT1.out _).mono ?_
    rintro e w4 ⟨⟨nx, v', rfl, i4⟩, y4⟩
    have X4 := Hid.mk i4
    obtain ⟨q4, c4, hv4, _⟩ := i4
    rw [List.length_map] at hv4
    subst hv4
    have k4 := Hid.mk (bth k3.out y4 k3.out.size)
    have I4 := Hid.mk (I3.out.below y4)
    clear I3 y4 k3 HT1
    go_wp2_with fail
    refine (HO2.out _ _ (I4.out.alloc _)).mono ?_
    rintro e w5 ⟨rfl, y5⟩
    have H7 := Hid.mk (new_at y5)
    have k5 := Hid.mk (below_new k4.out y5)
    have I5 := Hid.mk ((I4.out.alloc _).below y5)
    have X5 := Hid.mk ((X4.out.alloc _).below y5)
    clear I4 X4 y5 k4 HO2
    go_wp2_with fail
    refine (HT2.out _).mono ?_
    rintro e w6 ⟨⟨n0, n1, n2, sa, nx3, v3, rfl, i6⟩, y6⟩
    have Z6 := Hid.mk i6
    obtain ⟨q6, c6, hv6, _⟩ := i6
    rw [List.length_map] at hv6
    subst hv6
    have k6 := Hid.mk (bth k5.out y6 k5.out.size)
    have I6 := Hid.mk ((I5.out.below y6).alloc (.cells #[.int .i64 ((n0 : Nat) : Int), .int .i64 ((n1 : Nat) : Int), .int .i64 ((n2 : Nat) : Int), .string ⟨sa.toArray⟩, .string ⟨nx3.toArray⟩, .slice q6 os.length c6] 56))
    have X6 := Hid.mk ((X5.out.below y6).alloc (.cells #[.int .i64 ((n0 : Nat) : Int), .int .i64 ((n1 : Nat) : Int), .int .i64 ((n2 : Nat) : Int), .string ⟨sa.toArray⟩, .string ⟨nx3.toArray⟩, .slice q6 os.length c6] 56))
    replace H7 := Hid.mk ((y6.block _ (box_lt H7.out)).trans H7.out)
    have H7' := Hid.mk ((alloc_old w6 (.cells #[.int .i64 ((n0 : Nat) : Int), .int .i64 ((n1 : Nat) : Int), .int .i64 ((n2 : Nat) : Int), .string ⟨sa.toArray⟩, .string ⟨nx3.toArray⟩, .slice q6 os.length c6] 56) _ (box_lt H7.out)).trans H7.out)
    have e7 := (cells_at (v := .slice q4 os.length c4) (j := 1) H7'.out rfl).1
    clear I5 X5 y6 k5 HT2 H7 H7'
    go_wp2_with fail
    refine (HNm.out _ _ _ X6.out I6.out).mono ?_
    rintro e w7 ⟨rfl, y7⟩
    have H11 := Hid.mk (new_at y7)
    have e11 := (cells_at (v := .slice q6 os.length c6) (j := 5) H11.out rfl).1
    have k7 := Hid.mk (below_new k6.out y7)
    have Z7 := Hid.mk ((Z6.out.alloc _).below y7)
    have I7 := Hid.mk (I6.out.below y7)
    clear Z6 I6 X6 y7 k6 e7 H11
    go_wp2_with fail
    refine (HNm.out _ _ _ Z7.out I7.out).mono ?_
    rintro e w8 ⟨rfl, y8⟩
    have k8 := Hid.mk (bth k7.out y8 k7.out.size)
    have I8 := Hid.mk (I7.out.below y8)
    clear Z7 I7 y8 k7 e11 HNm
    by_cases h2l : os.length < 2
    · go_wp2
      go_ret
      exact ⟨rfl, k8.out⟩
    · go_wp2
      go_loopw [15, 16] (fun bv iv wr => ∃ m : Nat, m ≤ os.length ∧ iv = .int .i64 ((m : Int) - 1) ∧ wr.ownsRow w8.heap.size 3 1 bv (os.length - m) (intsV (os.reverse.take (os.length - m))) ∧ Below w8.heap.size w8 wr) (fun _ iv _ => ((intOf iv) + 1).toNat)
      case atStart => exact ⟨os.length, Nat.le_refl _, by go_num, by rw [Nat.sub_self]; exact World.ownsRow_nil .., Below.refl _ _⟩
      case round =>
        obtain ⟨m, hm, rfl, hrw, hb9⟩ := hrel
        cases m with
        | zero =>
          have hrw2 := row_eq hrw (show os.length - 0 = os.reverse.length by simp) (show intsV (os.reverse.take (os.length - 0)) = intsV os.reverse by rw [List.take_of_length_le (by simp)])
          obtain ⟨qb, cb, hvb⟩ := row_as hrw2
          rw [List.length_reverse] at hvb
          subst hvb
          have IB := Hid.mk (ints_of_row hrw2)
          have HLr : os.reverse.length = os.length := by simp
          clear hrw hrw2
          go_wp2_with fail
          refine (HBk.out _ _ (by omega) IB.out).mono ?_
          rintro e w9 ⟨rfl, y9⟩
          go_wp2
          go_ret
          exact ⟨rfl, bth k8.out (bth hb9 y9 hb9.size) k8.out.size⟩
        | succ m =>
          obtain ⟨q', c', hv', hcl⟩ := I8.out
          rw [List.length_map] at hv'
          cases hv'
          obtain ⟨g, hq, hg, hx⟩ := hcl m (by rw [List.length_map]; omega)
          subst hq
          have hcx : wr.cell? ⟨g, m, none⟩ = some (.int .i64 ((os[m] : Nat) : Int)) := by
            rw [hb9.cell (p := ⟨g, m, none⟩) hg, hx]; simp
          have HNX := Hid.mk (rev_take os m hm)
          have hsz9 := hb9.size
          clear hx hcl
          generalize os[m] = y at hcx HNX
          go_wp2_with (at_builtin; refine wpList_append_ints rfl _ _ rfl w8.heap.size _ _ _ _ [y] rfl (hrw.alloc _) rfl (isrc_one wr y) (by omega) (by simp) (by simp; omega) ?_; intro v1 w9 hown1 hb1)
          have HOW : Hid (w9.ownsRow w8.heap.size 3 1 v1 (os.length - m) (intsV (os.reverse.take (os.length - m)))) :=
            row_eq hown1 (by have : [y].length = 1 := rfl; omega) (by rw [HNX.out, intsV_app])
          have hb10 : Below w8.heap.size w8 w9 := (hb9.alloc hsz9 _).trans hb1
          go_wp2
          exact ⟨⟨m, by omega, by go_num, HOW.out, hb10⟩, by simp [intOf]⟩
end Go.Proofs.YtdhcbaennpediaaGreatDoor
