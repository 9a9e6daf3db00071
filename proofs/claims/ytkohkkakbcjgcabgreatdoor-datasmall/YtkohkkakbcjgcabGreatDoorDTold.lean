/- told: data as a text. -/
import Derived.Test.YtkohkkakbcjgcabGreatDoorDOther
import Derived.Test.YtkohkkakbcjgcabGreatDoorShelf
namespace Go.Proofs.YtkohkkakbcjgcabGreatDoor
set_option linter.unusedVariables false
open Go.RowKit

/-- what the parts of a type's form do. -/
structure Form where
  n : Nat
  pf : Nat → ByteArray → Option Nat
  tf : Nat → ByteArray → ByteArray
  ok : Nat → ByteArray → Prop

def FormPost (F : Form) (w : World) (e : Ending) (w' : World) : Prop :=
  ∃ g P, e = .returned (.slice (some ⟨g, 0, none⟩) F.n F.n) ∧ PartsIn w' g F.n P ∧ (∀ k, k < F.n → Enters (P k).pass) ∧
    (∀ k, k < F.n → ∀ (W' : World) (d : Nat) (s' : ByteArray), Below w'.heap.size w' W' → w'.heap.size ≤ d → Rd W' d s' → s'.size ≤ 2000 →
      Calls Tryz.prog (P k).pass (#[boxV d] ++ (P k).passC) W' fun e w'' => PassPost (F.pf k s') s' d W' w'' e) ∧ Below w.heap.size w w' ∧
    (∀ k, k < F.n → Enters (P k).tell) ∧
    (∀ k, k < F.n → ∀ (W' : World) (x : ByteArray), Below w'.heap.size w' W' → F.ok k x →
      Calls Tryz.prog (P k).tell (#[.string x] ++ (P k).tellC) W' fun e w'' => e = .returned (.string (F.tf k x)) ∧ Below W'.heap.size W' w'')

theorem FormPost.parts {F : Form} {w w' : World} {e : Ending} (h : FormPost F w e w') : PartsPost F.n F.pf w e w' :=
  let ⟨g, P, h1, h2, h3, h4, h5, _, _⟩ := h
  ⟨g, P, h1, h2, h3, h4, h5⟩

/-- the words that tell pieces, from the k-th part on. -/
def words (F : Form) : Nat → List ByteArray → List ByteArray
  | _, [] => []
  | k, x :: r => if (F.tf k x).size = 0 then words F (k + 1) r else F.tf k x :: words F (k + 1) r
theorem words_snoc (F : Form) : ∀ (l : List ByteArray) (k : Nat) (x : ByteArray), words F k (l ++ [x]) = words F k l ++ (if (F.tf (k + l.length) x).size = 0 then [] else [F.tf (k + l.length) x])
  | [], k, x => by simp only [words, List.nil_append, List.length_nil, Nat.add_zero]
  | y :: l, k, x => by
    rw [List.cons_append, words, words, words_snoc F l, List.length_cons, show k + 1 + l.length = k + (l.length + 1) by omega]
    split
    · rfl
    · rfl

/-- how the loop of told stands. -/
def ToldRel (F : Form) (ps : List ByteArray) (w2 : World) (v i : Value) (wr : World) : Prop :=
  ∃ m : Nat, m ≤ F.n ∧ i = .int .i64 m ∧ wr.ownsRow w2.heap.size 9 1 v (words F 0 (ps.take m)).length (baV (words F 0 (ps.take m))) ∧ Below w2.heap.size w2 wr

theorem words_len (F : Form) : ∀ (l : List ByteArray) (k : Nat), (words F k l).length ≤ l.length
  | [], _ => by simp [words]
  | x :: r, k => by
    have := words_len F r (k + 1)
    rw [words]
    split
    · simp; omega
    · simp; omega

theorem row_bel {W W' : World} {n₀ n : Nat} {e : TypeId} {v : Value} {xs : List Value} (h : W.ownsRow n₀ e 1 v n xs) (hb : Below W.heap.size W W') : W'.ownsRow n₀ e 1 v n xs := by
  refine ⟨h.1, ?_⟩
  rcases h.2 with h' | ⟨g, cap, cur, hv, hb', hg, hr⟩
  · exact .inl h'
  · exact .inr ⟨g, cap, cur, hv, hb', (hb.block g (box_lt hg)).trans hg, hr⟩

theorem rowBaseB {W : World} {n₀ n : Nat} {e : TypeId} {v : Value} {xs : List Value} (h : W.ownsRow n₀ e 1 v n xs) : ∀ k, v.ownBlock = some k → n₀ ≤ k := by
  intro k e
  rcases h.2 with ⟨rfl, _⟩ | ⟨g, cap, cur, rfl, hb, _⟩
  · simp [Value.ownBlock] at e
  · obtain rfl : g = k := by simpa [Value.ownBlock] using e
    exact hb

theorem row_cell {W : World} {n₀ n c : Nat} {e : TypeId} {q : Option Addr} {ps : List ByteArray} (h : W.ownsRow n₀ e 1 (.slice q n c) n (baV ps)) (j : Nat) (hj : j < ps.length) : ∃ g, q = some ⟨g, 0, none⟩ ∧ g < W.heap.size ∧ W.cell? ⟨g, j, none⟩ = some (.string ps[j]) := by
  have hn : ps.length = n := by have := h.1; simpa [baV] using this
  rcases h.2 with ⟨_, h0⟩ | ⟨g, cap, cur, hv, _, hg, _, _, _, ht⟩
  · omega
  · cases hv
    refine ⟨g, rfl, box_lt hg, ?_⟩
    have := Lib.cells_of_row (w := W) hg n j (.string ps[j]) (by rw [Nat.mul_one] at ht; rw [ht]; simp [baV, hj])
    rwa [add_at] at this

theorem join_row {W : World} {n₀ : Nat} {v : Value} {ws : List ByteArray} (sep : ByteArray) (h : W.ownsRow n₀ 9 1 v ws.length (baV ws)) (hl : ws.length ≤ 1000000) (hj : (Lib.join (ws.map (·.data.toList)) sep.data.toList).length ≤ 140737488355328) :
    Calls Tryz.prog 49 #[v, .string sep] W fun e w' => e = .returned (.string ⟨(Lib.join (ws.map (·.data.toList)) sep.data.toList).toArray⟩) ∧ Below W.heap.size W w' := by
  rcases h.2 with ⟨rfl, h0⟩ | ⟨g, cap, cur, rfl, _, hg, hc, _, _, ht⟩
  · obtain rfl : ws = [] := List.length_eq_zero_iff.1 h0
    refine (Tryz.strings_Join_none none 0 sep W).mono ?_
    rintro e w' ⟨rfl, rfl⟩
    exact ⟨rfl, Below.refl _ _⟩
  · refine Tryz.strings_Join g 0 cap ws sep W (fun j x hx => ?_) (box_lt hg) (by omega) hc hj
    obtain ⟨hjl, he⟩ := List.getElem?_eq_some_iff.1 hx
    have := Lib.cells_of_row (w := W) hg ws.length j (.string x) (by rw [Nat.mul_one] at ht; rw [ht]; simp [baV, hx])
    rw [add_at] at this
    rw [Nat.zero_add]; exact this

theorem join_len (sep : List UInt8) : ∀ (ws : List ByteArray) (b : Nat), (∀ x ∈ ws, x.size ≤ b) → (Lib.join (ws.map (·.data.toList)) sep).length ≤ ws.length * (b + sep.length)
  | [], b, _ => by simp [Lib.join, List.intercalate]
  | [x], b, h => by
    have := h x (by simp)
    simp only [List.map_cons, List.map_nil, Lib.join, List.intercalate, List.intersperse]
    simp only [List.flatten_cons, List.flatten_nil, List.append_nil, size_list, List.length_cons, List.length_nil]
    omega
  | x :: y :: r, b, h => by
    have h1 := h x (by simp)
    have ih := join_len sep (y :: r) b (fun z hz => h z (by simp [hz]))
    simp only [List.map_cons, Lib.join, List.intercalate] at ih ⊢
    rw [List.intersperse_cons_cons]
    simp only [List.flatten_cons, List.length_append, size_list, List.length_cons] at ih ⊢
    rw [Nat.add_mul, Nat.one_mul]
    omega

theorem words_size (F : Form) (b : Nat) : ∀ (l : List ByteArray) (k : Nat), (∀ j (h : j < l.length), (F.tf (k + j) l[j]).size ≤ b) → ∀ x ∈ words F k l, x.size ≤ b
  | [], _, _ => by simp [words]
  | y :: r, k, h => by
    intro x hx
    have h0 := h 0 (by simp)
    have hr := words_size F b r (k + 1) (fun j hj => by
      have := h (j + 1) (by simp; omega)
      rwa [show k + (j + 1) = k + 1 + j by omega] at this)
    rw [words] at hx
    split at hx
    · exact hr x hx
    · rcases List.mem_cons.1 hx with rfl | hx
      · exact h0
      · exact hr x hx

set_option maxRecDepth 100000 in
set_option maxHeartbeats 4000000 in
theorem told_in (F : Form) (hn : F.n ≤ 20) (k : Int) (s : ByteArray) (ps : List ByteArray) (hps : ps.length = F.n) (hok : ∀ j (h : j < ps.length), F.ok j ps[j]) (htz : ∀ j (h : j < ps.length), (F.tf j ps[j]).size ≤ 100000) (W : World)
    (hsp : ∀ W, Calls Tryz.prog 33 #[.int .i64 k, .string s] W fun e w' => SplitPost (some ps) W e w')
    (hparts : ∀ w, Below W.heap.size W w → Calls Tryz.prog 47 #[.int .i64 k] w fun e w' => FormPost F w e w') :
    Calls Tryz.prog 31 #[.int .i64 k, .string s] W fun e w' => e = .returned (.tuple #[.string ⟨(Lib.join ((words F 0 ps).map (·.data.toList)) [32]).toArray⟩, .bool true]) ∧ Below W.heap.size W w' := by
  have HSP := Hid.mk hsp
  have HPA := Hid.mk hparts
  clear hsp hparts
  obtain ⟨i0, hi, hz0, hz1, hz2⟩ := info_parts info9
  have hmo : Tryz.prog.follows Departure.mixedOrders = true := by kernel_rfl
  go_enter Tryz.func31, Tryz.ntmps31
  go_wp2_with fail
  refine (HSP.out _).mono ?_
  rintro e w1 ⟨⟨v, rfl, hrow⟩, hb1⟩
  obtain ⟨qv, cv, hqv⟩ := row_as hrow
  subst hqv
  go_wp2_with fail
  refine (HPA.out _ hb1).mono ?_
  rintro e w2 ⟨g, P, rfl, hP, _, _, hb2, hent, htell⟩
  have hrow2 : w2.ownsRow W.heap.size 9 1 (.slice qv ps.length cv) ps.length (baV ps) := row_bel hrow hb2
  have HT := Hid.mk htell
  have HE := Hid.mk hent
  clear htell hent hrow
  rw [hps] at hrow2
  go_wp2
  go_loopw [8, 23] (fun v i wr => ToldRel F ps w2 v i wr) (fun _ i _ => F.n - (intOf i).toNat)
  case atStart => exact ⟨0, Nat.zero_le _, rfl, World.ownsRow_nil .., Below.refl _ _⟩
  case round =>
    obtain ⟨m, hm, rfl, hrw, hbl⟩ := hrel
    have hsz := hbl.size
    by_cases hlt : m < F.n
    · have hmp : m < ps.length := by omega
      have hg := hP.lt (by omega)
      obtain ⟨gp, hgp, hgl, hgc⟩ := row_cell hrow2 m hmp
      subst hgp
      have c0 := (hbl.cell (p := ⟨g, m * 4, none⟩) hg).trans (hP.c0 m hlt)
      have c1 := (hbl.cell (p := ⟨g, m * 4 + 1, none⟩) hg).trans (hP.c1 m hlt)
      have c2 := (hbl.cell (p := ⟨g, m * 4 + 2, none⟩) hg).trans (hP.c2 m hlt)
      have c3 := (hbl.cell (p := ⟨g, m * 4 + 3, none⟩) hg).trans (hP.c3 m hlt)
      have hpc : ∀ o, (wr.alloc o).cell? ⟨gp, m, none⟩ = some (.string ps[m]) := fun o =>
        ((hbl.alloc hsz o).cell (p := ⟨gp, m, none⟩) hgl).trans hgc
      have hen := HE.out m hlt
      have HC : Hid (∀ o, Calls Tryz.prog (P m).tell (#[.string ps[m]] ++ (P m).tellC) (wr.alloc o).drew fun e w'' => e = .returned (.string (F.tf m ps[m])) ∧ Below (wr.alloc o).heap.size (wr.alloc o) w'') := by
        intro o
        refine (HT.out m hlt (wr.alloc o).drew ps[m] (hbl.alloc hsz o).drew (hok m hmp)).mono ?_
        rintro e w'' ⟨he, hb⟩
        exact ⟨he, hb.os, hb.tape, hb.output, hb.size, hb.block⟩
      have hws : words F 0 (ps.take (m + 1)) = words F 0 (ps.take m) ++ (if (F.tf m ps[m]).size = 0 then [] else [F.tf m ps[m]]) := by
        rw [List.take_succ_eq_append_getElem hmp, words_snoc, Nat.zero_add, List.length_take, Nat.min_eq_left (by omega)]
      have HWS := Hid.mk hws
      have hwl := words_len F (ps.take m) 0
      rw [List.length_take] at hwl
      generalize hpk : P m = pk at c0 c1 c2 c3 HC hen
      obtain ⟨fp, cp, ft, ct, fr, cr, nmb⟩ := pk
      dsimp only [Enters] at c0 c1 c2 c3 HC hen
      have htzm := htz m hmp
      clear hpk hws
      generalize F.tf m ps[m] = tx at HC HWS htzm
      generalize ps[m] = pm at hpc HC hgc
      generalize words F 0 (ps.take m) = ws at hrw HWS hwl
      by_cases h0 : tx.size = 0
      · obtain rfl : tx = ⟨#[]⟩ := ByteArray.ext (Array.eq_empty_of_size_eq_zero h0)
        go_wp2
        go_region_with (refine (HC.out _).mono ?_; rintro e w3 ⟨rfl, hb3⟩)
        all_goals
          go_wp2
          have hal := hbl.alloc hsz (.cells #[fnV fp cp, fnV ft ct, fnV fr cr, .bool nmb] 86)
          refine ⟨⟨m + 1, by omega, by go_num, ?_, hal.trans (hb3.mono hal.size)⟩, by simp [intOf]; omega⟩
          rw [HWS.out, if_pos (show (⟨#[]⟩ : ByteArray).size = 0 from rfl), List.append_nil]
          exact row_bel (row_bel hrw ((Below.refl _ _).alloc (Nat.le_refl _) _)) hb3
      · have hne : (tx.toList != []) = true := by
          rw [bne_iff_ne, ByteArray.toList_eq]
          intro e; apply h0; rw [← size_list, e]; rfl
        have hne2 : (tx.toList == []) = false := by
          rw [beq_eq_false_iff_ne, ByteArray.toList_eq]
          intro e; apply h0; rw [← size_list, e]; rfl
        have hne3 : (tx.data.toList == []) = false := by
          rw [beq_eq_false_iff_ne]
          intro e; apply h0; rw [← size_list, e]; rfl
        have hal := hbl.alloc hsz (.cells #[fnV fp cp, fnV ft ct, fnV fr cr, .bool nmb] 86)
        have HR3 : Hid (∀ w3, Below (wr.alloc (.cells #[fnV fp cp, fnV ft ct, fnV fr cr, .bool nmb] 86)).heap.size (wr.alloc (.cells #[fnV fp cp, fnV ft ct, fnV fr cr, .bool nmb] 86)) w3 → w3.ownsRow w2.heap.size 9 1 u8 ws.length (baV ws) ∧ Below w2.heap.size w2 w3) := fun w3 hb3 =>
          ⟨row_bel (row_bel hrw ((Below.refl _ _).alloc (Nat.le_refl _) _)) hb3, hal.trans (hb3.mono hal.size)⟩
        go_wp2
        go_region_with (refine (HC.out _).mono ?_; rintro e w3 ⟨rfl, hb3⟩)
        all_goals
          obtain ⟨hrw3, hbl3⟩ := HR3.out w3 hb3
          have hsz3 := hbl3.size
          go_wp2_with (at_builtin; refine wpList_append_own _ rfl _ _ 61 rfl w2.heap.size 9 i0 (.string ⟨#[]⟩) 1 16 Tryz.underlying61 hi hz0 hz1 hz2 rfl (by decide) _ _ _ rfl (hrw3.alloc _) ⟨w3.heap.size, 0, none⟩ 1 1 [.string tx] rfl rfl (cell_one_new _ _ _) (by simp [Value.oneCell']) (by unfold maxLen; omega) (by omega) (by simp; omega) ?_; intro v1 w4 hown4 hgrow4 _)
          go_roundw
          case rel =>
            refine ⟨m + 1, by omega, by go_num, ?_, (hbl3.alloc hsz3 _).grown hgrow4 (by simp; omega) (rowBaseB hrw3)⟩
            rw [HWS.out, if_neg h0, List.length_append, baV, List.map_append]; exact hown4
          case measure => simp [intOf]; omega
    · obtain rfl : m = F.n := by omega
      have hall : ps.take F.n = ps := List.take_of_length_le (by omega)
      rw [hall] at hrw
      have hwl := words_len F ps 0
      have hjl := join_len [32] (words F 0 ps) 100000 (words_size F 100000 ps 0 (fun j hj => by rw [Nat.zero_add]; exact htz j hj))
      have HJ := Hid.mk (join_row ⟨#[32]⟩ hrw (by omega) (by
        refine Nat.le_trans hjl ?_
        refine Nat.le_trans (Nat.mul_le_mul_right _ (show (words F 0 ps).length ≤ 20 by omega)) ?_
        decide))
      obtain ⟨qw, cw, hqw⟩ := row_as hrw
      subst hqw
      clear hall hjl
      go_wp2_with fail
      refine HJ.out.mono ?_
      rintro e w3 ⟨rfl, hb3⟩
      go_wp2
      go_ret2
      exact ⟨rfl, (bth hb1 hb2 hb1.size).trans ((hbl.trans (hb3.mono hsz)).mono (Nat.le_trans hb1.size hb2.size))⟩
end Go.Proofs.YtkohkkakbcjgcabGreatDoor
