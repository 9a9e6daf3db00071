/- Texts of this proof, joined: NEx, NFx, NR1, NR2, NR3, NR4. -/
import Derived.Test.YtpimliebiapnfaaGreatDoorJ17
import Derived.Laws.AppendOwn
/- The chapter's examples. -/
namespace Go.Proofs.YtpimliebiapnfaaGreatDoor.N
set_option linter.unusedVariables false
open Go.RowKit
attribute [local go_sem ↓] loadAt_nat storeAt_nat build_nat build_nat'
attribute [local go_sem] st1 st2a st2b natBuild_run
end Go.Proofs.YtpimliebiapnfaaGreatDoor.N
/- What may be stored into boxes that were made ahead of calls; a frame of numbers that stays. -/
namespace Go.Proofs.YtpimliebiapnfaaGreatDoor.N
set_option linter.unusedVariables false
open Go.RowKit
theorem Has.lt {w : World} : ∀ {l : List (Nat × Nat)}, Has w l → ∀ p ∈ l, p.1 < w.heap.size
  | [], _, _, h => by cases h
  | q :: l, h, p, hp => by
    rcases List.mem_cons.1 hp with rfl | hp
    · exact box_lt h.1
    · exact Has.lt h.2 p hp
theorem Has.set {w : World} {b : Nat} {x : Array Value} : ∀ {l : List (Nat × Nat)}, Has w l → (∀ p ∈ l, p.1 < b) → Has (w.setRow b x) l
  | [], _, _ => trivial
  | q :: l, h, hl => ⟨(setRow_other _ _ _ _ (Nat.ne_of_lt (hl q (List.mem_cons_self ..)))).trans h.1, Has.set h.2 fun p hp => hl p (List.mem_cons_of_mem _ hp)⟩
structure Fr (W : World) (n : Nat) (l : List (Nat × Nat)) (w : World) : Prop where
  has : Has w l
  bel : Below W.heap.size W w
  lt : ∀ p ∈ l, p.1 < n
  sz : n ≤ w.heap.size
  ge : W.heap.size ≤ n
theorem Fr.start {W w : World} {l : List (Nat × Nat)} (h : Has w l) (hb : Below W.heap.size W w) : Fr W w.heap.size l w := ⟨h, hb, h.lt, Nat.le_refl _, hb.size⟩
theorem Has.drew {w : World} : ∀ {l : List (Nat × Nat)}, Has w l → Has w.drew l
  | [], _ => trivial
  | _ :: _, h => ⟨h.1, Has.drew h.2⟩
theorem Fr.drew {W w : World} {n : Nat} {l : List (Nat × Nat)} (h : Fr W n l w) : Fr W n l w.drew := ⟨h.has.drew, h.bel.drew, h.lt, h.sz, h.ge⟩
theorem Fr.blk {W w w' : World} {n : Nat} {l : List (Nat × Nat)} (h : Fr W n l w) (hb : Below w.heap.size w w') : Fr W n l w' := ⟨h.has.blk hb, bthen h.bel hb, h.lt, Nat.le_trans h.sz hb.size, h.ge⟩
theorem Fr.alloc {W w : World} {n : Nat} {l : List (Nat × Nat)} {o : Obj} (h : Fr W n l w) : Fr W n l (w.alloc o) := h.blk ((Below.refl _ _).alloc (Nat.le_refl _) _)
theorem Fr.set {W w : World} {n : Nat} {l : List (Nat × Nat)} {b : Nat} {x : Array Value} (h : Fr W n l w) (hb : n ≤ b) : Fr W n l (w.setRow b x) :=
  ⟨h.has.set fun p hp => Nat.lt_of_lt_of_le (h.lt p hp) hb, below_row h.bel (Nat.le_trans h.ge hb) _, h.lt, by simpa using h.sz, h.ge⟩
end Go.Proofs.YtpimliebiapnfaaGreatDoor.N
/- The document's numbers: rows of digits without noughts behind; trim, Bits. -/
namespace Go.Proofs.YtpimliebiapnfaaGreatDoor.N
set_option linter.unusedVariables false
open Go.RowKit
def Tr (ds : List (BitVec 32)) : Prop := ds = [] ∨ ∃ a x, ds = a ++ [x] ∧ x.toNat ≠ 0
def Rw (w : World) (v : Value) (ds : List (BitVec 32)) : Prop := w.ownsRow 0 35 1 v ds.length (wl ds)
def RN (w : World) (v : Value) (N : Nat) : Prop := ∃ ds, Rw w v ds ∧ val ds = N ∧ Tr ds
theorem Rw.view {w : World} {v : Value} {ds : List (BitVec 32)} (h : Rw w v ds) : (v = .slice none 0 0 ∧ ds = []) ∨ ∃ g cap, v = .slice (some ⟨g, 0, none⟩) ds.length cap ∧ ds.length ≤ cap ∧ cap ≤ maxLen ∧ g < w.heap.size ∧ (∀ j, j < ds.length → w.cell? ⟨g, j, none⟩ = some (.int .u32 ((ds[j]?.getD 0).toNat : Int))) ∧ ∀ m, m ≤ ds.length → Rw w (.slice (some ⟨g, 0, none⟩) m cap) (ds.take m) := by
  obtain ⟨h1, ⟨h2, h3⟩ | ⟨g, cap, cur, h2, h3, h4, h5, h6, h7, h8⟩⟩ := h
  · exact .inl ⟨h2, List.eq_nil_of_length_eq_zero h3⟩
  · refine .inr ⟨g, cap, h2, h5, h6, box_lt h4, fun j hj => ?_, fun m hm => ⟨by rw [wl_len, List.length_take, Nat.min_eq_left hm, Nat.mul_one], .inr ⟨g, cap, cur, ?_, Nat.zero_le _, h4, by rw [List.length_take, Nat.min_eq_left hm]; omega, h6, h7, ?_⟩⟩⟩
    · have e : cur.toList[j]? = some (.int .u32 ((ds[j]?.getD 0).toNat : Int)) := by
        have := wl_at ds j hj
        rw [← h8, List.getElem?_take_of_lt (by omega)] at this
        exact this
      rw [Array.getElem?_toList] at e
      simp [World.cell?, h4, e]
    · rw [List.length_take, Nat.min_eq_left hm]
    · rw [List.length_take, Nat.min_eq_left hm, Nat.mul_one]
      have e : (wl ds).take m = wl (ds.take m) := by simp [wl, List.map_take]
      rw [← e, ← h8, List.take_take, Nat.mul_one, Nat.min_eq_left hm]
theorem Rw.blk {w w' : World} {v : Value} {ds : List (BitVec 32)} (hb : Below w.heap.size w w') (h : Rw w v ds) : Rw w' v ds := by
  obtain ⟨h1, ⟨h2, h3⟩ | ⟨g, cap, cur, h2, h3, h4, h5, h6, h7, h8⟩⟩ := h
  · exact ⟨h1, .inl ⟨h2, h3⟩⟩
  · exact ⟨h1, .inr ⟨g, cap, cur, h2, h3, Go.Proofs.YtpimliebiapnfaaGreatDoor.N.blk hb h4, h5, h6, h7, h8⟩⟩
theorem RN.blk {w w' : World} {v : Value} {N : Nat} (hb : Below w.heap.size w w') (h : RN w v N) : RN w' v N := by
  obtain ⟨ds, h1, h2, h3⟩ := h
  exact ⟨ds, h1.blk hb, h2, h3⟩
theorem Rw.of {w : World} {base : Nat} {v : Value} {n : Nat} {ds : List (BitVec 32)} (h : w.ownsRow base 35 1 v n (wl ds)) (hn : ds.length = n) : Rw w v ds := by
  subst hn
  obtain ⟨h1, ⟨h2, h3⟩ | ⟨g, cap, cur, h2, h3, h4, h5, h6, h7, h8⟩⟩ := h
  · exact ⟨h1, .inl ⟨h2, h3⟩⟩
  · exact ⟨h1, .inr ⟨g, cap, cur, h2, Nat.zero_le _, h4, h5, h6, h7, h8⟩⟩
theorem Rw.nil (w : World) : Rw w (.slice none 0 0) [] := World.ownsRow_nil w 0 _ _
theorem RN.zero (w : World) : RN w (.slice none 0 0) 0 := ⟨[], Rw.nil w, rfl, .inl rfl⟩
theorem Tr.many {ds : List (BitVec 32)} (h : Tr ds) : ds.length = mny (val ds) := (mny_list ds h).symm
theorem take_zero_top (ds : List (BitVec 32)) (k : Nat) (hk : k < ds.length) (h0 : (ds[k]?.getD 0).toNat = 0) : val (ds.take (k + 1)) = val (ds.take k) := by
  rw [val_take_succ ds k hk, h0, Nat.mul_zero, Nat.add_zero]
theorem take_top (ds : List (BitVec 32)) (k : Nat) (hk : k < ds.length) (h0 : (ds[k]?.getD 0).toNat ≠ 0) : Tr (ds.take (k + 1)) := by
  refine .inr ⟨ds.take k, ds[k]?.getD 0, ?_, h0⟩
  rw [List.take_add_one, List.getElem?_eq_getElem hk]
  rfl
set_option maxRecDepth 100000 in
set_option maxHeartbeats 400000 in
theorem rtrim2_in (W : World) (v : Value) (ds : List (BitVec 32)) (h : Rw W v ds) : Calls Tryz.prog 63 #[v] W fun e w' => ∃ v', e = .returned v' ∧ RN W v' (val ds) ∧ w' = W ∧ (∀ g o n c, v' = .slice (some ⟨g, o, none⟩) n c → ∃ n' c', v = .slice (some ⟨g, o, none⟩) n' c') := by
  rcases h.view with ⟨rfl, rfl⟩ | ⟨g, cap, rfl, hc, hm, hg, hcell, hrow⟩
  · go_enter Tryz.func63, Tryz.ntmps63
    go_wp2
    go_loopw [3] (fun n wr => n = .int .i64 0 ∧ wr = W) (fun _ _ => 0)
    case atStart => exact ⟨rfl, rfl⟩
    case round =>
      obtain ⟨rfl, rfl⟩ := hrel
      go_wp2
      go_ret
      exact ⟨.slice none 0 0, rfl, RN.zero _, rfl, fun _ _ _ _ h => by cases h⟩
  · obtain ⟨L, hL⟩ : ∃ L, ds.length = L := ⟨_, rfl⟩
    have HR := Hid.mk hrow
    have HC := Hid.mk hcell
    have HL := Hid.mk hL
    rw [hL] at hc HC HR ⊢
    unfold maxLen at hm
    clear hrow hcell h hL
    have hci : (L : Int) ≤ (cap : Int) := by omega
    go_enter Tryz.func63, Tryz.ntmps63
    go_wp2
    go_loopw [3] (fun n wr => ∃ k : Nat, k ≤ L ∧ n = .int .i64 (k : Int) ∧ Hid (val (ds.take k) = val ds) ∧ wr = W) (fun n _ => (intOf n).toNat)
    case atStart => exact ⟨L, Nat.le_refl _, rfl, by rw [Hid, List.take_of_length_le (by rw [HL.out]; omega)], rfl⟩
    case round =>
      obtain ⟨k, hk, rfl, HV, rfl⟩ := hrel
      rcases Nat.eq_zero_or_pos k with rfl | hk0
      · have HRN : Hid (RN wr (.slice (some ⟨g, 0, none⟩) 0 cap) (val ds)) := ⟨ds.take 0, HR.out 0 (by omega), HV.out, .inl rfl⟩
        have hcp : (0 : Int) ≤ (cap : Int) := by omega
        go_wp2
        go_ret
        exact ⟨_, rfl, HRN.out, rfl, fun g' o' n' c' h => by cases h; exact ⟨_, _, rfl⟩⟩
      · obtain ⟨j, rfl⟩ : ∃ j, k = j + 1 := ⟨k - 1, by omega⟩
        have hcj := HC.out j (by omega)
        have hjl : j < ds.length := by rw [HL.out]; omega
        have e1 : ((j + 1 : Nat) : Int) - 1 = (j : Int) := by omega
        have e2 : (0 : Int) < ((j + 1 : Nat) : Int) := by omega
        have e3 : (j : Int) < (L : Int) := by omega
        have e4 : (0 : Int) ≤ (j : Int) := by omega
        by_cases hd : (ds[j]?.getD 0).toNat = 0
        · have HN : Hid (val (ds.take j) = val ds) := (take_zero_top ds j hjl hd).symm.trans HV.out
          rw [hd] at hcj
          have hcj' : wr.cell? ⟨g, j, none⟩ = some (.int .u32 0) := hcj
          clear hcj hd hjl
          go_wp2
          go_roundw
          case rel => exact ⟨j, by omega, by go_num, HN, trivial⟩
          case measure => simp [intOf]
        · have HRN : Hid (RN wr (.slice (some ⟨g, 0, none⟩) (j + 1) cap) (val ds)) := ⟨ds.take (j + 1), by
            have := HR.out (j + 1) (by omega)
            exact this, HV.out, take_top ds j hjl hd⟩
          have hb := bv_lt (ds[j]?.getD 0)
          generalize (ds[j]?.getD 0).toNat = x at hcj hd
          have hxi : ((x : Int) == 0) = false := by rw [beq_eq_false_iff_ne]; omega
          have e5 : ((j + 1 : Nat) : Int) ≤ (cap : Int) := by omega
          clear hd hjl hb
          go_wp2
          go_ret
          exact ⟨_, rfl, HRN.out, rfl, fun g' o' n' c' h => by cases h; exact ⟨_, _, rfl⟩⟩
theorem rtrim_in (W : World) (v : Value) (ds : List (BitVec 32)) (h : Rw W v ds) : Calls Tryz.prog 63 #[v] W fun e w' => ∃ v', e = .returned v' ∧ RN W v' (val ds) ∧ w' = W :=
  (rtrim2_in W v ds h).mono fun e w' hh => by
    obtain ⟨v', h1, h2, h3, _⟩ := hh
    exact ⟨v', h1, h2, h3⟩
def Fresh (b : Nat) (v : Value) : Prop := ∀ g o n c, v = .slice (some ⟨g, o, none⟩) n c → b ≤ g
theorem fresh_own {w : World} {base n : Nat} {v : Value} {xs : List Value} (h : w.ownsRow base 35 1 v n xs) : Fresh base v := fun g o n' c' e => by
  subst e
  exact (World.ownsRow.lt h g rfl).1
theorem Fresh.trim {b : Nat} {v v' : Value} (h : Fresh b v) (k : ∀ g o n c, v' = .slice (some ⟨g, o, none⟩) n c → ∃ n' c', v = .slice (some ⟨g, o, none⟩) n' c') : Fresh b v' := fun g o n c e => by
  obtain ⟨n', c', h'⟩ := k g o n c e
  exact h g o n' c' h'
theorem RN.put {w : World} {v : Value} {N g i : Nat} {x : Value} (h : RN w v N) (hf : Fresh (g + 1) v) : RN (w.setCell ⟨g, i, none⟩ x) v N := by
  obtain ⟨ds, ⟨h1, ⟨h2, h3⟩ | ⟨g', cap, cur, h2, h3, h4, h5, h6, h7, h8⟩⟩, hv, ht⟩ := h
  · exact ⟨ds, ⟨h1, .inl ⟨h2, h3⟩⟩, hv, ht⟩
  · have hg := hf g' 0 _ _ h2
    exact ⟨ds, ⟨h1, .inr ⟨g', cap, cur, h2, h3, (Below.heap_setCell w ⟨g, i, none⟩ x g' (by show g' ≠ g; omega)).trans h4, h5, h6, h7, h8⟩⟩, hv, ht⟩
end Go.Proofs.YtpimliebiapnfaaGreatDoor.N
/- The document's Bits, Cmp. -/
namespace Go.Proofs.YtpimliebiapnfaaGreatDoor.N
set_option linter.unusedVariables false
open Go.RowKit
theorem btl_half (d : Nat) (h : d ≠ 0) : btl d = btl (d / 2) + 1 := by
  unfold btl
  rw [if_neg h]
  by_cases h2 : d / 2 = 0
  · rw [if_pos h2, show d = 1 by omega]; rfl
  · rw [if_neg h2]
    have e : Nat.log2 d = Nat.log2 (d / 2) + 1 := by
      rw [Nat.log2_def d, if_pos (by omega)]
    omega
theorem btl_digits (ds : List (BitVec 32)) (j : Nat) (hl : ds.length = j + 1) (h0 : (ds[j]?.getD 0).toNat ≠ 0) : btl (val ds) = 32 * j + btl (ds[j]?.getD 0).toNat := by
  have h1 := val_take_succ ds j (by omega)
  rw [List.take_of_length_le (by omega)] at h1
  have h2 := val_lt (ds.take j)
  rw [List.length_take, Nat.min_eq_left (by omega)] at h2
  have hp : 0 < 4294967296 ^ j := Nat.pow_pos (by omega)
  have hne : val ds ≠ 0 := by
    rw [h1]
    have := Nat.mul_pos hp (Nat.pos_of_ne_zero h0)
    omega
  have h3 := log_top j (ds[j]?.getD 0).toNat (val (ds.take j)) (Nat.pos_of_ne_zero h0) h2
  unfold btl
  rw [if_neg hne, if_neg h0, h1, h3]
  omega
theorem Tr.last {ds : List (BitVec 32)} (h : Tr ds) (j : Nat) (hl : ds.length = j + 1) : (ds[j]?.getD 0).toNat ≠ 0 := by
  rcases h with rfl | ⟨a, x, rfl, hx⟩
  · simp at hl
  · have : a.length = j := by simpa using hl
    subst this
    simpa using hx
set_option maxRecDepth 100000 in
set_option maxHeartbeats 400000 in
theorem rbits_in (W : World) (v : Value) (N : Nat) (h : RN W v N) (hN : mny N ≤ 70368744177664) : Calls Tryz.prog 64 #[v] W fun e w' => e = .returned (.int .i64 (btl N : Int)) ∧ w' = W := by
  obtain ⟨ds, hr, rfl, ht⟩ := h
  rcases hr.view with ⟨rfl, rfl⟩ | ⟨g, cap, rfl, hc, hm, hg, hcell, hrow⟩
  · have HZ : Hid (((btl (val []) : Nat) : Int) = 0) := rfl
    go_enter Tryz.func64, Tryz.ntmps64
    go_wp2
    go_ret
    exact ⟨ret_int HZ.out.symm, rfl⟩
  · have hmn := ht.many
    obtain ⟨L, hL⟩ : ∃ L, ds.length = L := ⟨_, rfl⟩
    have hL64 : L ≤ 70368744177664 := by omega
    rw [hL] at hcell ⊢
    clear hrow hmn hN
    rcases Nat.eq_zero_or_pos L with rfl | hL0
    · have HZ : Hid (((btl (val ds) : Nat) : Int) = 0) := by rw [List.eq_nil_of_length_eq_zero hL]; rfl
      clear hL hcell hc hr
      go_enter Tryz.func64, Tryz.ntmps64
      go_wp2
      go_ret
      exact ⟨ret_int HZ.out.symm, rfl⟩
    · obtain ⟨j, rfl⟩ : ∃ j, L = j + 1 := ⟨L - 1, by omega⟩
      have hcj := hcell j (by omega)
      have hne := ht.last j hL
      have HB := Hid.mk (btl_digits ds j hL hne)
      have hx := bv_lt (ds[j]?.getD 0)
      generalize (ds[j]?.getD 0).toNat = x at hcj HB hx
      have hb : btl x ≤ 32 := by
        unfold btl
        split
        · omega
        · rename_i h0
          have := (Nat.log2_lt h0).2 (show x < 2 ^ 32 by omega)
          omega
      have e1 : ((j + 1 : Nat) : Int) - 1 = (j : Int) := by omega
      have e3 : (j : Int) < ((j + 1 : Nat) : Int) := by omega
      have e4 : (0 : Int) ≤ (j : Int) := by omega
      have e5 : ((j : Int) + 1 == 0) = false := by rw [beq_eq_false_iff_ne]; omega
      have e6 : (j : Int) ≤ 70368744177664 := by omega
      obtain ⟨bx, hbx⟩ : ∃ bx, btl x = bx := ⟨_, rfl⟩
      have HBX := Hid.mk hbx
      rw [hbx] at HB hb
      clear hbx hL hcell hc hne hr ht
      go_enter Tryz.func64, Tryz.ntmps64
      go_wp2
      go_loopw [3, 4] (fun n d wr => ∃ (k y : Nat), n = .int .i64 (32 * (j : Int) + (k : Int)) ∧ d = .int .u32 (y : Int) ∧ y ≤ x ∧ k ≤ bx ∧ Hid (btl y + k = bx) ∧ wr = W) (fun _ d _ => (intOf d).toNat)
      case atStart => exact ⟨0, x, by go_num, rfl, Nat.le_refl _, by omega, by rw [Hid, HBX.out, Nat.add_zero], rfl⟩
      case round =>
        obtain ⟨k, y, rfl, rfl, hyx, hk, HY, rfl⟩ := hrel
        rcases Nat.eq_zero_or_pos y with rfl | hy
        · have HE : Hid (32 * (j : Int) + (k : Int) = ((btl (val ds) : Nat) : Int)) := by
            rw [Hid, HB.out]
            have : btl 0 + k = bx := HY.out
            have h0 : btl 0 = 0 := rfl
            omega
          go_wp2
          go_ret
          exact ⟨ret_int HE.out, rfl⟩
        · have HH := Hid.mk (btl_half y (by omega))
          have hk2 : k + 1 ≤ bx := by
            have := HY.out
            have := HH.out
            omega
          have hyi : (0 : Int) < (y : Int) := by omega
          obtain ⟨y2, hy2⟩ : ∃ y2, y / 2 = y2 := ⟨_, rfl⟩
          rw [hy2] at HH
          have hq : (y : Int) / 2 = (y2 : Int) := by omega
          have hq2 : (y : Int).tdiv 2 = (y2 : Int) := by rw [Int.tdiv_eq_ediv_of_nonneg (by omega)]; omega
          have hy2l : y2 < y := by omega
          have hq3 : IntKind.u32.wrap (y2 : Int) = (y2 : Int) := by rw [IntKind.wrap_u32]; omega
          clear hy2
          have hki : (k : Int) ≤ 32 := by omega
          go_wp2
          go_roundw
          case rel => exact ⟨k + 1, y2, by go_num, by first | rfl | go_num, by omega, hk2, by rw [Hid]; have := HY.out; have := HH.out; omega, trivial⟩
          case measure => simp [intOf]; omega
end Go.Proofs.YtpimliebiapnfaaGreatDoor.N
/- The document's Cmp. -/
namespace Go.Proofs.YtpimliebiapnfaaGreatDoor.N
set_option linter.unusedVariables false
open Go.RowKit
theorem len_less {a b : List (BitVec 32)} (hb : Tr b) (h : a.length < b.length) : val a < val b := by
  have h1 := val_lt a
  have h0 : val b ≠ 0 := fun h => by
    have := hb.many
    rw [h, mny_zero] at this
    omega
  have h2 := (mny_ge (val b) h0).2
  rw [← hb.many] at h2
  have h3 : 4294967296 ^ a.length ≤ 4294967296 ^ (b.length - 1) := Nat.pow_le_pow_right (by omega) (by omega)
  omega
theorem list_same {a b : List (BitVec 32)} (hl : a.length = b.length) (h : ∀ j, j < a.length → a[j]?.getD 0 = b[j]?.getD 0) : a = b := by
  apply List.ext_getElem hl
  intro j h1 h2
  have := h j h1
  rw [List.getElem?_eq_getElem h1, List.getElem?_eq_getElem h2] at this
  exact this
def RCmp (w : World) (v u : Value) (c : Int) : Prop := Calls Tryz.prog 34 #[v, u] w fun e w' => e = .returned (.int .i64 c) ∧ ∃ n, w' = w.drewN n
set_option maxRecDepth 100000 in
set_option maxHeartbeats 400000 in
theorem rcmp_len (W : World) (p q : Option Addr) (n m c d : Nat) (hn : n ≤ maxLen) (hm : m ≤ maxLen) (hne : n ≠ m) : RCmp W (.slice p n c) (.slice q m d) (if n < m then -1 else 1) := by
  unfold maxLen at hn hm
  unfold RCmp
  have h1 : ((n : Int) == (m : Int)) = false := by rw [beq_eq_false_iff_ne]; omega
  have h2 : ((n : Int) != (m : Int)) = true := by rw [bne_iff_ne]; omega
  by_cases hlt : n < m
  · have h3 : (n : Int) < (m : Int) := by omega
    rw [if_pos hlt]
    go_enter Tryz.func34, Tryz.ntmps34
    go_wp2
    go_ret
    exact ⟨rfl, 0, rfl⟩
  · have h3 : (m : Int) ≤ (n : Int) := by omega
    rw [if_neg hlt]
    go_enter Tryz.func34, Tryz.ntmps34
    go_wp2
    go_ret
    exact ⟨rfl, 0, rfl⟩
set_option maxRecDepth 100000 in
set_option maxHeartbeats 400000 in
theorem rcmp_zero (W : World) (p q : Option Addr) (c d : Nat) : RCmp W (.slice p 0 c) (.slice q 0 d) 0 := by
  unfold RCmp
  go_enter Tryz.func34, Tryz.ntmps34
  go_wp2
  go_loopw [5] (fun k wr => k = .int .i64 (-1) ∧ wr = W) (fun _ _ => 0)
  case atStart => exact ⟨rfl, rfl⟩
  case round =>
    obtain ⟨rfl, rfl⟩ := hrel
    go_wp2
    go_ret
    exact ⟨rfl, 0, rfl⟩
set_option maxRecDepth 100000 in
set_option maxHeartbeats 1000000 in
theorem rcmp_same (W : World) (g h c d : Nat) (xs ys : List (BitVec 32)) (n : Nat) (hx : xs.length = n) (hy : ys.length = n) (hn : n ≤ maxLen) (hX : ∀ j, j < n → W.cell? ⟨g, j, none⟩ = some (.int .u32 ((xs[j]?.getD 0).toNat : Int))) (hY : ∀ j, j < n → W.cell? ⟨h, j, none⟩ = some (.int .u32 ((ys[j]?.getD 0).toNat : Int))) : RCmp W (.slice (some ⟨g, 0, none⟩) n c) (.slice (some ⟨h, 0, none⟩) n d) (cmpI (val xs) (val ys)) := by
  unfold maxLen at hn
  unfold RCmp
  have HX := Hid.mk hX
  have HY := Hid.mk hY
  have HXL := Hid.mk hx
  have HYL := Hid.mk hy
  clear hX hY hx hy
  go_enter Tryz.func34, Tryz.ntmps34
  go_wp2
  go_loopw [5] (fun k wr => ∃ (j m : Nat), j ≤ n ∧ k = .int .i64 ((j : Int) - 1) ∧ Hid (∀ i, j ≤ i → i < n → xs[i]?.getD 0 = ys[i]?.getD 0) ∧ wr = W.drewN m) (fun k _ => (intOf k + 1).toNat)
  case atStart => exact ⟨n, 0, Nat.le_refl _, by go_num, fun i h1 h2 => by omega, rfl⟩
  case round =>
    obtain ⟨j, m, hj, rfl, HE, rfl⟩ := hrel
    rcases Nat.eq_zero_or_pos j with rfl | hj0
    · have HC : Hid (cmpI (val xs) (val ys) = 0) := by
        rw [Hid, list_same (a := xs) (b := ys) (by rw [HXL.out, HYL.out]) (fun i hi => HE.out i (by omega) (by rw [← HXL.out]; exact hi)), cmpI_eq]
      go_wp2
      go_ret
      exact ⟨ret_int HC.out.symm, m, rfl⟩
    · obtain ⟨i, rfl⟩ : ∃ i, j = i + 1 := ⟨j - 1, by omega⟩
      have e1 : ((i + 1 : Nat) : Int) - 1 = (i : Int) := by omega
      have e0 : (0 : Int) ≤ (i : Int) := by omega
      have e2 : (i : Int) < (n : Int) := by omega
      have c1 : ∀ k, (W.drewN k).cell? ⟨g, i, none⟩ = some (.int .u32 ((xs[i]?.getD 0).toNat : Int)) := fun k => HX.out i (by omega)
      have c2 : ∀ k, (W.drewN k).cell? ⟨h, i, none⟩ = some (.int .u32 ((ys[i]?.getD 0).toNat : Int)) := fun k => HY.out i (by omega)
      have hlx := bv_lt (xs[i]?.getD 0)
      have hly := bv_lt (ys[i]?.getD 0)
      rw [e1]
      by_cases hq : (xs[i]?.getD 0).toNat = (ys[i]?.getD 0).toNat
      · have HE' : Hid (∀ k, i ≤ k → k < n → xs[k]?.getD 0 = ys[k]?.getD 0) := fun k h1 h2 => by
          by_cases hk : k = i
          · subst hk; exact BitVec.eq_of_toNat_eq hq
          · exact HE.out k (by omega) h2
        rw [← hq] at c2
        generalize (xs[i]?.getD 0).toNat = x at c1 c2
        clear hq
        go_upto_region 8 with fail
        go_quiet (fail)
        go_wp2
        go_roundw
        case rel => exact ⟨i, _, by omega, by go_num, HE', rfl⟩
        case measure => simp [intOf]
      · have HL : Hid ((xs[i]?.getD 0).toNat < (ys[i]?.getD 0).toNat → cmpI (val xs) (val ys) = -1) := fun hlt => cmpI_lt _ _ (val_less xs ys i (by rw [HXL.out, HYL.out]) (by rw [HXL.out]; omega) (fun k h1 h2 => HE.out k (by omega) (by rw [← HXL.out]; exact h2)) hlt)
        have HG : Hid ((ys[i]?.getD 0).toNat < (xs[i]?.getD 0).toNat → cmpI (val xs) (val ys) = 1) := fun hlt => cmpI_gt _ _ (val_less ys xs i (by rw [HXL.out, HYL.out]) (by rw [HYL.out]; omega) (fun k h1 h2 => (HE.out k (by omega) (by rw [← HYL.out]; exact h2)).symm) hlt)
        generalize (xs[i]?.getD 0).toNat = x at c1 hq HL HG
        generalize (ys[i]?.getD 0).toNat = y at c2 hq HL HG
        have q1 : ((x : Int) == (y : Int)) = false := by rw [beq_eq_false_iff_ne]; omega
        have q2 : ((x : Int) != (y : Int)) = true := by rw [bne_iff_ne]; omega
        by_cases hlt : x < y
        · have HV := Hid.mk (HL.out hlt)
          have q3 : (x : Int) < (y : Int) := by omega
          go_upto_region 8 with fail
          go_quiet (fail)
          go_upto_region 9 with fail
          go_quiet (fail)
          go_wp2
          go_ret
          exact ⟨ret_int HV.out.symm, _, by rw [drew_add, drew_add]⟩
        · have HV := Hid.mk (HG.out (by omega))
          have q3 : (y : Int) ≤ (x : Int) := by omega
          go_upto_region 8 with fail
          go_quiet (fail)
          go_upto_region 9 with fail
          go_quiet (fail)
          go_wp2
          go_ret
          exact ⟨ret_int HV.out.symm, _, by rw [drew_add, drew_add]⟩
theorem rcmp_in (W : World) (v u : Value) (A B : Nat) (hA : RN W v A) (hB : RN W u B) : Calls Tryz.prog 34 #[v, u] W fun e w' => e = .returned (.int .i64 (cmpI A B)) ∧ ∃ n, w' = W.drewN n := by
  obtain ⟨xs, hx, rfl, tx⟩ := hA
  obtain ⟨ys, hy, rfl, ty⟩ := hB
  have lens : ∀ (p q : Option Addr) (c d : Nat), xs.length ≤ maxLen → ys.length ≤ maxLen → xs.length ≠ ys.length → RCmp W (.slice p xs.length c) (.slice q ys.length d) (cmpI (val xs) (val ys)) := fun p q c d h1 h2 hne => by
    have h := rcmp_len W p q xs.length ys.length c d h1 h2 hne
    by_cases hlt : xs.length < ys.length
    · rw [if_pos hlt] at h; rw [cmpI_lt _ _ (len_less ty hlt)]; exact h
    · rw [if_neg hlt] at h; rw [cmpI_gt _ _ (len_less tx (by omega))]; exact h
  have m0 : (0 : Nat) ≤ maxLen := Nat.zero_le _
  rcases hx.view with ⟨rfl, rfl⟩ | ⟨g, c, rfl, hc, hm, hg, hcx, -⟩ <;> rcases hy.view with ⟨rfl, rfl⟩ | ⟨h, d, rfl, hd, hm2, hh, hcy, -⟩
  · exact rcmp_zero W none none 0 0
  · by_cases h0 : ys = []
    · subst h0; exact rcmp_zero W none _ 0 d
    · exact lens none _ 0 d m0 (by omega) (fun e => h0 (List.eq_nil_of_length_eq_zero e.symm))
  · by_cases h0 : xs = []
    · subst h0; exact rcmp_zero W _ none c 0
    · exact lens _ none c 0 (by omega) m0 (fun e => h0 (List.eq_nil_of_length_eq_zero e))
  · by_cases he : xs.length = ys.length
    · have h := rcmp_same W g h c d xs ys xs.length rfl he.symm (by omega) hcx (fun j hj => hcy j (by omega))
      rw [← he]
      exact h
    · exact lens _ _ c d (by omega) (by omega) he
end Go.Proofs.YtpimliebiapnfaaGreatDoor.N
/- A digit appended to a row; the document's Small, Of. -/
namespace Go.Proofs.YtpimliebiapnfaaGreatDoor.N
set_option linter.unusedVariables false
open Go.RowKit
theorem info24 : (Tryz.prog.info? 35).map (fun i => (i.zero, i.size, i.bytes)) = some (some (.int .u32 0), 1, 4) := by kernel_rfl
def Ow (base : Nat) (w : World) (v : Value) (ds : List (BitVec 32)) : Prop := w.ownsRow base 35 1 v ds.length (wl ds)
theorem Ow.rw {base : Nat} {w : World} {v : Value} {ds : List (BitVec 32)} (h : Ow base w v ds) : Rw w v ds := Rw.of h rfl
theorem Ow.nil (base : Nat) (w : World) : Ow base w (.slice none 0 0) [] := World.ownsRow_nil w base _ _
theorem wpList_app1 {ops : Array Oper} {rest : List Oper} {o : Oper} {a : Act} {Q : Exit → Act → World → Prop} {w W0 : World} (hgd : o.guard = none) (s x : Operand) (ho : o.op = .call { callee := .builtin .append, args := #[s, x], argTypes := #[45, 45] })
    (base : Nat) (v : Value) (ds : List (BitVec 32)) (hs : a.eval s = v) (hown : Ow base w v ds) (z : BitVec 32) (hx : a.eval x = .slice (some ⟨w.heap.size, 0, none⟩) 1 1) (hl : (ds.length + 1) * 4 ≤ 140737488355328) (hbl : Below base W0 w) (hbase : base ≤ w.heap.size)
    (h : ∀ v' w', Ow base w' v' (ds ++ [z]) → Below base W0 w' → wpList Tryz.prog ops Q rest (a.put o.dst v') w') : wpList Tryz.prog ops Q (o :: rest) a (w.alloc (.cells #[.int .u32 (z.toNat : Int)] 35)) := by
  obtain ⟨i0, hi, hz0, hz1, hz2⟩ := info_of info24
  refine wpList_append_own _ hgd s x 45 ho base 35 i0 (.int .u32 0) 1 4 Tryz.underlying45 hi hz0 hz1 hz2 rfl (by decide) v ds.length (wl ds) hs (World.ownsRow.alloc hown _) ⟨w.heap.size, 0, none⟩ 1 1 [.int .u32 (z.toNat : Int)] hx rfl (fun j u hu => ?_) (by simp [Value.oneCell']) (by unfold maxLen; omega) (by omega) (by simp; omega) ?_
  · rw [addr_at, Nat.zero_add]
    exact (cells_at (L := [.int .u32 (z.toNat : Int)]) (heap_new w (.cells #[.int .u32 (z.toNat : Int)] 35)) hu).1
  · intro v' w' h1 h2 _
    refine h v' w' ?_ ?_
    · unfold Ow
      rw [List.length_append, wl_app]
      exact h1
    · exact (hbl.alloc hbase _).grown h2 (by simp; omega) (fun k hk => (World.ownsRow.lt hown k hk).1)
theorem Tr.push (ds : List (BitVec 32)) (x : BitVec 32) (h : x.toNat ≠ 0) : Tr (ds ++ [x]) := .inr ⟨ds, x, rfl, h⟩
set_option maxRecDepth 100000 in
set_option maxHeartbeats 400000 in
theorem rsmall_in (N : Nat) (hN : N < 18446744073709551616) (W : World) : Calls Tryz.prog 91 #[.int .u64 (N : Int)] W fun e w' => ∃ v, e = .returned v ∧ RN w' v N ∧ Below W.heap.size W w' := by
  go_enter Tryz.func91, Tryz.ntmps91
  go_wp2
  go_loopw [0, 3] (fun nv v wr => ∃ (m : Nat) (ds : List (BitVec 32)), nv = .int .u64 (m : Int) ∧ Hid (val ds + 4294967296 ^ ds.length * m = N) ∧ m ≤ N ∧ Hid (m = 0 → Tr ds) ∧ Hid (ds.length ≤ 2 ∧ m < 4294967296 ^ (2 - ds.length)) ∧ Ow W.heap.size wr v ds ∧ Below W.heap.size W wr) (fun nv _ _ => (intOf nv).toNat)
  case atStart => exact ⟨N, [], rfl, by simp [Hid, val], Nat.le_refl _, fun _ => .inl rfl, ⟨by simp, by simp; omega⟩, Ow.nil _ _, Below.refl _ _⟩
  case round =>
    obtain ⟨m, ds, rfl, HV, hmN, HT, HL, hown, hbl⟩ := hrel
    rcases Nat.eq_zero_or_pos m with rfl | hm
    · have HR : Hid (RN wr _ N) := ⟨ds, hown.rw, by have := HV.out; rw [Nat.mul_zero, Nat.add_zero] at this; exact this, HT.out rfl⟩
      have HBL := Hid.mk hbl
      clear hown
      go_wp2
      go_ret
      exact ⟨_, rfl, HR.out, HBL.out⟩
    · have HO := Hid.mk hown
      obtain ⟨q, hq⟩ : ∃ q, m / 4294967296 = q := ⟨_, rfl⟩
      obtain ⟨r, hr⟩ : ∃ r, m % 4294967296 = r := ⟨_, rfl⟩
      have hrl : r < 4294967296 := by omega
      obtain ⟨z, hz⟩ : ∃ z : BitVec 32, z.toNat = r := ⟨BitVec.ofNat 32 r, by rw [bv_of]; omega⟩
      have t1 : (m : Int) % 4294967296 = (z.toNat : Int) := by omega
      have t2 : (m : Int).tmod 4294967296 = (z.toNat : Int) := by rw [Int.tmod_eq_emod_of_nonneg (by omega)]; omega
      have t3 : (m : Int) / 4294967296 = (q : Int) := by omega
      have t4 : (m : Int).tdiv 4294967296 = (q : Int) := by rw [Int.tdiv_eq_ediv_of_nonneg (by omega)]; omega
      have t5 : IntKind.u32.wrap (z.toNat : Int) = (z.toNat : Int) := by rw [IntKind.wrap_u32]; have := bv_lt z; omega
      have t6 : IntKind.u64.wrap (z.toNat : Int) = (z.toNat : Int) := by rw [IntKind.wrap_u64]; have := bv_lt z; omega
      have t7 : IntKind.u64.wrap (q : Int) = (q : Int) := by rw [IntKind.wrap_u64]; omega
      have t8 : (z.toNat : Int) % 4294967296 = (z.toNat : Int) := by have := bv_lt z; omega
      have hmi : (0 : Int) < (m : Int) := by omega
      have hl1 : ds.length ≤ 1 := by
        apply Classical.byContradiction
        intro hn
        have h2 := HL.out
        rw [show ds.length = 2 by omega] at h2
        simp at h2
        omega
      have HN : Hid (val (ds ++ [z]) + 4294967296 ^ (ds ++ [z]).length * q = N) := by
        rw [Hid, val_snoc, List.length_append, List.length_singleton, Nat.pow_succ, ← HV.out, Nat.mul_assoc, Nat.add_assoc, ← Nat.mul_add]
        congr 2
        omega
      have HQ : Hid (q = 0 → Tr (ds ++ [z])) := fun h0 => Tr.push ds z (by omega)
      have HL2 : Hid ((ds ++ [z]).length ≤ 2 ∧ q < 4294967296 ^ (2 - (ds ++ [z]).length)) := by
        rw [Hid, List.length_append, List.length_singleton]
        have h2 := HL.out.2
        refine ⟨by omega, ?_⟩
        rw [show 2 - ds.length = 2 - (ds.length + 1) + 1 by omega, Nat.pow_succ] at h2
        exact (by rw [← hq]; exact (Nat.div_lt_iff_lt_mul (by omega)).2 h2)
      have hqm : q ≤ N ∧ q < m := by omega
      have hsz := hbl.size
      clear hq hr hz hown
      go_wp2_with (at_builtin; refine wpList_app1 rfl _ _ rfl W.heap.size _ ds rfl HO.out z rfl (by omega) hbl hsz ?_; intro v2 w2 hown2 hbl2)
      go_roundw
      case rel => exact ⟨q, ds ++ [z], rfl, HN, hqm.1, HQ, HL2, hown2, hbl2⟩
      case measure => simp [intOf]; omega
end Go.Proofs.YtpimliebiapnfaaGreatDoor.N