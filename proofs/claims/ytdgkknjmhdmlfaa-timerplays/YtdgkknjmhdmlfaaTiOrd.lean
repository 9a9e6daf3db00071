/- Layer 12: TimerOrder. -/
import Derived.Test.YtdgkknjmhdmlfaaTiArq
namespace Go.Proofs.Ytdgkknjmhdmlfaa
set_option linter.unusedVariables false
set_option linter.unusedSimpArgs false
open Go.RowKit

/-- ids from 0 on, each with its time. -/
def Es (n : Nat) (P : Nat → Int) : List En := (List.range n).map fun (i : Nat) => ((i : Int), P i)
theorem Es_mem {n : Nat} {P : Nat → Int} {e : En} (h : e ∈ Es n P) : ∃ i, i < n ∧ e = ((i : Int), P i) := by
  obtain ⟨i, hi, rfl⟩ := List.mem_map.1 h
  exact ⟨i, List.mem_range.1 hi, rfl⟩
theorem Es_succ (n : Nat) (P : Nat → Int) : (Es (n + 1) P).Perm (((n : Int), P n) :: Es n P) := by
  unfold Es
  rw [List.range_succ, List.map_append]
  exact List.perm_append_comm
theorem Es_len (n : Nat) (P : Nat → Int) : (Es n P).length = n := by simp [Es]
theorem set_next {xs ys : List En} {k : Nat} {P : Nat → Int} (hp : xs.Perm (Es k P)) (h : ys.Perm (((k : Int), P k) :: wo xs (k : Int))) : ys.Perm (Es (k + 1) P) := by
  refine h.trans (List.Perm.trans ?_ (Es_succ k P).symm)
  rw [wo_none]
  · exact hp.cons _
  · intro e he hh
    obtain ⟨i, hi, rfl⟩ := Es_mem (hp.mem_iff.1 he)
    simp only at hh
    omega

structure OI (W wr : World) (T n : Nat) (P : Nat → Int) (now last many : Int) (k mS : Nat) (xs : List En) : Prop where
  tk : Tk W.heap.size wr T xs
  bel : Below W.heap.size W wr
  mem : ∀ e ∈ xs, ∃ i, i < n ∧ e = ((i : Int), P i)
  cnt : many + (xs.length : Int) = (n : Int)
  lo : ∀ e ∈ xs, last ≤ e.2
  nw : 0 < k → ∀ e ∈ xs, now < e.2
  n0 : 0 ≤ now
  n1 : now ≤ 10000
  m0 : 0 ≤ many
  fin : k = mS + 1 → xs = []

/-- the time of the one before. -/
def lastAt (last : Int) (ds : List En) : Nat → Int
  | 0 => last
  | i + 1 => (A ds i).2
/-- behind a round: what is left. -/
theorem OI.step {W w' : World} {T n : Nat} {P : Nat → Int} {now last many now' : Int} {k mS : Nat} {xs ds rest : List En} (h : OI W w' T n P now last many k mS xs) {w2 : World} (t2 : Tk W.heap.size w2 T rest) (b2 : Below W.heap.size W w2) (hI : DueI xs ds rest now') (hl : ∀ e ∈ rest, now' < e.2) (h0 : 0 ≤ now') (h1 : now' ≤ 10000) (hP : ∀ i, P i < 10000) (hfin : k = mS → now' = 10000) :
    OI W w2 T n P now' (lastAt last ds ds.length) (many + (ds.length : Int)) (k + 1) mS rest where
  tk := t2
  bel := b2
  mem := fun e he => h.mem e (hI.perm.mem_iff.1 (by simp [he]))
  cnt := by
    have := hI.perm.length_eq
    have h2 := h.cnt
    rw [List.length_append] at this
    omega
  lo := fun e he => by
    cases hds : ds.length with
    | zero => exact h.lo e (hI.perm.mem_iff.1 (by simp [he]))
    | succ j =>
      show (A ds j).2 ≤ e.2
      have hj : j < ds.length := by omega
      have := hI.low (A ds j) (by rw [A_lt hj]; exact List.getElem_mem hj) e he
      unfold lt at this
      omega
  nw := fun _ => hl
  n0 := h0
  n1 := h1
  m0 := by have := h.m0; omega
  fin := fun hk => by
    have : now' = 10000 := hfin (by omega)
    cases rest with
    | nil => rfl
    | cons e r =>
      exfalso
      have h3 := hl e (by simp)
      obtain ⟨i, _, rfl⟩ := h.mem e (hI.perm.mem_iff.1 (by simp))
      have := hP i
      simp only at h3
      omega
/-- within a round: each comes in its order. -/
theorem OI.one {W w' : World} {T n : Nat} {P : Nat → Int} {now last many now' : Int} {k mS : Nat} {xs ds rest : List En} (h : OI W w' T n P now last many k mS xs) (hI : DueI xs ds rest now') {i : Nat} (hi : i < ds.length) :
    (∃ j, j < n ∧ A ds i = ((j : Int), P j)) ∧ lastAt last ds i ≤ (A ds i).2 ∧ (A ds i).2 ≤ now' ∧ (0 < k → now - 1 ≤ (A ds i).2) := by
  have hm : A ds i ∈ ds := by rw [A_lt hi]; exact List.getElem_mem hi
  have hx : A ds i ∈ xs := hI.perm.mem_iff.1 (by simp [hm])
  refine ⟨h.mem _ hx, ?_, hI.at' _ hm, fun hk => by have := h.nw hk _ hx; omega⟩
  cases i with
  | zero => exact h.lo _ hx
  | succ j =>
    show (A ds j).2 ≤ _
    have := List.pairwise_iff_getElem.1 hI.ord j (j + 1) (by omega) hi (by omega)
    rw [← A_lt, ← A_lt] at this
    unfold lt at this
    omega
theorem row_int {W : World} {base : Nat} {v : Value} {l : List Int} (h : W.ownsRow base 3 1 v l.length (ic l)) : ∃ q cap, v = .slice q l.length cap ∧ l.length ≤ cap ∧ ∀ j (hj : j < l.length), ∃ g, q = some ⟨g, 0, none⟩ ∧ W.cell? ⟨g, j, none⟩ = some (.int .i64 l[j]) := by
  rcases h.2 with ⟨rfl, h0⟩ | ⟨g, cap, cur, rfl, hb, hg, hc, _, _, ht⟩
  · exact ⟨none, 0, by rw [h0], by omega, fun j hj => by omega⟩
  · refine ⟨_, cap, rfl, hc, fun j hj => ⟨g, rfl, cell_of_heap hg ?_⟩⟩
    have h1 : (ic l)[j]? = some (.int .i64 l[j]) := by simp [ic, hj]
    rw [← ht, List.getElem?_take, if_pos (by omega)] at h1
    simpa using h1

def OPost (W : World) (e : Ending) (w' : World) : Prop := e = .returned (.bool true) ∧ Below W.heap.size W w'

set_option maxRecDepth 100000 in
set_option maxHeartbeats 8000000 in
theorem order_walk (a : Option Addr) (cap : Nat) (ats : List Int) (hr : ∀ z ∈ ats, -9223372036854775808 ≤ z ∧ z ≤ 9223372036854775807) (hcp : ats.length ≤ cap ∧ cap ≤ maxLen ∧ (a = none → cap = 0)) (wa : ats.length * 8 ≤ 140737488355328) (a2 : Option Addr) (cap2 : Nat) (st : List Int) (hr2 : ∀ z ∈ st, -9223372036854775808 ≤ z ∧ z ≤ 9223372036854775807) (hcp2 : st.length ≤ cap2 ∧ cap2 ≤ maxLen ∧ (a2 = none → cap2 = 0)) (wb : st.length * 8 ≤ 140737488355328) (W : World) (hg : GivenI W a ats) (hg2 : GivenI W a2 st) :
    Calls Try.prog 6 #[.slice a ats.length cap, .slice a2 st.length cap2] W (OPost W) := by
  obtain ⟨m, hm⟩ : ∃ m, ats.length = m := ⟨_, rfl⟩
  obtain ⟨s, hs⟩ : ∃ m, st.length = m := ⟨_, rfl⟩
  obtain ⟨n, hn⟩ : ∃ n, min m 200 = n := ⟨_, rfl⟩
  have hcap : cap ≤ 9223372036854775807 := by have := hcp.2.1; unfold maxLen at this; omega
  have hcap2 : cap2 ≤ 9223372036854775807 := by have := hcp2.2.1; unfold maxLen at this; omega
  have hnm : n ≤ m := by omega
  have hn200 : n ≤ 200 := by omega
  have hncap : n ≤ cap := by have := hcp.1; omega
  have hmcap : m ≤ cap := by have := hcp.1; omega
  have hscap : s ≤ cap2 := by have := hcp2.1; omega
  have hnil : a = none → cap = 0 := hcp.2.2
  have hs48 : s ≤ 140737488355328 := by omega
  obtain ⟨P, hP⟩ : ∃ P : Nat → Int, P = fun i => pickR (ats.getD i 0) 10000 := ⟨_, rfl⟩
  have hP0 : ∀ i, 0 ≤ P i := fun i => by rw [hP]; exact pickR_ge _ _
  have hP1 : ∀ i, P i < 10000 := fun i => by rw [hP]; exact pickR_lt _ _ (by decide)
  have HG : Hid (∀ j, j < n → ∃ z b off, a = some ⟨b, off, none⟩ ∧ b < W.heap.size ∧ W.cell? ⟨b, off + j, none⟩ = some (.int .i64 z) ∧ ∀ w, Calls Try.prog 11 #[.int .i64 z, .int .i64 10000] w fun e w' => e = .returned (.int .i64 (P j)) ∧ w' = w) := fun j hj => by
    have hjl : j < ats.length := by omega
    obtain ⟨b, off, h1, h2, h3⟩ := hg j hjl
    refine ⟨ats[j], b, off, h1, h2, h3, fun w => ?_⟩
    have := pick_in w ats[j] 10000 (hr _ (List.getElem_mem hjl)) (by decide) (by decide)
    have e : P j = pickR ats[j] 10000 := by rw [hP]; simp [List.getD, List.getElem?_eq_getElem hjl]
    rw [e]
    exact this
  have HG2 : Hid (∀ j, j < s → ∃ z p b off, a2 = some ⟨b, off, none⟩ ∧ b < W.heap.size ∧ W.cell? ⟨b, off + j, none⟩ = some (.int .i64 z) ∧ 0 ≤ p ∧ p < 500 ∧ ∀ w, Calls Try.prog 11 #[.int .i64 z, .int .i64 500] w fun e w' => e = .returned (.int .i64 p) ∧ w' = w) := fun j hj => by
    have hjl : j < st.length := by omega
    obtain ⟨b, off, h1, h2, h3⟩ := hg2 j hjl
    exact ⟨st[j], pickR st[j] 500, b, off, h1, h2, h3, pickR_ge _ _, pickR_lt _ _ (by decide), fun w => pick_in w st[j] 500 (hr2 _ (List.getElem_mem hjl)) (by decide) (by decide)⟩
  have HP := Hid.mk (And.intro hP0 hP1)
  rw [hm, hs]
  clear hP hP0 hP1 hg hg2 hr hr2 hcp hcp2 hm hs
  have HNm := Hid.mk hn
  go_enter Try.func6, Try.ntmps6
  go_wp2_with fail
  refine (examples_in W).mono ?_
  rintro e u0 ⟨rfl, z0⟩
  have HZ0 := Hid.mk z0
  clear z0
  go_wp2_with fail
  refine (new_in u0 W.heap.size HZ0.out.size).mono ?_
  rintro e u1 ⟨rfl, t1, b1⟩
  obtain ⟨T, hT⟩ : ∃ T, u0.heap.size + 1 = T := ⟨_, rfl⟩
  rw [hT] at t1 ⊢
  have H1 : Hid (Tk W.heap.size u1 T [] ∧ Below W.heap.size W u1) := ⟨t1, HZ0.out.trans (b1.mono HZ0.out.size)⟩
  clear hT t1 b1
  have hmin : (if (200 : Int) < (m : Int) then (200 : Int) else (m : Int)) = (n : Int) := by split <;> omega
  go_wp2
  go_loopw [8] (fun iv wr => ∃ k : Nat, k ≤ n ∧ iv = .int .i64 (k : Int) ∧ ∃ xs, Tk W.heap.size wr T xs ∧ xs.Perm (Es k P) ∧ Below W.heap.size W wr) (fun iv _ => n - (intOf iv).toNat)
  case atStart => exact ⟨0, Nat.zero_le _, rfl, [], H1.out.1, List.Perm.refl _, H1.out.2⟩
  case round =>
    clear H1
    obtain ⟨k, hk, rfl, xs, hTk, hpm, hB⟩ := hrel
    by_cases hlt : k < n
    · have y1 : (k : Int) < (n : Int) := by omega
      obtain ⟨z, b, off, rfl, hbW, c0, hpk⟩ := HG.out k hlt
      have cK := (hB.cell (p := ⟨b, off + k, none⟩) hbW).trans c0
      have HPk := Hid.mk hpk
      have p0 := HP.out.1 k
      have p1 := HP.out.2 k
      have hlen : xs.length < 1000 := by rw [hpm.length_eq, Es_len]; omega
      have HS := Hid.mk (set_in hTk (k : Int) (P k) (by omega) (by unfold W64; omega) (by unfold W64; omega) hlen)
      have HX := Hid.mk (And.intro hpm hB)
      obtain ⟨pk, hpk2⟩ : ∃ x, P k = x := ⟨_, rfl⟩
      rw [hpk2] at HPk HS p0 p1
      have HPP := Hid.mk hpk2
      clear hTk hpm hB c0 hpk hlen hpk2
      go_wp2_with fail
      refine (HPk.out _).mono ?_
      rintro e w2 ⟨rfl, rfl⟩
      go_wp2_with fail
      refine HS.out.mono ?_
      rintro e w3 ⟨rfl, ⟨ys, t3, p3⟩, f3⟩
      rw [← HPP.out] at p3
      have HR : Hid (∃ xs, Tk W.heap.size w3 T xs ∧ xs.Perm (Es (k + 1) P) ∧ Below W.heap.size W w3) := ⟨ys, t3, set_next HX.out.1 p3, HX.out.2.trans f3.bel⟩
      clear t3 p3 f3
      go_wp2
      go_roundw
      case rel => exact ⟨k + 1, hlt, by go_num, HR.out⟩
      case measure => simp [intOf]; omega
    · have y1 : ¬ (k : Int) < (n : Int) := by omega
      obtain rfl : k = n := by omega
      have HO : Hid (OI W wr T k P 0 (-1) 0 0 s xs) := ⟨hTk, hB, fun e he => Es_mem (hpm.mem_iff.1 he), by rw [hpm.length_eq, Es_len]; omega, fun e he => by
        obtain ⟨i, _, rfl⟩ := Es_mem (hpm.mem_iff.1 he)
        have := HP.out.1 i
        simp only
        omega, fun h => by omega, by omega, by omega, by omega, fun h => by omega⟩
      clear hTk hpm hB
      obtain ⟨n, hnn⟩ : ∃ n, k = n := ⟨_, rfl⟩
      rw [hnn] at HO HG y1 hk hnm hn200 hncap ⊢
      clear hnn HNm hn hmin
      go_wp2
      go_loopw [9, 10, 11, 12] (fun nv lv mv kv wr => ∃ (k : Nat) (now last many : Int) (xs : List En), k ≤ s + 1 ∧ kv = .int .i64 (k : Int) ∧ nv = .int .i64 now ∧ lv = .int .i64 last ∧ mv = .int .i64 many ∧ OI W wr T n P now last many k s xs) (fun _ _ _ kv _ => s + 1 - (intOf kv).toNat)
      case atStart => exact ⟨0, 0, -1, 0, xs, Nat.zero_le _, rfl, rfl, rfl, rfl, HO.out⟩
      case round =>
        clear HO
        obtain ⟨k, now, last, many, xs, hk, rfl, rfl, rfl, rfl, hO⟩ := hrel
        have hn0 := hO.n0
        have hn1 := hO.n1
        by_cases hks : k ≤ s
        · have y2 : (k : Int) ≤ (s : Int) := by omega
          by_cases hke : k = s
          · have y3 : ((k : Int) == (s : Int)) = true := by simp; omega
            have HI := Hid.mk hO
            have HDu := Hid.mk (due_in hO.tk 10000 (by unfold W64; omega))
            clear hO
            go_wp2_with fail
            refine HDu.out.mono ?_
            rintro e w3 ⟨v3, ds, rest, rfl, r3, t3, i3, l3, f3⟩
            obtain ⟨q3, c3, hv3, hc3, hcell⟩ := row_int (l := ds.map Prod.fst) (by rw [List.length_map]; exact r3)
            rw [List.length_map] at hv3 hc3
            subst hv3
            have HC : Hid (∀ j, j < ds.length → ∃ g, q3 = some ⟨g, 0, none⟩ ∧ w3.cell? ⟨g, j, none⟩ = some (.int .i64 (A ds j).1)) := fun j hj => by
              obtain ⟨g, h1, h2⟩ := hcell j (by rw [List.length_map]; exact hj)
              exact ⟨g, h1, by rw [A_lt hj]; simpa using h2⟩
            have hBw : Below W.heap.size W w3 := HI.out.bel.trans f3.bel
            have HR : Hid (OI W w3 T n P 10000 (lastAt last ds ds.length) (many + (ds.length : Int)) (k + 1) s rest) := HI.out.step t3 hBw i3 l3 (by omega) (by omega) HP.out.2 (by intro h; first | rfl | omega)
            have H1 : Hid (∀ i, i < ds.length → (∃ j, j < n ∧ A ds i = ((j : Int), P j)) ∧ lastAt last ds i ≤ (A ds i).2 ∧ (A ds i).2 ≤ 10000 ∧ (0 < k → now - 1 ≤ (A ds i).2)) := fun i hi => HI.out.one i3 hi
            have hdl : ds.length ≤ n := by
              have e1 := i3.perm.length_eq
              rw [List.length_append] at e1
              have e2 := HI.out.cnt
              have e3 := HI.out.m0
              omega
            have HBw := Hid.mk hBw
            obtain ⟨dl, hdd⟩ : ∃ d, ds.length = d := ⟨_, rfl⟩
            have HDD := Hid.mk hdd
            rw [hdd] at hdl hc3 ⊢
            have hmb : many + (dl : Int) ≤ 200 := by
              have e2 := HI.out.cnt
              have e1 := i3.perm.length_eq
              rw [List.length_append, hdd] at e1
              omega
            have hm0 := HI.out.m0
            clear r3 t3 i3 l3 f3 hcell hBw hdd HI
            go_wp2
            go_loopw [10, 11, 15] (fun lv mv iv wr => ∃ i : Nat, i ≤ dl ∧ iv = .int .i64 (i : Int) ∧ lv = .int .i64 (lastAt last ds i) ∧ mv = .int .i64 (many + (i : Int)) ∧ wr = w3) (fun _ _ iv _ => dl - (intOf iv).toNat)
            case atStart => exact ⟨0, Nat.zero_le _, rfl, rfl, by simp, rfl⟩
            case round =>
              obtain ⟨i, hi, rfl, rfl, rfl, rfl⟩ := hrel
              by_cases hlt : i < dl
              · have y1 : (i : Int) < (dl : Int) := by omega
                obtain ⟨g, rfl, cD⟩ := HC.out i (by rw [HDD.out]; exact hlt)
                obtain ⟨⟨j, hj, hA⟩, o1, o2, o3⟩ := H1.out i (by rw [HDD.out]; exact hlt)
                rw [hA] at cD o1 o2 o3
                simp only at cD o1 o2 o3
                obtain ⟨z, b, off, rfl, hbW, c0, hpk⟩ := HG.out j hj
                have cJ := (HBw.out.cell (p := ⟨b, off + j, none⟩) hbW).trans c0
                have HPk := Hid.mk hpk
                have HLn : Hid (lastAt last ds (i + 1) = P j) := by show (A ds i).2 = _; rw [hA]
                obtain ⟨la, hla⟩ : ∃ x, lastAt last ds i = x := ⟨_, rfl⟩
                rw [hla] at o1 ⊢
                obtain ⟨pj, hpj⟩ : ∃ x, P j = x := ⟨_, rfl⟩
                rw [hpj] at HPk HLn o1 o2 o3
                have x1 : ¬ pj < la := by omega
                have x2 : ¬ 10000 < pj := by omega
                clear hla hpj hA c0 hpk
                by_cases hk0 : 0 < k
                · have hk0' : (0 : Int) < (k : Int) := by omega
                  have x3 : ¬ pj < now - 1 := by have := o3 hk0; omega
                  clear o3
                  go_wp2_with fail
                  refine (HPk.out _).mono ?_
                  rintro e w4 ⟨rfl, rfl⟩
                  go_wp2
                  go_roundw
                  case rel => exact ⟨i + 1, hlt, by go_num, by rw [HLn.out], by go_num, by first | rfl | trivial⟩
                  case measure => simp [intOf]; omega
                · have hk0' : ¬ (0 : Int) < (k : Int) := by omega
                  clear o3
                  go_wp2_with fail
                  refine (HPk.out _).mono ?_
                  rintro e w4 ⟨rfl, rfl⟩
                  go_wp2
                  go_roundw
                  case rel => exact ⟨i + 1, hlt, by go_num, by rw [HLn.out], by go_num, by first | rfl | trivial⟩
                  case measure => simp [intOf]; omega
              · have y1 : ¬ (i : Int) < (dl : Int) := by omega
                obtain rfl : i = dl := by omega
                rw [HDD.out] at HR
                go_wp2
                go_roundw
                case rel => exact ⟨k + 1, 10000, lastAt last ds i, many + (i : Int), rest, by omega, by go_num, rfl, rfl, rfl, HR.out⟩
                case measure => simp [intOf]; omega
          · have y3 : ((k : Int) == (s : Int)) = false := by simp; omega
            obtain ⟨z, p, b2, off2, rfl, hbW2, c2, q0, q1, hpk2⟩ := HG2.out k (by omega)
            have cS := (hO.bel.cell (p := ⟨b2, off2 + k, none⟩) hbW2).trans c2
            have HPk2 := Hid.mk hpk2
            clear c2 hpk2
            go_wp2_with fail
            refine (HPk2.out _).mono ?_
            rintro e w2 ⟨rfl, rfl⟩
            obtain ⟨nw, hnw⟩ : ∃ x, (if now + p < 10000 then now + p else 10000) = x := ⟨_, rfl⟩
            have hnw0 : 0 ≤ nw := by rw [← hnw]; split <;> omega
            have hnw1 : nw ≤ 10000 := by rw [← hnw]; split <;> omega
            have HI := Hid.mk hO
            have HDu := Hid.mk (due_in hO.tk nw (by unfold W64; omega))
            clear hO
            go_wp2_with fail
            refine HDu.out.mono ?_
            rintro e w3 ⟨v3, ds, rest, rfl, r3, t3, i3, l3, f3⟩
            obtain ⟨q3, c3, hv3, hc3, hcell⟩ := row_int (l := ds.map Prod.fst) (by rw [List.length_map]; exact r3)
            rw [List.length_map] at hv3 hc3
            subst hv3
            have HC : Hid (∀ j, j < ds.length → ∃ g, q3 = some ⟨g, 0, none⟩ ∧ w3.cell? ⟨g, j, none⟩ = some (.int .i64 (A ds j).1)) := fun j hj => by
              obtain ⟨g, h1, h2⟩ := hcell j (by rw [List.length_map]; exact hj)
              exact ⟨g, h1, by rw [A_lt hj]; simpa using h2⟩
            have hBw : Below W.heap.size W w3 := HI.out.bel.trans f3.bel
            have HR : Hid (OI W w3 T n P nw (lastAt last ds ds.length) (many + (ds.length : Int)) (k + 1) s rest) := HI.out.step t3 hBw i3 l3 (by omega) (by omega) HP.out.2 (by intro h; first | rfl | omega)
            have H1 : Hid (∀ i, i < ds.length → (∃ j, j < n ∧ A ds i = ((j : Int), P j)) ∧ lastAt last ds i ≤ (A ds i).2 ∧ (A ds i).2 ≤ nw ∧ (0 < k → now - 1 ≤ (A ds i).2)) := fun i hi => HI.out.one i3 hi
            have hdl : ds.length ≤ n := by
              have e1 := i3.perm.length_eq
              rw [List.length_append] at e1
              have e2 := HI.out.cnt
              have e3 := HI.out.m0
              omega
            have HBw := Hid.mk hBw
            obtain ⟨dl, hdd⟩ : ∃ d, ds.length = d := ⟨_, rfl⟩
            have HDD := Hid.mk hdd
            rw [hdd] at hdl hc3 ⊢
            have hmb : many + (dl : Int) ≤ 200 := by
              have e2 := HI.out.cnt
              have e1 := i3.perm.length_eq
              rw [List.length_append, hdd] at e1
              omega
            have hm0 := HI.out.m0
            clear r3 t3 i3 l3 f3 hcell hBw hdd HI
            go_wp2
            go_loopw [10, 11, 15] (fun lv mv iv wr => ∃ i : Nat, i ≤ dl ∧ iv = .int .i64 (i : Int) ∧ lv = .int .i64 (lastAt last ds i) ∧ mv = .int .i64 (many + (i : Int)) ∧ wr = w3) (fun _ _ iv _ => dl - (intOf iv).toNat)
            case atStart => exact ⟨0, Nat.zero_le _, rfl, rfl, by simp, rfl⟩
            case round =>
              obtain ⟨i, hi, rfl, rfl, rfl, rfl⟩ := hrel
              by_cases hlt : i < dl
              · have y1 : (i : Int) < (dl : Int) := by omega
                obtain ⟨g, rfl, cD⟩ := HC.out i (by rw [HDD.out]; exact hlt)
                obtain ⟨⟨j, hj, hA⟩, o1, o2, o3⟩ := H1.out i (by rw [HDD.out]; exact hlt)
                rw [hA] at cD o1 o2 o3
                simp only at cD o1 o2 o3
                obtain ⟨z, b, off, rfl, hbW, c0, hpk⟩ := HG.out j hj
                have cJ := (HBw.out.cell (p := ⟨b, off + j, none⟩) hbW).trans c0
                have HPk := Hid.mk hpk
                have HLn : Hid (lastAt last ds (i + 1) = P j) := by show (A ds i).2 = _; rw [hA]
                obtain ⟨la, hla⟩ : ∃ x, lastAt last ds i = x := ⟨_, rfl⟩
                rw [hla] at o1 ⊢
                obtain ⟨pj, hpj⟩ : ∃ x, P j = x := ⟨_, rfl⟩
                rw [hpj] at HPk HLn o1 o2 o3
                have x1 : ¬ pj < la := by omega
                have x2 : ¬ nw < pj := by omega
                clear hla hpj hA c0 hpk
                by_cases hk0 : 0 < k
                · have hk0' : (0 : Int) < (k : Int) := by omega
                  have x3 : ¬ pj < now - 1 := by have := o3 hk0; omega
                  clear o3
                  go_wp2_with fail
                  refine (HPk.out _).mono ?_
                  rintro e w4 ⟨rfl, rfl⟩
                  go_wp2
                  go_roundw
                  case rel => exact ⟨i + 1, hlt, by go_num, by rw [HLn.out], by go_num, by first | rfl | trivial⟩
                  case measure => simp [intOf]; omega
                · have hk0' : ¬ (0 : Int) < (k : Int) := by omega
                  clear o3
                  go_wp2_with fail
                  refine (HPk.out _).mono ?_
                  rintro e w4 ⟨rfl, rfl⟩
                  go_wp2
                  go_roundw
                  case rel => exact ⟨i + 1, hlt, by go_num, by rw [HLn.out], by go_num, by first | rfl | trivial⟩
                  case measure => simp [intOf]; omega
              · have y1 : ¬ (i : Int) < (dl : Int) := by omega
                obtain rfl : i = dl := by omega
                rw [HDD.out] at HR
                go_wp2
                go_roundw
                case rel => exact ⟨k + 1, nw, lastAt last ds i, many + (i : Int), rest, by omega, by go_num, rfl, rfl, rfl, HR.out⟩
                case measure => simp [intOf]; omega
        · have y2 : ¬ (k : Int) ≤ (s : Int) := by omega
          have hx : xs = [] := hO.fin (by omega)
          have hcnt := hO.cnt
          rw [hx] at hcnt
          have hmn : many = (n : Int) := by simpa using hcnt
          have HLn := Hid.mk (tlen_in hO.tk)
          rw [hx] at HLn
          have HB := Hid.mk hO.bel
          subst hmn
          clear hO hcnt hx
          go_wp2_with fail
          refine HLn.out.mono ?_
          rintro e w5 ⟨rfl, rfl⟩
          go_wp2
          go_ret
          exact ⟨rfl, HB.out⟩
end Go.Proofs.Ytdgkknjmhdmlfaa
