/- Layer 12: TimerOnce. -/
import Derived.Deep.RegionHeld3
import Derived.BigRegion
import Derived.Test.YtdgkknjmhdmlfaaTiOrd
namespace Go.Proofs.Ytdgkknjmhdmlfaa
set_option linter.unusedVariables false
set_option linter.unusedSimpArgs false
open Go.RowKit

theorem take_app {l : List Int} {k : Nat} (h : k < l.length) : l.take (k + 1) = l.take k ++ [l[k]] := by
  rw [List.take_add_one, List.getElem?_eq_getElem h]; rfl
theorem mem_wo {xs : List En} {id x : Int} : x ∈ (wo xs id).map Prod.fst ↔ x ∈ xs.map Prod.fst ∧ x ≠ id := by
  unfold wo
  constructor
  · intro h
    obtain ⟨e, he, rfl⟩ := List.mem_map.1 h
    obtain ⟨h1, h2⟩ := List.mem_filter.1 he
    exact ⟨List.mem_map_of_mem h1, by simpa using h2⟩
  · rintro ⟨h, hn⟩
    obtain ⟨e, he, rfl⟩ := List.mem_map.1 h
    exact List.mem_map_of_mem (List.mem_filter.2 ⟨he, by simpa using hn⟩)
theorem wo_len (xs : List En) (id : Int) : (wo xs id).length ≤ xs.length := List.length_filter_le _ _
theorem wo_sub {xs : List En} {id : Int} {e : En} (h : e ∈ wo xs id) : e ∈ xs := (List.mem_filter.1 h).1

/-- what is to be due, by its ids. -/
structure NI (W wr : World) (T k : Nat) (S : Int → Prop) (xs : List En) : Prop where
  tk : Tk W.heap.size wr T xs
  bel : Below W.heap.size W wr
  ids : ∀ x, x ∈ xs.map Prod.fst ↔ S x
  tim : ∀ e ∈ xs, e.2 < 1000
  len : xs.length ≤ k
theorem NI.set {W wr w2 : World} {T k : Nat} {S S' : Int → Prop} {xs ys : List En} {id at' : Int} (h : NI W wr T k S xs) (t : Tk W.heap.size w2 T ys) (hp : ys.Perm ((id, at') :: wo xs id)) (hb : Below W.heap.size wr w2) (ha : at' < 1000) (hS : ∀ x, S' x ↔ S x ∨ x = id) : NI W w2 T (k + 1) S' ys where
  tk := t
  bel := h.bel.trans hb
  ids := fun x => by
    rw [(hp.map Prod.fst).mem_iff, List.map_cons, List.mem_cons, mem_wo, h.ids, hS]
    by_cases e : x = id
    · simp [e]
    · simp [e]
  tim := fun e he => by
    rcases List.mem_cons.1 (hp.mem_iff.1 he) with rfl | he
    · exact ha
    · exact h.tim e (wo_sub he)
  len := by
    rw [hp.length_eq, List.length_cons]
    have := wo_len xs id
    have := h.len
    omega
theorem NI.cancel {W wr w2 : World} {T k : Nat} {S S' : Int → Prop} {xs ys : List En} {id : Int} (h : NI W wr T k S xs) (t : Tk W.heap.size w2 T ys) (hp : ys.Perm (wo xs id)) (hb : Below W.heap.size wr w2) (hS : ∀ x, S' x ↔ S x ∧ x ≠ id) : NI W w2 T k S' ys where
  tk := t
  bel := h.bel.trans hb
  ids := fun x => by rw [(hp.map Prod.fst).mem_iff, mem_wo, h.ids, hS]
  tim := fun e he => h.tim e (wo_sub (hp.mem_iff.1 he))
  len := by
    rw [hp.length_eq]
    have := wo_len xs id
    have := h.len
    omega
/-- all come, each once. -/
theorem NI.due {W wr w2 : World} {T k : Nat} {S : Int → Prop} {xs ds rest : List En} (h : NI W wr T k S xs) (hI : DueI xs ds rest 1000) (hl : ∀ e ∈ rest, (1000 : Int) < e.2) : rest = [] ∧ (ds.map Prod.fst).Nodup ∧ (∀ x, x ∈ ds.map Prod.fst ↔ S x) ∧ ds.length ≤ k := by
  have h0 : rest = [] := by
    cases rest with
    | nil => rfl
    | cons e r =>
      exfalso
      have h1 := hl e (by simp)
      have h2 := h.tim e (hI.perm.mem_iff.1 (by simp))
      omega
  subst h0
  have hp := hI.perm
  rw [List.append_nil] at hp
  exact ⟨rfl, (hp.map Prod.fst).nodup_iff.2 h.tk.nd, fun x => by rw [(hp.map Prod.fst).mem_iff, h.ids], by rw [hp.length_eq]; exact h.len⟩

/-- ints in a slice, in one world. -/
def Lies (w : World) (q : Option Addr) (l : List Int) : Prop := ∀ j (h : j < l.length), ∃ b off, q = some ⟨b, off, none⟩ ∧ w.cell? ⟨b, off + j, none⟩ = some (.int .i64 l[j])
theorem Lies.take {w : World} {q : Option Addr} {l : List Int} (h : Lies w q l) (n : Nat) : Lies w q (l.take n) := fun j hj => by
  rw [List.length_take] at hj
  obtain ⟨b, off, h1, h2⟩ := h j (by omega)
  exact ⟨b, off, h1, by rw [List.getElem_take]; exact h2⟩
theorem GivenI.lies {W w : World} {q : Option Addr} {l : List Int} (h : GivenI W q l) (hb : Below W.heap.size W w) : Lies w q l := fun j hj => by
  obtain ⟨b, off, h1, h2, h3⟩ := h j hj
  exact ⟨b, off, h1, (hb.cell (p := ⟨b, off + j, none⟩) h2).trans h3⟩
/-- the same but for draws. -/
structure Sm (w u : World) : Prop where
  heap : u.heap = w.heap
  os : u.os = w.os
  tape : u.tape = w.tape
  output : u.output = w.output
theorem Sm.refl (w : World) : Sm w w := ⟨rfl, rfl, rfl, rfl⟩
theorem Sm.drew {w u : World} (h : Sm w u) : Sm w u.drew := ⟨h.heap, h.os, h.tape, h.output⟩
theorem Sm.below {w u : World} (h : Sm w u) (n : Nat) : Below n w u := ⟨h.os, h.tape, h.output, by rw [h.heap]; exact Nat.le_refl _, fun b _ => by rw [h.heap]⟩
theorem Sm.cell {w u : World} (h : Sm w u) {b i : Nat} {v : Value} (hc : w.cell? ⟨b, i, none⟩ = some v) : u.cell? ⟨b, i, none⟩ = some v := by
  rw [← hc]
  exact World.cell?_of_block (by rw [h.heap])
theorem Lies.sm {w u : World} {q : Option Addr} {l : List Int} (h : Lies w q l) (hs : Sm w u) : Lies u q l := fun j hj => by
  obtain ⟨b, off, h1, h2⟩ := h j hj
  exact ⟨b, off, h1, hs.cell h2⟩
def NPost (W : World) (e : Ending) (w' : World) : Prop := e = .returned (.bool true) ∧ Below W.heap.size W w'

set_option maxRecDepth 100000 in
set_option maxHeartbeats 16000000 in
theorem once_walk (a : Option Addr) (cap : Nat) (ids : List Int) (hr : ∀ z ∈ ids, -9223372036854775808 ≤ z ∧ z ≤ 9223372036854775807) (hcp : ids.length ≤ cap ∧ cap ≤ maxLen ∧ (a = none → cap = 0)) (a2 : Option Addr) (cap2 : Nat) (ats : List Int) (hr2 : ∀ z ∈ ats, -9223372036854775808 ≤ z ∧ z ≤ 9223372036854775807) (hcp2 : ats.length ≤ cap2 ∧ cap2 ≤ maxLen ∧ (a2 = none → cap2 = 0)) (a3 : Option Addr) (cap3 : Nat) (gone : List Int) (hr3 : ∀ z ∈ gone, -9223372036854775808 ≤ z ∧ z ≤ 9223372036854775807) (hcp3 : gone.length ≤ cap3 ∧ cap3 ≤ maxLen ∧ (a3 = none → cap3 = 0)) (W : World) (hg : GivenI W a ids) (hg2 : GivenI W a2 ats) (hg3 : GivenI W a3 gone) :
    Calls Try.prog 8 #[.slice a ids.length cap, .slice a2 ats.length cap2, .slice a3 gone.length cap3] W (NPost W) := by
  obtain ⟨m, hm⟩ : ∃ m, ids.length = m := ⟨_, rfl⟩
  obtain ⟨s, hs⟩ : ∃ m, ats.length = m := ⟨_, rfl⟩
  obtain ⟨g, hgl⟩ : ∃ m, gone.length = m := ⟨_, rfl⟩
  obtain ⟨n, hn⟩ : ∃ n, min m 60 = n := ⟨_, rfl⟩
  have hcap : cap ≤ 9223372036854775807 := by have := hcp.2.1; unfold maxLen at this; omega
  have hcap2 : cap2 ≤ 9223372036854775807 := by have := hcp2.2.1; unfold maxLen at this; omega
  have hcap3 : cap3 ≤ 9223372036854775807 := by have := hcp3.2.1; unfold maxLen at this; omega
  have hnm : n ≤ m := by omega
  have hn60 : n ≤ 60 := by omega
  have hncap : n ≤ cap := by have := hcp.1; omega
  have hmcap : m ≤ cap := by have := hcp.1; omega
  have hscap : s ≤ cap2 := by have := hcp2.1; omega
  have hgcap : g ≤ cap3 := by have := hcp3.1; omega
  have hnil : a = none → cap = 0 := hcp.2.2
  obtain ⟨I, hI⟩ : ∃ I, ids.take n = I := ⟨_, rfl⟩
  have hIl : I.length = n := by rw [← hI, List.length_take]; omega
  have HIr : Hid (∀ z ∈ I, W64 z) := fun z hz => hr z (List.mem_of_mem_take (by rw [hI]; exact hz))
  have HGr : Hid (∀ z ∈ gone, W64 z) := hr3
  have HGI : Hid (∀ w, Below W.heap.size W w → Lies w a I) := fun w hb => by rw [← hI]; exact (hg.lies hb).take n
  have HBl : Hid (∀ b off, a = some ⟨b, off, none⟩ → 0 < n → b < W.heap.size) := fun b off e h0 => by
    obtain ⟨b', off', e', h2, _⟩ := hg 0 (by omega)
    rw [e] at e'
    cases e'
    exact h2
  have HGA : Hid (∀ w, Below W.heap.size W w → Lies w a2 ats) := fun w hb => hg2.lies hb
  have HGG : Hid (∀ w, Below W.heap.size W w → Lies w a3 gone) := fun w hb => hg3.lies hb
  have HAr : Hid (∀ z ∈ ats, W64 z) := hr2
  have HLs : Hid (I.length = n ∧ ats.length = s ∧ gone.length = g) := ⟨hIl, hs, hgl⟩
  rw [hm, hs, hgl]
  clear hg hg2 hg3 hr hr2 hr3 hcp hcp2 hcp3 hm hs hgl hIl hI
  have hmin : (if (60 : Int) < (m : Int) then (60 : Int) else (m : Int)) = (n : Int) := by split <;> omega
  go_enter Try.func8, Try.ntmps8
  go_wp2_with fail
  refine (examples_in W).mono ?_
  rintro e u0 ⟨rfl, z0⟩
  have HZ0 := Hid.mk z0
  clear z0
  go_wp2_with fail
  refine (new_in u0 W.heap.size HZ0.out.size).mono ?_
  rintro e u1 ⟨rfl, t1, b1⟩
  obtain ⟨T, hT⟩ : ∃ T, u0.heap.size + 1 = T := ⟨_, rfl⟩
  rw [hT] at t1 ⊢
  have H1 : Hid (NI W u1 T 0 (fun x => x ∈ I.take 0) []) := ⟨t1, HZ0.out.trans (b1.mono HZ0.out.size), fun x => by simp, by simp, by simp⟩
  clear hT t1 b1
  go_wp2
  clear hmin hn hnm hmcap
  go_loopw [9] (fun iv wr => ∃ k : Nat, k ≤ n ∧ iv = .int .i64 (k : Int) ∧ ∃ xs, NI W wr T k (fun x => x ∈ I.take k) xs) (fun iv _ => n - (intOf iv).toNat)
  case atStart => exact ⟨0, Nat.zero_le _, rfl, [], H1.out⟩
  case round =>
    clear H1
    obtain ⟨k, hk, rfl, xs, hN⟩ := hrel
    by_cases hlt : k < n
    · have y1 : (k : Int) < (n : Int) := by omega
      have hkI : k < I.length := by rw [HLs.out.1]; exact hlt
      obtain ⟨b, off, rfl, cK⟩ := HGI.out wr hN.bel k hkI
      have HbW : Hid (b < W.heap.size) := HBl.out b off rfl (by omega)
      have hid := HIr.out _ (List.getElem_mem hkI)
      have htk := take_app hkI
      obtain ⟨id, hidd⟩ : ∃ x, I[k] = x := ⟨_, rfl⟩
      rw [hidd] at cK hid htk
      have hlen : xs.length < 1000 := by have := hN.len; omega
      have HNx := Hid.mk (And.intro hN htk)
      have setAt : ∀ at' : Int, W64 at' → Hid ((∀ w, Calls Try.prog 11 #[.int .i64 at', .int .i64 1000] w fun e w' => e = .returned (.int .i64 (pickR at' 1000)) ∧ w' = w) ∧ Calls Try.prog 12 #[pt T, .int .i64 id, .int .i64 (pickR at' 1000)] wr.drew fun e w' => e = .returned (.int .i64 0) ∧ (∃ ys, Tk W.heap.size w' T ys ∧ ys.Perm ((id, pickR at' 1000) :: wo xs id)) ∧ Fr W.heap.size wr.drew w') := fun at' h => by
        have p0 := pickR_ge at' 1000
        have p1 := pickR_lt at' 1000 (by decide)
        exact ⟨fun w => pick_in w at' 1000 h (by decide) (by decide), set_in (hN.tk.blk (Below.refl _ _).drew) id _ (by omega) hid (by unfold W64; omega) hlen⟩
      have HSet := Hid.mk setAt
      have cKw : ∀ w', Fr W.heap.size wr.drew w' → w'.cell? ⟨b, off + k, none⟩ = some (.int .i64 id) → True := fun _ _ _ => trivial
      clear cKw setAt hN hidd htk hlen
      by_cases hks : k < s
      · have y2 : (k : Int) < (s : Int) := by omega
        have hkA : k < ats.length := by rw [HLs.out.2.1]; exact hks
        obtain ⟨b2, off2, rfl, cA⟩ := HGA.out wr HNx.out.1.bel k hkA
        have hz := HAr.out _ (List.getElem_mem hkA)
        obtain ⟨z, hzz⟩ : ∃ x, ats[k] = x := ⟨_, rfl⟩
        rw [hzz] at cA hz
        clear hzz
        obtain ⟨HPk, HSt⟩ := (HSet.out z hz).out
        have HPkH := Hid.mk HPk
        have HStH := Hid.mk HSt
        have p1 := pickR_lt z 1000 (by decide)
        obtain ⟨pk, hpk⟩ : ∃ x, pickR z 1000 = x := ⟨_, rfl⟩
        rw [hpk] at HPkH HStH p1
        clear HPk HSt hpk HSet
        go_wp2
        go_region_held3 (fun u => u.cell? ⟨b, off + k, none⟩ = some (.int .i64 id)) (first | assumption | go_keep)
          (first
          | (go_at_call 11; refine (HPkH.out _).mono ?_; rintro e w' ⟨rfl, rfl⟩)
          | (go_at_call 12; refine HStH.out.mono ?_; rintro e w3 ⟨rfl, ⟨ys, t3, q3⟩, f3⟩; have hck := (f3.bel.cell (p := ⟨b, off + k, none⟩) HbW.out).trans cK))
        all_goals
          have HR : Hid (∃ xs, NI W w3 T (k + 1) (fun x => x ∈ I.take (k + 1)) xs) := ⟨ys, NI.set HNx.out.1 t3 q3 (((Below.refl _ _).drew).trans f3.bel) p1 (fun x => by rw [HNx.out.2]; simp [or_comm])⟩
          clear t3 q3 f3 hck
          go_wp2
          go_roundw
          case rel => exact ⟨k + 1, hlt, by go_num, HR.out⟩
          case measure => simp [intOf]; omega
      · have y2 : ¬ (k : Int) < (s : Int) := by omega
        obtain ⟨HPk, HSt⟩ := (HSet.out (k : Int) (by unfold W64; omega)).out
        have HPkH := Hid.mk HPk
        have HStH := Hid.mk HSt
        have p1 := pickR_lt (k : Int) 1000 (by decide)
        obtain ⟨pk, hpk⟩ : ∃ x, pickR (k : Int) 1000 = x := ⟨_, rfl⟩
        rw [hpk] at HPkH HStH p1
        clear HPk HSt hpk HSet
        go_wp2
        go_region_held3 (fun u => u.cell? ⟨b, off + k, none⟩ = some (.int .i64 id)) (first | assumption | go_keep)
          (first
          | (go_at_call 11; refine (HPkH.out _).mono ?_; rintro e w' ⟨rfl, rfl⟩)
          | (go_at_call 12; refine HStH.out.mono ?_; rintro e w3 ⟨rfl, ⟨ys, t3, q3⟩, f3⟩; have hck := (f3.bel.cell (p := ⟨b, off + k, none⟩) HbW.out).trans cK))
        all_goals
          have HR : Hid (∃ xs, NI W w3 T (k + 1) (fun x => x ∈ I.take (k + 1)) xs) := ⟨ys, NI.set HNx.out.1 t3 q3 (((Below.refl _ _).drew).trans f3.bel) p1 (fun x => by rw [HNx.out.2]; simp [or_comm])⟩
          clear t3 q3 f3 hck
          go_wp2
          go_roundw
          case rel => exact ⟨k + 1, hlt, by go_num, HR.out⟩
          case measure => simp [intOf]; omega
    · have y1 : ¬ (k : Int) < (n : Int) := by omega
      obtain rfl : k = n := by omega
      have HN0 : Hid (NI W wr T k (fun x => x ∈ I ∧ x ∉ gone.take 0) xs) := ⟨hN.tk, hN.bel, fun x => by rw [hN.ids]; simp [List.take_of_length_le (show I.length ≤ k by rw [HLs.out.1]; exact Nat.le_refl _)], hN.tim, hN.len⟩
      clear hN
      obtain ⟨n, hnn⟩ : ∃ n, k = n := ⟨_, rfl⟩
      rw [hnn] at HN0 HLs y1 hk hn60 hncap ⊢
      clear hnn
      go_wp2
      go_loopw [11] (fun iv wr => ∃ k : Nat, k ≤ g ∧ iv = .int .i64 (k : Int) ∧ ∃ xs, NI W wr T n (fun x => x ∈ I ∧ x ∉ gone.take k) xs) (fun iv _ => g - (intOf iv).toNat)
      case atStart => exact ⟨0, Nat.zero_le _, rfl, xs, HN0.out⟩
      case round =>
        clear HN0
        obtain ⟨k, hkg, rfl, xs, hN⟩ := hrel
        by_cases hlt : k < g
        · have y2 : (k : Int) < (g : Int) := by omega
          have hkG : k < gone.length := by rw [HLs.out.2.2]; exact hlt
          obtain ⟨b, off, rfl, cK⟩ := HGG.out wr hN.bel k hkG
          have hid := HGr.out _ (List.getElem_mem hkG)
          have htk := take_app hkG
          obtain ⟨id, hidd⟩ : ∃ x, gone[k] = x := ⟨_, rfl⟩
          rw [hidd] at cK hid htk
          have HC := Hid.mk (cancel_in hN.tk id hid)
          obtain ⟨db, hdb⟩ : ∃ d, decide (∃ e ∈ xs, e.1 = id) = d := ⟨_, rfl⟩
          rw [hdb] at HC
          have HNx := Hid.mk (And.intro hN htk)
          clear hN hidd htk hdb
          go_wp2_with fail
          refine HC.out.mono ?_
          rintro e w3 ⟨rfl, ⟨ys, t3, q3⟩, f3⟩
          have HR : Hid (∃ xs, NI W w3 T n (fun x => x ∈ I ∧ x ∉ gone.take (k + 1)) xs) := ⟨ys, NI.cancel HNx.out.1 t3 q3 f3.bel (fun x => by rw [HNx.out.2]; simp [and_assoc])⟩
          clear t3 q3 f3
          go_wp2
          go_roundw
          case rel => exact ⟨k + 1, hlt, by go_num, HR.out⟩
          case measure => simp [intOf]; omega
        · have y2 : ¬ (k : Int) < (g : Int) := by omega
          obtain rfl : k = g := by omega
          have hgt : gone.take k = gone := List.take_of_length_le (by rw [HLs.out.2.2]; exact Nat.le_refl _)
          rw [hgt] at hN
          have HN := Hid.mk hN
          have HDu := Hid.mk (due_in hN.tk 1000 (by unfold W64; decide))
          clear hN hgt
          obtain ⟨g, hgg⟩ : ∃ g, k = g := ⟨_, rfl⟩
          rw [hgg] at HLs y2 hkg hgcap ⊢
          clear hgg
          go_wp2_with fail
          refine HDu.out.mono ?_
          rintro e w3 ⟨v3, ds, rest, rfl, r3, t3, i3, l3, f3⟩
          obtain ⟨hrest, hnd, hmem, hdl⟩ := NI.due (w2 := w3) HN.out i3 l3
          subst hrest
          obtain ⟨q3, c3, hv3, hc3, hcell⟩ := row_int (l := ds.map Prod.fst) (by rw [List.length_map]; exact r3)
          obtain ⟨D, hD⟩ : ∃ D, ds.map Prod.fst = D := ⟨_, rfl⟩
          have hDl : D.length = ds.length := by rw [← hD, List.length_map]
          rw [hD] at hnd hmem hcell hv3 hc3
          rw [← hDl] at hdl
          have hB3 : Below W.heap.size W w3 := HN.out.bel.trans f3.bel
          have HL3 := Hid.mk (fun u (hu : Sm w3 u) => tlen_in (t3.blk (hu.below _)))
          obtain ⟨d, hdd⟩ : ∃ d, D.length = d := ⟨_, rfl⟩
          rw [hdd] at hdl hv3 hc3
          subst hv3
          have LI := Hid.mk (HGI.out w3 hB3)
          have LG := Hid.mk (HGG.out w3 hB3)
          have LD : Hid (Lies w3 q3 D) := fun j hj => by
            obtain ⟨gg, h1, h2⟩ := hcell j hj
            exact ⟨gg, 0, h1, by rw [Nat.zero_add]; exact h2⟩
          have HF : Hid ((∀ x ∈ D, x ∈ I ∧ x ∉ gone) ∧ (∀ x ∈ I, x ∈ D ∨ x ∈ gone) ∧ D.Nodup ∧ D.length = d ∧ Below W.heap.size W w3) := by
            refine ⟨fun x hx => (hmem x).1 hx, fun x hx => ?_, hnd, hdd, hB3⟩
            by_cases hxg : x ∈ gone
            · exact .inr hxg
            · exact .inl ((hmem x).2 ⟨hx, hxg⟩)
          clear hnd hmem hcell hB3 r3 t3 i3 l3 f3 hD hDl hdd HN HDu
          go_wp2
          go_loopw [13] (fun kv wr => ∃ k : Nat, k ≤ d ∧ kv = .int .i64 (k : Int) ∧ Sm w3 wr) (fun kv _ => d - (intOf kv).toNat)
          case atStart => exact ⟨0, Nat.zero_le _, rfl, by first | exact hw | exact Sm.refl _⟩
          case round =>
            obtain ⟨k, hk, rfl, hw⟩ := hrel
            by_cases hlt : k < d
            · have y3 : (k : Int) < (d : Int) := by omega
              have hkD : k < D.length := by rw [HF.out.2.2.2.1]; exact hlt
              obtain ⟨by', oy, hqy, cY3⟩ := LD.out k hkD
              have hyy := HF.out.1 _ (List.getElem_mem hkD)
              obtain ⟨y, hy⟩ : ∃ x, D[k] = x := ⟨_, rfl⟩
              rw [hy] at cY3 hyy
              have HcY := Hid.mk cY3
              clear cY3
              have HyG := Hid.mk hyy
              have HYk := Hid.mk hy
              cases hqy
              clear hyy hy
              go_wp2
              go_loopw [14, 15] (fun bv iv wr => ∃ i : Nat, i ≤ n ∧ iv = .int .i64 (i : Int) ∧ bv = .bool (decide (y ∈ I.take i)) ∧ Sm w3 wr) (fun _ iv _ => n - (intOf iv).toNat)
              case atStart => exact ⟨0, Nat.zero_le _, rfl, by simp, by first | exact hw | exact Sm.refl _⟩
              case round =>
                obtain ⟨i, hi, rfl, rfl, hw⟩ := hrel
                by_cases hlt2 : i < n
                · have x1 : (i : Int) < (n : Int) := by omega
                  have hiX : i < I.length := by have := HLs.out.1; omega
                  obtain ⟨bx, ox, hqx, cX⟩ := (LI.out.sm hw) i hiX
                  have cY := hw.cell HcY.out
                  have htk := take_app hiX
                  obtain ⟨xv, hxv⟩ : ∃ x, I[i] = x := ⟨_, rfl⟩
                  rw [hxv] at cX htk
                  cases hqx
                  have HTK := Hid.mk htk
                  clear htk hxv
                  by_cases hb : y ∈ I.take i
                  · have HB := Hid.mk hb
                    rw [decide_eq_true hb]
                    clear hb
                    go_wp2
                    go_region
                    all_goals
                      go_wp2
                      go_roundw
                      case rel => exact ⟨i + 1, hlt2, by go_num, congrArg Value.bool (decide_eq_true (by have hb := HB.out; rw [HTK.out]; simp only [List.mem_append]; exact Or.inl hb)).symm, by first | exact hw.drew | exact hw⟩
                      case measure => simp [intOf]; omega
                  · have HB := Hid.mk hb
                    rw [decide_eq_false hb]
                    clear hb
                    by_cases hxy : xv = y
                    · have hxy1 : (xv == y) = true := by simp [hxy]
                      have HXY := Hid.mk hxy
                      clear hxy
                      go_wp2
                      refine wp_region_held_drew (S := fun u => u.cell? ⟨bx, ox + i, none⟩ = some (.int .i64 xv) ∧ u.cell? ⟨by', oy + k, none⟩ = some (.int .i64 y)) (by kernel_rfl) ⟨cX, cY⟩ (fun hHeld => ?_)
                      refine wpAnyH_take (i := 0) (v := ?vh27) rfl (by kernel_rfl) (by kernel_rfl) (by kernel_rfl) (fun _ _ _ h => h) (Or.inl ⟨by kernel_rfl, ?yh27⟩) (by assumption) ?_
                      case yh27 => (intro w hSw; (try dsimp only at hSw); go_split_ands; go_simp; try with_reducible rfl)
                      refine wpAnyH_take (i := 1) (v := ?vh28) rfl (by kernel_rfl) (by kernel_rfl) (by kernel_rfl) (fun _ _ _ h => h) (Or.inl ⟨by kernel_rfl, ?yh28⟩) (by assumption) ?_
                      case yh28 => (intro w hSw; (try dsimp only at hSw); go_split_ands; go_simp; try with_reducible rfl)
                      refine wpAnyH_take (i := 2) (v := ?vh29) rfl (by kernel_rfl) (by kernel_rfl) (by kernel_rfl) (fun _ _ _ h => h) (Or.inl ⟨by kernel_rfl, ?yh29⟩) (by assumption) ?_
                      case yh29 => (intro w hSw; (try dsimp only at hSw); go_split_ands; go_simp; try with_reducible rfl)
                      refine wpAnyH_take (i := 3) (v := ?vh30) rfl (by kernel_rfl) (by kernel_rfl) (by kernel_rfl) (fun _ _ _ h => h) (Or.inl ⟨by kernel_rfl, ?yh30⟩) (by assumption) ?_
                      case yh30 => (intro w hSw; (try dsimp only at hSw); go_split_ands; go_simp; try with_reducible rfl)
                      refine wpAnyH_take (i := 4) (v := ?vh31) rfl (by kernel_rfl) (by kernel_rfl) (by kernel_rfl) (fun _ _ _ h => h) (Or.inl ⟨by kernel_rfl, ?yh31⟩) (by assumption) ?_
                      case yh31 => (intro w hSw; (try dsimp only at hSw); go_split_ands; go_simp; try with_reducible rfl)
                      refine wpAnyH_take (i := 5) (v := ?vh32) rfl (by kernel_rfl) (by kernel_rfl) (by kernel_rfl) (fun _ _ _ h => h) (Or.inl ⟨by kernel_rfl, ?yh32⟩) (by assumption) ?_
                      case yh32 => (intro w hSw; (try dsimp only at hSw); go_split_ands; go_simp; try with_reducible rfl)
                      refine wpAnyH_take (i := 6) (v := ?vh33) rfl (by kernel_rfl) (by kernel_rfl) (by kernel_rfl) (fun _ _ _ h => h) (Or.inl ⟨by kernel_rfl, ?yh33⟩) (by assumption) ?_
                      case yh33 => (intro w hSw; (try dsimp only at hSw); go_split_ands; go_simp; try with_reducible rfl)
                      refine wpAnyH_take (i := 7) (v := ?vh34) rfl (by kernel_rfl) (by kernel_rfl) (by kernel_rfl) (fun _ _ _ h => h) (Or.inl ⟨by kernel_rfl, ?yh34⟩) (by assumption) ?_
                      case yh34 => (intro w hSw; (try dsimp only at hSw); go_split_ands; go_simp; try with_reducible rfl)
                      refine wpAnyH_take (i := 8) (v := ?vh35) rfl (by kernel_rfl) (by kernel_rfl) (by kernel_rfl) (fun _ _ _ h => h) (Or.inl ⟨by kernel_rfl, ?yh35⟩) (by assumption) ?_
                      case yh35 => (intro w hSw; (try dsimp only at hSw); go_split_ands; go_simp; try with_reducible rfl)
                      refine wpAnyH_take (i := 9) (v := ?vh36) rfl (by kernel_rfl) (by kernel_rfl) (by kernel_rfl) (fun _ _ _ h => h) (Or.inl ⟨by kernel_rfl, ?yh36⟩) (by assumption) ?_
                      case yh36 => (intro w hSw; (try dsimp only at hSw); go_split_ands; go_simp; try with_reducible rfl)
                      refine wpAnyH_take (i := 10) (v := ?vh37) rfl (by kernel_rfl) (by kernel_rfl) (by kernel_rfl) (fun _ _ _ h => h) (Or.inl ⟨by kernel_rfl, ?yh37⟩) (by assumption) ?_
                      case yh37 => (intro w hSw; (try dsimp only at hSw); go_split_ands; go_simp; try with_reducible rfl)
                      refine wpAnyH_take (i := 11) (v := ?vh38) rfl (by kernel_rfl) (by kernel_rfl) (by kernel_rfl) (fun _ _ _ h => h) (Or.inl ⟨by kernel_rfl, ?yh38⟩) (by assumption) ?_
                      case yh38 => (intro w hSw; (try dsimp only at hSw); go_split_ands; go_simp; try with_reducible rfl)
                      refine wpAnyH_take (i := 12) (v := ?vh39) rfl (by kernel_rfl) (by kernel_rfl) (by kernel_rfl) (fun _ _ _ h => h) (Or.inl ⟨by kernel_rfl, ?yh39⟩) (by assumption) ?_
                      case yh39 => (intro w hSw; (try dsimp only at hSw); go_split_ands; go_simp; try with_reducible rfl)
                      try simp only [Act.put, List.getElem_toArray, List.getElem_cons_succ, List.getElem_cons_zero, List.setIfInBounds_toArray, List.set_cons_zero, List.set_cons_succ]
                      refine wpAnyH_done (by kernel_rfl) ?_ _
                      all_goals
                        go_wp2
                        go_roundw
                        case rel => exact ⟨i + 1, hlt2, by go_num, congrArg Value.bool (decide_eq_true (by rw [HTK.out, HXY.out]; simp)).symm, by first | exact hw.drew | exact hw⟩
                        case measure => simp [intOf]; omega
                    · have hxy1 : (xv == y) = false := by simp [hxy]
                      have HXY := Hid.mk hxy
                      clear hxy
                      go_wp2
                      refine wp_region_held_drew (S := fun u => u.cell? ⟨bx, ox + i, none⟩ = some (.int .i64 xv) ∧ u.cell? ⟨by', oy + k, none⟩ = some (.int .i64 y)) (by kernel_rfl) ⟨cX, cY⟩ (fun hHeld => ?_)
                      refine wpAnyH_take (i := 0) (v := ?vh40) rfl (by kernel_rfl) (by kernel_rfl) (by kernel_rfl) (fun _ _ _ h => h) (Or.inl ⟨by kernel_rfl, ?yh40⟩) (by assumption) ?_
                      case yh40 => (intro w hSw; (try dsimp only at hSw); go_split_ands; go_simp; try with_reducible rfl)
                      refine wpAnyH_take (i := 1) (v := ?vh41) rfl (by kernel_rfl) (by kernel_rfl) (by kernel_rfl) (fun _ _ _ h => h) (Or.inl ⟨by kernel_rfl, ?yh41⟩) (by assumption) ?_
                      case yh41 => (intro w hSw; (try dsimp only at hSw); go_split_ands; go_simp; try with_reducible rfl)
                      refine wpAnyH_take (i := 2) (v := ?vh42) rfl (by kernel_rfl) (by kernel_rfl) (by kernel_rfl) (fun _ _ _ h => h) (Or.inl ⟨by kernel_rfl, ?yh42⟩) (by assumption) ?_
                      case yh42 => (intro w hSw; (try dsimp only at hSw); go_split_ands; go_simp; try with_reducible rfl)
                      refine wpAnyH_take (i := 3) (v := ?vh43) rfl (by kernel_rfl) (by kernel_rfl) (by kernel_rfl) (fun _ _ _ h => h) (Or.inl ⟨by kernel_rfl, ?yh43⟩) (by assumption) ?_
                      case yh43 => (intro w hSw; (try dsimp only at hSw); go_split_ands; go_simp; try with_reducible rfl)
                      refine wpAnyH_take (i := 4) (v := ?vh44) rfl (by kernel_rfl) (by kernel_rfl) (by kernel_rfl) (fun _ _ _ h => h) (Or.inl ⟨by kernel_rfl, ?yh44⟩) (by assumption) ?_
                      case yh44 => (intro w hSw; (try dsimp only at hSw); go_split_ands; go_simp; try with_reducible rfl)
                      refine wpAnyH_take (i := 5) (v := ?vh45) rfl (by kernel_rfl) (by kernel_rfl) (by kernel_rfl) (fun _ _ _ h => h) (Or.inl ⟨by kernel_rfl, ?yh45⟩) (by assumption) ?_
                      case yh45 => (intro w hSw; (try dsimp only at hSw); go_split_ands; go_simp; try with_reducible rfl)
                      refine wpAnyH_take (i := 6) (v := ?vh46) rfl (by kernel_rfl) (by kernel_rfl) (by kernel_rfl) (fun _ _ _ h => h) (Or.inl ⟨by kernel_rfl, ?yh46⟩) (by assumption) ?_
                      case yh46 => (intro w hSw; (try dsimp only at hSw); go_split_ands; go_simp; try with_reducible rfl)
                      refine wpAnyH_take (i := 7) (v := ?vh47) rfl (by kernel_rfl) (by kernel_rfl) (by kernel_rfl) (fun _ _ _ h => h) (Or.inl ⟨by kernel_rfl, ?yh47⟩) (by assumption) ?_
                      case yh47 => (intro w hSw; (try dsimp only at hSw); go_split_ands; go_simp; try with_reducible rfl)
                      refine wpAnyH_take (i := 8) (v := ?vh48) rfl (by kernel_rfl) (by kernel_rfl) (by kernel_rfl) (fun _ _ _ h => h) (Or.inl ⟨by kernel_rfl, ?yh48⟩) (by assumption) ?_
                      case yh48 => (intro w hSw; (try dsimp only at hSw); go_split_ands; go_simp; try with_reducible rfl)
                      refine wpAnyH_take (i := 9) (v := ?vh49) rfl (by kernel_rfl) (by kernel_rfl) (by kernel_rfl) (fun _ _ _ h => h) (Or.inl ⟨by kernel_rfl, ?yh49⟩) (by assumption) ?_
                      case yh49 => (intro w hSw; (try dsimp only at hSw); go_split_ands; go_simp; try with_reducible rfl)
                      refine wpAnyH_take (i := 10) (v := ?vh50) rfl (by kernel_rfl) (by kernel_rfl) (by kernel_rfl) (fun _ _ _ h => h) (Or.inl ⟨by kernel_rfl, ?yh50⟩) (by assumption) ?_
                      case yh50 => (intro w hSw; (try dsimp only at hSw); go_split_ands; go_simp; try with_reducible rfl)
                      refine wpAnyH_take (i := 11) (v := ?vh51) rfl (by kernel_rfl) (by kernel_rfl) (by kernel_rfl) (fun _ _ _ h => h) (Or.inl ⟨by kernel_rfl, ?yh51⟩) (by assumption) ?_
                      case yh51 => (intro w hSw; (try dsimp only at hSw); go_split_ands; go_simp; try with_reducible rfl)
                      refine wpAnyH_take (i := 12) (v := ?vh52) rfl (by kernel_rfl) (by kernel_rfl) (by kernel_rfl) (fun _ _ _ h => h) (Or.inl ⟨by kernel_rfl, ?yh52⟩) (by assumption) ?_
                      case yh52 => (intro w hSw; (try dsimp only at hSw); go_split_ands; go_simp; try with_reducible rfl)
                      try simp only [Act.put, List.getElem_toArray, List.getElem_cons_succ, List.getElem_cons_zero, List.setIfInBounds_toArray, List.set_cons_zero, List.set_cons_succ]
                      refine wpAnyH_done (by kernel_rfl) ?_ _
                      all_goals
                        go_wp2
                        go_roundw
                        case rel => exact ⟨i + 1, hlt2, by go_num, congrArg Value.bool (decide_eq_false (by have hb := HB.out; have hx := HXY.out; rw [HTK.out]; simp only [List.mem_append, List.mem_singleton]; intro h; exact h.elim hb (fun h => hx h.symm))).symm, by first | exact hw.drew | exact hw⟩
                        case measure => simp [intOf]; omega
                · have x1 : ¬ (i : Int) < (n : Int) := by omega
                  have hin : i = n := by omega
                  have hall : I.take i = I := List.take_of_length_le (by rw [HLs.out.1]; omega)
                  rw [hall, decide_eq_true HyG.out.1]
                  clear x1 hall
                  go_wp2
                  go_loopw [14, 16] (fun bv iv wr => ∃ i : Nat, i ≤ g ∧ iv = .int .i64 (i : Int) ∧ bv = .bool (true) ∧ Sm w3 wr) (fun _ iv _ => g - (intOf iv).toNat)
                  case atStart => exact ⟨0, Nat.zero_le _, rfl, rfl, by first | exact hw | exact Sm.refl _⟩
                  case round =>
                    obtain ⟨i, hi, rfl, rfl, hw⟩ := hrel
                    by_cases hlt2 : i < g
                    · have x1 : (i : Int) < (g : Int) := by omega
                      have hiX : i < gone.length := by have := HLs.out.2.2; omega
                      obtain ⟨bx, ox, hqx, cX⟩ := (LG.out.sm hw) i hiX
                      have cY := hw.cell HcY.out
                      have htk := take_app hiX
                      have hxy : gone[i] ≠ y := (fun e => HyG.out.2 (by rw [← e]; exact List.getElem_mem hiX))
                      obtain ⟨xv, hxv⟩ : ∃ x, gone[i] = x := ⟨_, rfl⟩
                      rw [hxv] at cX htk hxy
                      cases hqx
                      have HTK := Hid.mk htk
                      clear htk hxv
                      have hxy1 : (xv != y) = true := by simp [hxy]
                      clear hxy
                      go_wp2
                      refine wp_region_held_drew (S := fun u => u.cell? ⟨bx, ox + i, none⟩ = some (.int .i64 xv) ∧ u.cell? ⟨by', oy + k, none⟩ = some (.int .i64 y)) (by kernel_rfl) ⟨cX, cY⟩ (fun hHeld => ?_)
                      refine wpAnyH_take (i := 0) (v := ?vh14) rfl (by kernel_rfl) (by kernel_rfl) (by kernel_rfl) (fun _ _ _ h => h) (Or.inl ⟨by kernel_rfl, ?yh14⟩) (by assumption) ?_
                      case yh14 => (intro w hSw; (try dsimp only at hSw); go_split_ands; go_simp; try with_reducible rfl)
                      refine wpAnyH_take (i := 1) (v := ?vh15) rfl (by kernel_rfl) (by kernel_rfl) (by kernel_rfl) (fun _ _ _ h => h) (Or.inl ⟨by kernel_rfl, ?yh15⟩) (by assumption) ?_
                      case yh15 => (intro w hSw; (try dsimp only at hSw); go_split_ands; go_simp; try with_reducible rfl)
                      refine wpAnyH_take (i := 2) (v := ?vh16) rfl (by kernel_rfl) (by kernel_rfl) (by kernel_rfl) (fun _ _ _ h => h) (Or.inl ⟨by kernel_rfl, ?yh16⟩) (by assumption) ?_
                      case yh16 => (intro w hSw; (try dsimp only at hSw); go_split_ands; go_simp; try with_reducible rfl)
                      refine wpAnyH_take (i := 3) (v := ?vh17) rfl (by kernel_rfl) (by kernel_rfl) (by kernel_rfl) (fun _ _ _ h => h) (Or.inl ⟨by kernel_rfl, ?yh17⟩) (by assumption) ?_
                      case yh17 => (intro w hSw; (try dsimp only at hSw); go_split_ands; go_simp; try with_reducible rfl)
                      refine wpAnyH_take (i := 4) (v := ?vh18) rfl (by kernel_rfl) (by kernel_rfl) (by kernel_rfl) (fun _ _ _ h => h) (Or.inl ⟨by kernel_rfl, ?yh18⟩) (by assumption) ?_
                      case yh18 => (intro w hSw; (try dsimp only at hSw); go_split_ands; go_simp; try with_reducible rfl)
                      refine wpAnyH_take (i := 5) (v := ?vh19) rfl (by kernel_rfl) (by kernel_rfl) (by kernel_rfl) (fun _ _ _ h => h) (Or.inl ⟨by kernel_rfl, ?yh19⟩) (by assumption) ?_
                      case yh19 => (intro w hSw; (try dsimp only at hSw); go_split_ands; go_simp; try with_reducible rfl)
                      refine wpAnyH_take (i := 6) (v := ?vh20) rfl (by kernel_rfl) (by kernel_rfl) (by kernel_rfl) (fun _ _ _ h => h) (Or.inl ⟨by kernel_rfl, ?yh20⟩) (by assumption) ?_
                      case yh20 => (intro w hSw; (try dsimp only at hSw); go_split_ands; go_simp; try with_reducible rfl)
                      refine wpAnyH_take (i := 7) (v := ?vh21) rfl (by kernel_rfl) (by kernel_rfl) (by kernel_rfl) (fun _ _ _ h => h) (Or.inl ⟨by kernel_rfl, ?yh21⟩) (by assumption) ?_
                      case yh21 => (intro w hSw; (try dsimp only at hSw); go_split_ands; go_simp; try with_reducible rfl)
                      refine wpAnyH_take (i := 8) (v := ?vh22) rfl (by kernel_rfl) (by kernel_rfl) (by kernel_rfl) (fun _ _ _ h => h) (Or.inl ⟨by kernel_rfl, ?yh22⟩) (by assumption) ?_
                      case yh22 => (intro w hSw; (try dsimp only at hSw); go_split_ands; go_simp; try with_reducible rfl)
                      refine wpAnyH_take (i := 9) (v := ?vh23) rfl (by kernel_rfl) (by kernel_rfl) (by kernel_rfl) (fun _ _ _ h => h) (Or.inl ⟨by kernel_rfl, ?yh23⟩) (by assumption) ?_
                      case yh23 => (intro w hSw; (try dsimp only at hSw); go_split_ands; go_simp; try with_reducible rfl)
                      refine wpAnyH_take (i := 10) (v := ?vh24) rfl (by kernel_rfl) (by kernel_rfl) (by kernel_rfl) (fun _ _ _ h => h) (Or.inl ⟨by kernel_rfl, ?yh24⟩) (by assumption) ?_
                      case yh24 => (intro w hSw; (try dsimp only at hSw); go_split_ands; go_simp; try with_reducible rfl)
                      refine wpAnyH_take (i := 11) (v := ?vh25) rfl (by kernel_rfl) (by kernel_rfl) (by kernel_rfl) (fun _ _ _ h => h) (Or.inl ⟨by kernel_rfl, ?yh25⟩) (by assumption) ?_
                      case yh25 => (intro w hSw; (try dsimp only at hSw); go_split_ands; go_simp; try with_reducible rfl)
                      refine wpAnyH_take (i := 12) (v := ?vh26) rfl (by kernel_rfl) (by kernel_rfl) (by kernel_rfl) (fun _ _ _ h => h) (Or.inl ⟨by kernel_rfl, ?yh26⟩) (by assumption) ?_
                      case yh26 => (intro w hSw; (try dsimp only at hSw); go_split_ands; go_simp; try with_reducible rfl)
                      try simp only [Act.put, List.getElem_toArray, List.getElem_cons_succ, List.getElem_cons_zero, List.setIfInBounds_toArray, List.set_cons_zero, List.set_cons_succ]
                      refine wpAnyH_done (by kernel_rfl) ?_ _
                      all_goals
                        go_wp2
                        go_roundw
                        case rel => exact ⟨i + 1, hlt2, by go_num, rfl, by first | exact hw.drew | exact hw⟩
                        case measure => simp [intOf]; omega
                    · have x1 : ¬ (i : Int) < (g : Int) := by omega
                      have hin : i = g := by omega
                      clear x1
                      go_wp2
                      go_loopw [14, 17] (fun bv iv wr => ∃ i : Nat, i ≤ k ∧ iv = .int .i64 (i : Int) ∧ bv = .bool (true) ∧ Sm w3 wr) (fun _ iv _ => k - (intOf iv).toNat)
                      case atStart => exact ⟨0, Nat.zero_le _, rfl, rfl, by first | exact hw | exact Sm.refl _⟩
                      case round =>
                        obtain ⟨i, hi, rfl, rfl, hw⟩ := hrel
                        by_cases hlt2 : i < k
                        · have x1 : (i : Int) < (k : Int) := by omega
                          have hiX : i < D.length := by have := HF.out.2.2.2.1; omega
                          obtain ⟨bx, ox, hqx, cX⟩ := (LD.out.sm hw) i hiX
                          have cY := hw.cell HcY.out
                          have htk := take_app hiX
                          have hxy : D[i] ≠ y := (by have h := List.pairwise_iff_getElem.1 HF.out.2.2.1 i k hiX hkD hlt2; rw [HYk.out] at h; exact h)
                          obtain ⟨xv, hxv⟩ : ∃ x, D[i] = x := ⟨_, rfl⟩
                          rw [hxv] at cX htk hxy
                          cases hqx
                          have HTK := Hid.mk htk
                          clear htk hxv
                          have hxy1 : (xv != y) = true := by simp [hxy]
                          clear hxy
                          have hxd : i < d := by omega
                          have hxd2 : (i : Int) < (d : Int) := by omega
                          go_wp2
                          refine wp_region_held_drew (S := fun u => u.cell? ⟨by', oy + i, none⟩ = some (.int .i64 xv) ∧ u.cell? ⟨by', oy + k, none⟩ = some (.int .i64 y)) (by kernel_rfl) ⟨cX, cY⟩ (fun hHeld => ?_)
                          refine wpAnyH_take (i := 0) (v := ?vh1) rfl (by kernel_rfl) (by kernel_rfl) (by kernel_rfl) (fun _ _ _ h => h) (Or.inl ⟨by kernel_rfl, ?yh1⟩) (by assumption) ?_
                          case yh1 => (intro w hSw; (try dsimp only at hSw); go_split_ands; go_simp; try with_reducible rfl)
                          refine wpAnyH_take (i := 1) (v := ?vh2) rfl (by kernel_rfl) (by kernel_rfl) (by kernel_rfl) (fun _ _ _ h => h) (Or.inl ⟨by kernel_rfl, ?yh2⟩) (by assumption) ?_
                          case yh2 => (intro w hSw; (try dsimp only at hSw); go_split_ands; go_simp; try with_reducible rfl)
                          refine wpAnyH_take (i := 2) (v := ?vh3) rfl (by kernel_rfl) (by kernel_rfl) (by kernel_rfl) (fun _ _ _ h => h) (Or.inl ⟨by kernel_rfl, ?yh3⟩) (by assumption) ?_
                          case yh3 => (intro w hSw; (try dsimp only at hSw); go_split_ands; go_simp; try with_reducible rfl)
                          refine wpAnyH_take (i := 3) (v := ?vh4) rfl (by kernel_rfl) (by kernel_rfl) (by kernel_rfl) (fun _ _ _ h => h) (Or.inl ⟨by kernel_rfl, ?yh4⟩) (by assumption) ?_
                          case yh4 => (intro w hSw; (try dsimp only at hSw); go_split_ands; go_simp; try with_reducible rfl)
                          refine wpAnyH_take (i := 4) (v := ?vh5) rfl (by kernel_rfl) (by kernel_rfl) (by kernel_rfl) (fun _ _ _ h => h) (Or.inl ⟨by kernel_rfl, ?yh5⟩) (by assumption) ?_
                          case yh5 => (intro w hSw; (try dsimp only at hSw); go_split_ands; go_simp; try with_reducible rfl)
                          refine wpAnyH_take (i := 5) (v := ?vh6) rfl (by kernel_rfl) (by kernel_rfl) (by kernel_rfl) (fun _ _ _ h => h) (Or.inl ⟨by kernel_rfl, ?yh6⟩) (by assumption) ?_
                          case yh6 => (intro w hSw; (try dsimp only at hSw); go_split_ands; go_simp; try with_reducible rfl)
                          refine wpAnyH_take (i := 6) (v := ?vh7) rfl (by kernel_rfl) (by kernel_rfl) (by kernel_rfl) (fun _ _ _ h => h) (Or.inl ⟨by kernel_rfl, ?yh7⟩) (by assumption) ?_
                          case yh7 => (intro w hSw; (try dsimp only at hSw); go_split_ands; go_simp; try with_reducible rfl)
                          refine wpAnyH_take (i := 7) (v := ?vh8) rfl (by kernel_rfl) (by kernel_rfl) (by kernel_rfl) (fun _ _ _ h => h) (Or.inl ⟨by kernel_rfl, ?yh8⟩) (by assumption) ?_
                          case yh8 => (intro w hSw; (try dsimp only at hSw); go_split_ands; go_simp; try with_reducible rfl)
                          refine wpAnyH_take (i := 8) (v := ?vh9) rfl (by kernel_rfl) (by kernel_rfl) (by kernel_rfl) (fun _ _ _ h => h) (Or.inl ⟨by kernel_rfl, ?yh9⟩) (by assumption) ?_
                          case yh9 => (intro w hSw; (try dsimp only at hSw); go_split_ands; go_simp; try with_reducible rfl)
                          refine wpAnyH_take (i := 9) (v := ?vh10) rfl (by kernel_rfl) (by kernel_rfl) (by kernel_rfl) (fun _ _ _ h => h) (Or.inl ⟨by kernel_rfl, ?yh10⟩) (by assumption) ?_
                          case yh10 => (intro w hSw; (try dsimp only at hSw); go_split_ands; go_simp; try with_reducible rfl)
                          refine wpAnyH_take (i := 10) (v := ?vh11) rfl (by kernel_rfl) (by kernel_rfl) (by kernel_rfl) (fun _ _ _ h => h) (Or.inl ⟨by kernel_rfl, ?yh11⟩) (by assumption) ?_
                          case yh11 => (intro w hSw; (try dsimp only at hSw); go_split_ands; go_simp; try with_reducible rfl)
                          refine wpAnyH_take (i := 11) (v := ?vh12) rfl (by kernel_rfl) (by kernel_rfl) (by kernel_rfl) (fun _ _ _ h => h) (Or.inl ⟨by kernel_rfl, ?yh12⟩) (by assumption) ?_
                          case yh12 => (intro w hSw; (try dsimp only at hSw); go_split_ands; go_simp; try with_reducible rfl)
                          refine wpAnyH_take (i := 12) (v := ?vh13) rfl (by kernel_rfl) (by kernel_rfl) (by kernel_rfl) (fun _ _ _ h => h) (Or.inl ⟨by kernel_rfl, ?yh13⟩) (by assumption) ?_
                          case yh13 => (intro w hSw; (try dsimp only at hSw); go_split_ands; go_simp; try with_reducible rfl)
                          try simp only [Act.put, List.getElem_toArray, List.getElem_cons_succ, List.getElem_cons_zero, List.setIfInBounds_toArray, List.set_cons_zero, List.set_cons_succ]
                          refine wpAnyH_done (by kernel_rfl) ?_ _
                          all_goals
                            go_wp2
                            go_roundw
                            case rel => exact ⟨i + 1, hlt2, by go_num, rfl, by first | exact hw.drew | exact hw⟩
                            case measure => simp [intOf]; omega
                        · have x1 : ¬ (i : Int) < (k : Int) := by omega
                          have hin : i = k := by omega
                          clear x1
                          go_wp2
                          go_roundw
                          case rel => exact ⟨k + 1, hlt, by go_num, hw⟩
                          case measure => simp [intOf]; omega
            · have y3 : ¬ (k : Int) < (d : Int) := by omega
              go_wp2
              clear y3 hk hlt
              go_loopw [18] (fun kv wr => ∃ k : Nat, k ≤ n ∧ kv = .int .i64 (k : Int) ∧ Sm w3 wr) (fun kv _ => n - (intOf kv).toNat)
              case atStart => exact ⟨0, Nat.zero_le _, rfl, by first | exact hw | exact Sm.refl _⟩
              case round =>
                obtain ⟨k, hk, rfl, hw⟩ := hrel
                by_cases hlt : k < n
                · have y3 : (k : Int) < (n : Int) := by omega
                  have hkI : k < I.length := by rw [HLs.out.1]; exact hlt
                  obtain ⟨by', oy, hqy, cY3⟩ := LI.out k hkI
                  have hyy := HF.out.2.1 _ (List.getElem_mem hkI)
                  obtain ⟨y, hy⟩ : ∃ x, I[k] = x := ⟨_, rfl⟩
                  rw [hy] at cY3 hyy
                  have HcY := Hid.mk cY3
                  clear cY3
                  have HyI := Hid.mk hyy
                  cases hqy
                  clear hyy hy
                  go_wp2
                  go_loopw [19, 20] (fun bv iv wr => ∃ i : Nat, i ≤ d ∧ iv = .int .i64 (i : Int) ∧ bv = .bool (decide (y ∈ D.take i)) ∧ Sm w3 wr) (fun _ iv _ => d - (intOf iv).toNat)
                  case atStart => exact ⟨0, Nat.zero_le _, rfl, by simp, by first | exact hw | exact Sm.refl _⟩
                  case round =>
                    obtain ⟨i, hi, rfl, rfl, hw⟩ := hrel
                    by_cases hlt2 : i < d
                    · have x1 : (i : Int) < (d : Int) := by omega
                      have hiX : i < D.length := by have := HF.out.2.2.2.1; omega
                      obtain ⟨bx, ox, hqx, cX⟩ := (LD.out.sm hw) i hiX
                      have cY := hw.cell HcY.out
                      have htk := take_app hiX
                      obtain ⟨xv, hxv⟩ : ∃ x, D[i] = x := ⟨_, rfl⟩
                      rw [hxv] at cX htk
                      cases hqx
                      have HTK := Hid.mk htk
                      clear htk hxv
                      by_cases hb : y ∈ D.take i
                      · have HB := Hid.mk hb
                        rw [decide_eq_true hb]
                        clear hb
                        go_wp2
                        go_region
                        all_goals
                          go_wp2
                          go_roundw
                          case rel => exact ⟨i + 1, hlt2, by go_num, congrArg Value.bool (decide_eq_true (by have hb := HB.out; rw [HTK.out]; simp only [List.mem_append]; exact Or.inl hb)).symm, by first | exact hw.drew | exact hw⟩
                          case measure => simp [intOf]; omega
                      · have HB := Hid.mk hb
                        rw [decide_eq_false hb]
                        clear hb
                        by_cases hxy : xv = y
                        · have hxy1 : (xv == y) = true := by simp [hxy]
                          have HXY := Hid.mk hxy
                          clear hxy
                          go_wp2
                          refine wp_region_held_drew (S := fun u => u.cell? ⟨bx, ox + i, none⟩ = some (.int .i64 xv) ∧ u.cell? ⟨by', oy + k, none⟩ = some (.int .i64 y)) (by kernel_rfl) ⟨cX, cY⟩ (fun hHeld => ?_)
                          refine wpAnyH_take (i := 0) (v := ?vh79) rfl (by kernel_rfl) (by kernel_rfl) (by kernel_rfl) (fun _ _ _ h => h) (Or.inl ⟨by kernel_rfl, ?yh79⟩) (by assumption) ?_
                          case yh79 => (intro w hSw; (try dsimp only at hSw); go_split_ands; go_simp; try with_reducible rfl)
                          refine wpAnyH_take (i := 1) (v := ?vh80) rfl (by kernel_rfl) (by kernel_rfl) (by kernel_rfl) (fun _ _ _ h => h) (Or.inl ⟨by kernel_rfl, ?yh80⟩) (by assumption) ?_
                          case yh80 => (intro w hSw; (try dsimp only at hSw); go_split_ands; go_simp; try with_reducible rfl)
                          refine wpAnyH_take (i := 2) (v := ?vh81) rfl (by kernel_rfl) (by kernel_rfl) (by kernel_rfl) (fun _ _ _ h => h) (Or.inl ⟨by kernel_rfl, ?yh81⟩) (by assumption) ?_
                          case yh81 => (intro w hSw; (try dsimp only at hSw); go_split_ands; go_simp; try with_reducible rfl)
                          refine wpAnyH_take (i := 3) (v := ?vh82) rfl (by kernel_rfl) (by kernel_rfl) (by kernel_rfl) (fun _ _ _ h => h) (Or.inl ⟨by kernel_rfl, ?yh82⟩) (by assumption) ?_
                          case yh82 => (intro w hSw; (try dsimp only at hSw); go_split_ands; go_simp; try with_reducible rfl)
                          refine wpAnyH_take (i := 4) (v := ?vh83) rfl (by kernel_rfl) (by kernel_rfl) (by kernel_rfl) (fun _ _ _ h => h) (Or.inl ⟨by kernel_rfl, ?yh83⟩) (by assumption) ?_
                          case yh83 => (intro w hSw; (try dsimp only at hSw); go_split_ands; go_simp; try with_reducible rfl)
                          refine wpAnyH_take (i := 5) (v := ?vh84) rfl (by kernel_rfl) (by kernel_rfl) (by kernel_rfl) (fun _ _ _ h => h) (Or.inl ⟨by kernel_rfl, ?yh84⟩) (by assumption) ?_
                          case yh84 => (intro w hSw; (try dsimp only at hSw); go_split_ands; go_simp; try with_reducible rfl)
                          refine wpAnyH_take (i := 6) (v := ?vh85) rfl (by kernel_rfl) (by kernel_rfl) (by kernel_rfl) (fun _ _ _ h => h) (Or.inl ⟨by kernel_rfl, ?yh85⟩) (by assumption) ?_
                          case yh85 => (intro w hSw; (try dsimp only at hSw); go_split_ands; go_simp; try with_reducible rfl)
                          refine wpAnyH_take (i := 7) (v := ?vh86) rfl (by kernel_rfl) (by kernel_rfl) (by kernel_rfl) (fun _ _ _ h => h) (Or.inl ⟨by kernel_rfl, ?yh86⟩) (by assumption) ?_
                          case yh86 => (intro w hSw; (try dsimp only at hSw); go_split_ands; go_simp; try with_reducible rfl)
                          refine wpAnyH_take (i := 8) (v := ?vh87) rfl (by kernel_rfl) (by kernel_rfl) (by kernel_rfl) (fun _ _ _ h => h) (Or.inl ⟨by kernel_rfl, ?yh87⟩) (by assumption) ?_
                          case yh87 => (intro w hSw; (try dsimp only at hSw); go_split_ands; go_simp; try with_reducible rfl)
                          refine wpAnyH_take (i := 9) (v := ?vh88) rfl (by kernel_rfl) (by kernel_rfl) (by kernel_rfl) (fun _ _ _ h => h) (Or.inl ⟨by kernel_rfl, ?yh88⟩) (by assumption) ?_
                          case yh88 => (intro w hSw; (try dsimp only at hSw); go_split_ands; go_simp; try with_reducible rfl)
                          refine wpAnyH_take (i := 10) (v := ?vh89) rfl (by kernel_rfl) (by kernel_rfl) (by kernel_rfl) (fun _ _ _ h => h) (Or.inl ⟨by kernel_rfl, ?yh89⟩) (by assumption) ?_
                          case yh89 => (intro w hSw; (try dsimp only at hSw); go_split_ands; go_simp; try with_reducible rfl)
                          refine wpAnyH_take (i := 11) (v := ?vh90) rfl (by kernel_rfl) (by kernel_rfl) (by kernel_rfl) (fun _ _ _ h => h) (Or.inl ⟨by kernel_rfl, ?yh90⟩) (by assumption) ?_
                          case yh90 => (intro w hSw; (try dsimp only at hSw); go_split_ands; go_simp; try with_reducible rfl)
                          refine wpAnyH_take (i := 12) (v := ?vh91) rfl (by kernel_rfl) (by kernel_rfl) (by kernel_rfl) (fun _ _ _ h => h) (Or.inl ⟨by kernel_rfl, ?yh91⟩) (by assumption) ?_
                          case yh91 => (intro w hSw; (try dsimp only at hSw); go_split_ands; go_simp; try with_reducible rfl)
                          try simp only [Act.put, List.getElem_toArray, List.getElem_cons_succ, List.getElem_cons_zero, List.setIfInBounds_toArray, List.set_cons_zero, List.set_cons_succ]
                          refine wpAnyH_done (by kernel_rfl) ?_ _
                          all_goals
                            go_wp2
                            go_roundw
                            case rel => exact ⟨i + 1, hlt2, by go_num, congrArg Value.bool (decide_eq_true (by rw [HTK.out, HXY.out]; simp)).symm, by first | exact hw.drew | exact hw⟩
                            case measure => simp [intOf]; omega
                        · have hxy1 : (xv == y) = false := by simp [hxy]
                          have HXY := Hid.mk hxy
                          clear hxy
                          go_wp2
                          refine wp_region_held_drew (S := fun u => u.cell? ⟨bx, ox + i, none⟩ = some (.int .i64 xv) ∧ u.cell? ⟨by', oy + k, none⟩ = some (.int .i64 y)) (by kernel_rfl) ⟨cX, cY⟩ (fun hHeld => ?_)
                          refine wpAnyH_take (i := 0) (v := ?vh92) rfl (by kernel_rfl) (by kernel_rfl) (by kernel_rfl) (fun _ _ _ h => h) (Or.inl ⟨by kernel_rfl, ?yh92⟩) (by assumption) ?_
                          case yh92 => (intro w hSw; (try dsimp only at hSw); go_split_ands; go_simp; try with_reducible rfl)
                          refine wpAnyH_take (i := 1) (v := ?vh93) rfl (by kernel_rfl) (by kernel_rfl) (by kernel_rfl) (fun _ _ _ h => h) (Or.inl ⟨by kernel_rfl, ?yh93⟩) (by assumption) ?_
                          case yh93 => (intro w hSw; (try dsimp only at hSw); go_split_ands; go_simp; try with_reducible rfl)
                          refine wpAnyH_take (i := 2) (v := ?vh94) rfl (by kernel_rfl) (by kernel_rfl) (by kernel_rfl) (fun _ _ _ h => h) (Or.inl ⟨by kernel_rfl, ?yh94⟩) (by assumption) ?_
                          case yh94 => (intro w hSw; (try dsimp only at hSw); go_split_ands; go_simp; try with_reducible rfl)
                          refine wpAnyH_take (i := 3) (v := ?vh95) rfl (by kernel_rfl) (by kernel_rfl) (by kernel_rfl) (fun _ _ _ h => h) (Or.inl ⟨by kernel_rfl, ?yh95⟩) (by assumption) ?_
                          case yh95 => (intro w hSw; (try dsimp only at hSw); go_split_ands; go_simp; try with_reducible rfl)
                          refine wpAnyH_take (i := 4) (v := ?vh96) rfl (by kernel_rfl) (by kernel_rfl) (by kernel_rfl) (fun _ _ _ h => h) (Or.inl ⟨by kernel_rfl, ?yh96⟩) (by assumption) ?_
                          case yh96 => (intro w hSw; (try dsimp only at hSw); go_split_ands; go_simp; try with_reducible rfl)
                          refine wpAnyH_take (i := 5) (v := ?vh97) rfl (by kernel_rfl) (by kernel_rfl) (by kernel_rfl) (fun _ _ _ h => h) (Or.inl ⟨by kernel_rfl, ?yh97⟩) (by assumption) ?_
                          case yh97 => (intro w hSw; (try dsimp only at hSw); go_split_ands; go_simp; try with_reducible rfl)
                          refine wpAnyH_take (i := 6) (v := ?vh98) rfl (by kernel_rfl) (by kernel_rfl) (by kernel_rfl) (fun _ _ _ h => h) (Or.inl ⟨by kernel_rfl, ?yh98⟩) (by assumption) ?_
                          case yh98 => (intro w hSw; (try dsimp only at hSw); go_split_ands; go_simp; try with_reducible rfl)
                          refine wpAnyH_take (i := 7) (v := ?vh99) rfl (by kernel_rfl) (by kernel_rfl) (by kernel_rfl) (fun _ _ _ h => h) (Or.inl ⟨by kernel_rfl, ?yh99⟩) (by assumption) ?_
                          case yh99 => (intro w hSw; (try dsimp only at hSw); go_split_ands; go_simp; try with_reducible rfl)
                          refine wpAnyH_take (i := 8) (v := ?vh100) rfl (by kernel_rfl) (by kernel_rfl) (by kernel_rfl) (fun _ _ _ h => h) (Or.inl ⟨by kernel_rfl, ?yh100⟩) (by assumption) ?_
                          case yh100 => (intro w hSw; (try dsimp only at hSw); go_split_ands; go_simp; try with_reducible rfl)
                          refine wpAnyH_take (i := 9) (v := ?vh101) rfl (by kernel_rfl) (by kernel_rfl) (by kernel_rfl) (fun _ _ _ h => h) (Or.inl ⟨by kernel_rfl, ?yh101⟩) (by assumption) ?_
                          case yh101 => (intro w hSw; (try dsimp only at hSw); go_split_ands; go_simp; try with_reducible rfl)
                          refine wpAnyH_take (i := 10) (v := ?vh102) rfl (by kernel_rfl) (by kernel_rfl) (by kernel_rfl) (fun _ _ _ h => h) (Or.inl ⟨by kernel_rfl, ?yh102⟩) (by assumption) ?_
                          case yh102 => (intro w hSw; (try dsimp only at hSw); go_split_ands; go_simp; try with_reducible rfl)
                          refine wpAnyH_take (i := 11) (v := ?vh103) rfl (by kernel_rfl) (by kernel_rfl) (by kernel_rfl) (fun _ _ _ h => h) (Or.inl ⟨by kernel_rfl, ?yh103⟩) (by assumption) ?_
                          case yh103 => (intro w hSw; (try dsimp only at hSw); go_split_ands; go_simp; try with_reducible rfl)
                          refine wpAnyH_take (i := 12) (v := ?vh104) rfl (by kernel_rfl) (by kernel_rfl) (by kernel_rfl) (fun _ _ _ h => h) (Or.inl ⟨by kernel_rfl, ?yh104⟩) (by assumption) ?_
                          case yh104 => (intro w hSw; (try dsimp only at hSw); go_split_ands; go_simp; try with_reducible rfl)
                          try simp only [Act.put, List.getElem_toArray, List.getElem_cons_succ, List.getElem_cons_zero, List.setIfInBounds_toArray, List.set_cons_zero, List.set_cons_succ]
                          refine wpAnyH_done (by kernel_rfl) ?_ _
                          all_goals
                            go_wp2
                            go_roundw
                            case rel => exact ⟨i + 1, hlt2, by go_num, congrArg Value.bool (decide_eq_false (by have hb := HB.out; have hx := HXY.out; rw [HTK.out]; simp only [List.mem_append, List.mem_singleton]; intro h; exact h.elim hb (fun h => hx h.symm))).symm, by first | exact hw.drew | exact hw⟩
                            case measure => simp [intOf]; omega
                    · have x1 : ¬ (i : Int) < (d : Int) := by omega
                      have hin : i = d := by omega
                      have hall : D.take i = D := List.take_of_length_le (by rw [HF.out.2.2.2.1]; omega)
                      rw [hall]
                      clear x1 hall
                      go_wp2
                      go_loopw [19, 21] (fun bv iv wr => ∃ i : Nat, i ≤ g ∧ iv = .int .i64 (i : Int) ∧ bv = .bool (decide (y ∈ D ∨ y ∈ gone.take i)) ∧ Sm w3 wr) (fun _ iv _ => g - (intOf iv).toNat)
                      case atStart => exact ⟨0, Nat.zero_le _, rfl, by simp, by first | exact hw | exact Sm.refl _⟩
                      case round =>
                        obtain ⟨i, hi, rfl, rfl, hw⟩ := hrel
                        by_cases hlt2 : i < g
                        · have x1 : (i : Int) < (g : Int) := by omega
                          have hiX : i < gone.length := by have := HLs.out.2.2; omega
                          obtain ⟨bx, ox, hqx, cX⟩ := (LG.out.sm hw) i hiX
                          have cY := hw.cell HcY.out
                          have htk := take_app hiX
                          obtain ⟨xv, hxv⟩ : ∃ x, gone[i] = x := ⟨_, rfl⟩
                          rw [hxv] at cX htk
                          cases hqx
                          have HTK := Hid.mk htk
                          clear htk hxv
                          by_cases hb : y ∈ D ∨ y ∈ gone.take i
                          · have HB := Hid.mk hb
                            rw [decide_eq_true hb]
                            clear hb
                            go_wp2
                            go_region
                            all_goals
                              go_wp2
                              go_roundw
                              case rel => exact ⟨i + 1, hlt2, by go_num, congrArg Value.bool (decide_eq_true (by have hb := HB.out; rw [HTK.out]; simp only [List.mem_append]; exact hb.elim Or.inl (fun h => Or.inr (Or.inl h)))).symm, by first | exact hw.drew | exact hw⟩
                              case measure => simp [intOf]; omega
                          · have HB := Hid.mk hb
                            rw [decide_eq_false hb]
                            clear hb
                            by_cases hxy : xv = y
                            · have hxy1 : (xv == y) = true := by simp [hxy]
                              have HXY := Hid.mk hxy
                              clear hxy
                              go_wp2
                              refine wp_region_held_drew (S := fun u => u.cell? ⟨bx, ox + i, none⟩ = some (.int .i64 xv) ∧ u.cell? ⟨by', oy + k, none⟩ = some (.int .i64 y)) (by kernel_rfl) ⟨cX, cY⟩ (fun hHeld => ?_)
                              refine wpAnyH_take (i := 0) (v := ?vh53) rfl (by kernel_rfl) (by kernel_rfl) (by kernel_rfl) (fun _ _ _ h => h) (Or.inl ⟨by kernel_rfl, ?yh53⟩) (by assumption) ?_
                              case yh53 => (intro w hSw; (try dsimp only at hSw); go_split_ands; go_simp; try with_reducible rfl)
                              refine wpAnyH_take (i := 1) (v := ?vh54) rfl (by kernel_rfl) (by kernel_rfl) (by kernel_rfl) (fun _ _ _ h => h) (Or.inl ⟨by kernel_rfl, ?yh54⟩) (by assumption) ?_
                              case yh54 => (intro w hSw; (try dsimp only at hSw); go_split_ands; go_simp; try with_reducible rfl)
                              refine wpAnyH_take (i := 2) (v := ?vh55) rfl (by kernel_rfl) (by kernel_rfl) (by kernel_rfl) (fun _ _ _ h => h) (Or.inl ⟨by kernel_rfl, ?yh55⟩) (by assumption) ?_
                              case yh55 => (intro w hSw; (try dsimp only at hSw); go_split_ands; go_simp; try with_reducible rfl)
                              refine wpAnyH_take (i := 3) (v := ?vh56) rfl (by kernel_rfl) (by kernel_rfl) (by kernel_rfl) (fun _ _ _ h => h) (Or.inl ⟨by kernel_rfl, ?yh56⟩) (by assumption) ?_
                              case yh56 => (intro w hSw; (try dsimp only at hSw); go_split_ands; go_simp; try with_reducible rfl)
                              refine wpAnyH_take (i := 4) (v := ?vh57) rfl (by kernel_rfl) (by kernel_rfl) (by kernel_rfl) (fun _ _ _ h => h) (Or.inl ⟨by kernel_rfl, ?yh57⟩) (by assumption) ?_
                              case yh57 => (intro w hSw; (try dsimp only at hSw); go_split_ands; go_simp; try with_reducible rfl)
                              refine wpAnyH_take (i := 5) (v := ?vh58) rfl (by kernel_rfl) (by kernel_rfl) (by kernel_rfl) (fun _ _ _ h => h) (Or.inl ⟨by kernel_rfl, ?yh58⟩) (by assumption) ?_
                              case yh58 => (intro w hSw; (try dsimp only at hSw); go_split_ands; go_simp; try with_reducible rfl)
                              refine wpAnyH_take (i := 6) (v := ?vh59) rfl (by kernel_rfl) (by kernel_rfl) (by kernel_rfl) (fun _ _ _ h => h) (Or.inl ⟨by kernel_rfl, ?yh59⟩) (by assumption) ?_
                              case yh59 => (intro w hSw; (try dsimp only at hSw); go_split_ands; go_simp; try with_reducible rfl)
                              refine wpAnyH_take (i := 7) (v := ?vh60) rfl (by kernel_rfl) (by kernel_rfl) (by kernel_rfl) (fun _ _ _ h => h) (Or.inl ⟨by kernel_rfl, ?yh60⟩) (by assumption) ?_
                              case yh60 => (intro w hSw; (try dsimp only at hSw); go_split_ands; go_simp; try with_reducible rfl)
                              refine wpAnyH_take (i := 8) (v := ?vh61) rfl (by kernel_rfl) (by kernel_rfl) (by kernel_rfl) (fun _ _ _ h => h) (Or.inl ⟨by kernel_rfl, ?yh61⟩) (by assumption) ?_
                              case yh61 => (intro w hSw; (try dsimp only at hSw); go_split_ands; go_simp; try with_reducible rfl)
                              refine wpAnyH_take (i := 9) (v := ?vh62) rfl (by kernel_rfl) (by kernel_rfl) (by kernel_rfl) (fun _ _ _ h => h) (Or.inl ⟨by kernel_rfl, ?yh62⟩) (by assumption) ?_
                              case yh62 => (intro w hSw; (try dsimp only at hSw); go_split_ands; go_simp; try with_reducible rfl)
                              refine wpAnyH_take (i := 10) (v := ?vh63) rfl (by kernel_rfl) (by kernel_rfl) (by kernel_rfl) (fun _ _ _ h => h) (Or.inl ⟨by kernel_rfl, ?yh63⟩) (by assumption) ?_
                              case yh63 => (intro w hSw; (try dsimp only at hSw); go_split_ands; go_simp; try with_reducible rfl)
                              refine wpAnyH_take (i := 11) (v := ?vh64) rfl (by kernel_rfl) (by kernel_rfl) (by kernel_rfl) (fun _ _ _ h => h) (Or.inl ⟨by kernel_rfl, ?yh64⟩) (by assumption) ?_
                              case yh64 => (intro w hSw; (try dsimp only at hSw); go_split_ands; go_simp; try with_reducible rfl)
                              refine wpAnyH_take (i := 12) (v := ?vh65) rfl (by kernel_rfl) (by kernel_rfl) (by kernel_rfl) (fun _ _ _ h => h) (Or.inl ⟨by kernel_rfl, ?yh65⟩) (by assumption) ?_
                              case yh65 => (intro w hSw; (try dsimp only at hSw); go_split_ands; go_simp; try with_reducible rfl)
                              try simp only [Act.put, List.getElem_toArray, List.getElem_cons_succ, List.getElem_cons_zero, List.setIfInBounds_toArray, List.set_cons_zero, List.set_cons_succ]
                              refine wpAnyH_done (by kernel_rfl) ?_ _
                              all_goals
                                go_wp2
                                go_roundw
                                case rel => exact ⟨i + 1, hlt2, by go_num, congrArg Value.bool (decide_eq_true (by rw [HTK.out, HXY.out]; simp)).symm, by first | exact hw.drew | exact hw⟩
                                case measure => simp [intOf]; omega
                            · have hxy1 : (xv == y) = false := by simp [hxy]
                              have HXY := Hid.mk hxy
                              clear hxy
                              go_wp2
                              refine wp_region_held_drew (S := fun u => u.cell? ⟨bx, ox + i, none⟩ = some (.int .i64 xv) ∧ u.cell? ⟨by', oy + k, none⟩ = some (.int .i64 y)) (by kernel_rfl) ⟨cX, cY⟩ (fun hHeld => ?_)
                              refine wpAnyH_take (i := 0) (v := ?vh66) rfl (by kernel_rfl) (by kernel_rfl) (by kernel_rfl) (fun _ _ _ h => h) (Or.inl ⟨by kernel_rfl, ?yh66⟩) (by assumption) ?_
                              case yh66 => (intro w hSw; (try dsimp only at hSw); go_split_ands; go_simp; try with_reducible rfl)
                              refine wpAnyH_take (i := 1) (v := ?vh67) rfl (by kernel_rfl) (by kernel_rfl) (by kernel_rfl) (fun _ _ _ h => h) (Or.inl ⟨by kernel_rfl, ?yh67⟩) (by assumption) ?_
                              case yh67 => (intro w hSw; (try dsimp only at hSw); go_split_ands; go_simp; try with_reducible rfl)
                              refine wpAnyH_take (i := 2) (v := ?vh68) rfl (by kernel_rfl) (by kernel_rfl) (by kernel_rfl) (fun _ _ _ h => h) (Or.inl ⟨by kernel_rfl, ?yh68⟩) (by assumption) ?_
                              case yh68 => (intro w hSw; (try dsimp only at hSw); go_split_ands; go_simp; try with_reducible rfl)
                              refine wpAnyH_take (i := 3) (v := ?vh69) rfl (by kernel_rfl) (by kernel_rfl) (by kernel_rfl) (fun _ _ _ h => h) (Or.inl ⟨by kernel_rfl, ?yh69⟩) (by assumption) ?_
                              case yh69 => (intro w hSw; (try dsimp only at hSw); go_split_ands; go_simp; try with_reducible rfl)
                              refine wpAnyH_take (i := 4) (v := ?vh70) rfl (by kernel_rfl) (by kernel_rfl) (by kernel_rfl) (fun _ _ _ h => h) (Or.inl ⟨by kernel_rfl, ?yh70⟩) (by assumption) ?_
                              case yh70 => (intro w hSw; (try dsimp only at hSw); go_split_ands; go_simp; try with_reducible rfl)
                              refine wpAnyH_take (i := 5) (v := ?vh71) rfl (by kernel_rfl) (by kernel_rfl) (by kernel_rfl) (fun _ _ _ h => h) (Or.inl ⟨by kernel_rfl, ?yh71⟩) (by assumption) ?_
                              case yh71 => (intro w hSw; (try dsimp only at hSw); go_split_ands; go_simp; try with_reducible rfl)
                              refine wpAnyH_take (i := 6) (v := ?vh72) rfl (by kernel_rfl) (by kernel_rfl) (by kernel_rfl) (fun _ _ _ h => h) (Or.inl ⟨by kernel_rfl, ?yh72⟩) (by assumption) ?_
                              case yh72 => (intro w hSw; (try dsimp only at hSw); go_split_ands; go_simp; try with_reducible rfl)
                              refine wpAnyH_take (i := 7) (v := ?vh73) rfl (by kernel_rfl) (by kernel_rfl) (by kernel_rfl) (fun _ _ _ h => h) (Or.inl ⟨by kernel_rfl, ?yh73⟩) (by assumption) ?_
                              case yh73 => (intro w hSw; (try dsimp only at hSw); go_split_ands; go_simp; try with_reducible rfl)
                              refine wpAnyH_take (i := 8) (v := ?vh74) rfl (by kernel_rfl) (by kernel_rfl) (by kernel_rfl) (fun _ _ _ h => h) (Or.inl ⟨by kernel_rfl, ?yh74⟩) (by assumption) ?_
                              case yh74 => (intro w hSw; (try dsimp only at hSw); go_split_ands; go_simp; try with_reducible rfl)
                              refine wpAnyH_take (i := 9) (v := ?vh75) rfl (by kernel_rfl) (by kernel_rfl) (by kernel_rfl) (fun _ _ _ h => h) (Or.inl ⟨by kernel_rfl, ?yh75⟩) (by assumption) ?_
                              case yh75 => (intro w hSw; (try dsimp only at hSw); go_split_ands; go_simp; try with_reducible rfl)
                              refine wpAnyH_take (i := 10) (v := ?vh76) rfl (by kernel_rfl) (by kernel_rfl) (by kernel_rfl) (fun _ _ _ h => h) (Or.inl ⟨by kernel_rfl, ?yh76⟩) (by assumption) ?_
                              case yh76 => (intro w hSw; (try dsimp only at hSw); go_split_ands; go_simp; try with_reducible rfl)
                              refine wpAnyH_take (i := 11) (v := ?vh77) rfl (by kernel_rfl) (by kernel_rfl) (by kernel_rfl) (fun _ _ _ h => h) (Or.inl ⟨by kernel_rfl, ?yh77⟩) (by assumption) ?_
                              case yh77 => (intro w hSw; (try dsimp only at hSw); go_split_ands; go_simp; try with_reducible rfl)
                              refine wpAnyH_take (i := 12) (v := ?vh78) rfl (by kernel_rfl) (by kernel_rfl) (by kernel_rfl) (fun _ _ _ h => h) (Or.inl ⟨by kernel_rfl, ?yh78⟩) (by assumption) ?_
                              case yh78 => (intro w hSw; (try dsimp only at hSw); go_split_ands; go_simp; try with_reducible rfl)
                              try simp only [Act.put, List.getElem_toArray, List.getElem_cons_succ, List.getElem_cons_zero, List.setIfInBounds_toArray, List.set_cons_zero, List.set_cons_succ]
                              refine wpAnyH_done (by kernel_rfl) ?_ _
                              all_goals
                                go_wp2
                                go_roundw
                                case rel => exact ⟨i + 1, hlt2, by go_num, congrArg Value.bool (decide_eq_false (by have hb := HB.out; have hx := HXY.out; rw [HTK.out]; simp only [List.mem_append, List.mem_singleton]; intro h; exact h.elim (fun h => hb (Or.inl h)) (fun h => h.elim (fun h => hb (Or.inr h)) (fun h => hx h.symm)))).symm, by first | exact hw.drew | exact hw⟩
                                case measure => simp [intOf]; omega
                        · have x1 : ¬ (i : Int) < (g : Int) := by omega
                          have hin : i = g := by omega
                          have hall : gone.take i = gone := List.take_of_length_le (by rw [HLs.out.2.2]; omega)
                          rw [hall, decide_eq_true HyI.out]
                          clear x1 hall
                          go_wp2
                          go_roundw
                          case rel => exact ⟨k + 1, hlt, by go_num, hw⟩
                          case measure => simp [intOf]; omega
                · have y3 : ¬ (k : Int) < (n : Int) := by omega
                  go_wp2_with fail
                  refine (HL3.out _ hw).mono ?_
                  rintro e w5 ⟨rfl, rfl⟩
                  go_wp2
                  go_ret
                  exact ⟨rfl, HF.out.2.2.2.2.trans (hw.below _)⟩

end Go.Proofs.Ytdgkknjmhdmlfaa
