/- Layer 12: a timer's Due. -/
import Derived.Test.YtdgkknjmhdmlfaaTiTim
namespace Go.Proofs.Ytdgkknjmhdmlfaa
set_option linter.unusedVariables false
open Go.RowKit
open Go.MapKept Go.WideMaps

theorem infoI : (Try.prog.info? 3).map (fun i => (i.zero, i.size, i.bytes)) = some (some (.int .i64 0), 1, 8) := by kernel_rfl
def iApp (a : Array Value) : Sem Value := Builtin.append_ #[41, 41] 41 a
theorem app_i (a : Array Value) : Builtin.append_ #[41, 41] 41 a = iApp a := rfl
def ic (l : List Int) : List Value := l.map fun n => .int .i64 n
theorem add_zero_on (b j : Nat) : (⟨b, 0, none⟩ : Addr).add j = ⟨b, j, none⟩ := by
  unfold Addr.add
  by_cases h : j = 0
  · subst h; rfl
  · simp [h]
/-- one int more behind a row of one's own. -/
theorem iapp {W : World} {B : Nat} {v : Value} {k : Nat} {l : List Value} (hr : W.ownsRow B 3 1 v k l) (hk : k ≤ 100000) (hB : B ≤ W.heap.size) (n : Int) :
    ∃ v' w', (iApp #[v, .slice (some ⟨W.heap.size, 0, none⟩) 1 1]).run Try.prog (W.alloc (.cells #[.int .i64 n] 3 (0, 0))) = .ok v' w' ∧ w'.ownsRow B 3 1 v' (k + 1) (l ++ [.int .i64 n]) ∧
      (W.alloc (.cells #[.int .i64 n] 3 (0, 0))).grownBy w' v.ownBlock := by
  obtain ⟨i0, hi, hz0, hz1, hz2⟩ := info_parts infoI
  have hnew := heap_alloc_last W (.cells #[.int .i64 n] 3 (0, 0))
  obtain ⟨v', w', h1, h2, h3, _⟩ := run_append_own (P := Try.prog) (W.alloc (.cells #[.int .i64 n] 3 (0, 0))) B 41 41 3 i0 _ 1 8 Try.underlying41 hi hz0 hz1 hz2 rfl (by decide) v k l (hr.alloc _) ⟨W.heap.size, 0, none⟩ 1 1 [.int .i64 n] rfl (fun j u hu => by
      have hj : j = 0 := by
        have := (List.getElem?_eq_some_iff.1 hu).1
        simp at this; omega
      subst hj
      rw [add_zero_on]
      refine cell_of_heap hnew ?_
      rw [← hu]; rfl) (by simp [Value.oneCell']) (by unfold maxLen; omega) (by omega) (by simp; omega)
  exact ⟨v', w', h1, h2, h3⟩
theorem ic_app (l : List Int) (n : Int) : ic (l ++ [n]) = ic l ++ [.int .i64 n] := by simp [ic]
theorem Fr.row {N : Nat} {w w' : World} (h : Fr N w w') {base e size k : Nat} {v : Value} {xs : List Value} (hr : w.ownsRow base e size v k xs) (h1 : e ≠ 69) (h2 : e ≠ 74) : w'.ownsRow base e size v k xs := by
  obtain ⟨hl, h0 | ⟨g, cap, cur, hv, hb, hg, r⟩⟩ := hr
  · exact ⟨hl, .inl h0⟩
  · exact ⟨hl, .inr ⟨g, cap, cur, hv, hb, h.typ g _ e _ hg h1 h2, r⟩⟩
theorem row_slice {W : World} {base e size k : Nat} {v : Value} {xs : List Value} (h : W.ownsRow base e size v k xs) : ∃ q cap, v = .slice q k cap := by
  rcases h.2 with ⟨rfl, rfl⟩ | ⟨g, cap, cur, hv, _⟩
  · exact ⟨none, 0, rfl⟩
  · exact ⟨_, _, hv⟩

/-- a timer stays where a row of ints grows. -/
theorem Tk.grown {N : Nat} {w w' : World} {T : Nat} {xs : List En} {B k : Nat} {v : Value} {l : List Value} (h : Tk N w T xs) (hr : w.ownsRow B 3 1 v k l) (hg : w.grownBy w' v.ownBlock) : Tk N w' T xs := by
  obtain ⟨M, u, h, hh⟩ := h
  refine ⟨M, u, ⟨h.nT, h.nM, ?_, ?_, ?_, h.nd, h.rng, h.len⟩, hh⟩
  · exact (hg.block T (blk_lt h.tb) (row_far hr (fun c f e => by rw [h.tb] at e; cases e))).trans h.tb
  · obtain ⟨hl, h0 | ⟨g, cap, cur, hv, hb, hgg, r⟩⟩ := h.row
    · exact ⟨hl, .inl h0⟩
    · exact ⟨hl, .inr ⟨g, cap, cur, hv, hb, (hg.block g (blk_lt hgg) (row_far hr (fun c f e => by rw [hgg] at e; cases e))).trans hgg, r⟩⟩
  · obtain ⟨es, cl, hm⟩ := h.mp.isMap
    exact h.mp.same (hg.block M (blk_lt hm) (row_far hr (fun c f e => by rw [hm] at e; cases e)))

/-- what is due, one behind the other. -/
structure DueI (xs ds rest : List En) (now : Int) : Prop where
  perm : (ds ++ rest).Perm xs
  ord : ds.Pairwise lt
  low : ∀ d ∈ ds, ∀ e ∈ rest, lt d e
  at' : ∀ d ∈ ds, d.2 ≤ now
theorem DueI.init (xs : List En) (now : Int) : DueI xs [] xs now := ⟨List.Perm.refl _, List.Pairwise.nil, by simp, by simp⟩
theorem DueI.step {xs ds rest ys : List En} {x : En} {now : Int} (h : DueI xs ds (x :: rest) now) (hp : (x :: ys).Perm (x :: rest)) (hl : x.2 ≤ now) (hx : ∀ e ∈ ys, lt x e) : DueI xs (ds ++ [x]) ys now := by
  refine ⟨?_, ?_, ?_, ?_⟩
  · refine List.Perm.trans ?_ h.perm
    rw [List.append_assoc]
    exact List.Perm.append_left ds hp
  · rw [List.pairwise_append]
    refine ⟨h.ord, by simp, fun a ha b hb => ?_⟩
    simp at hb
    subst hb
    exact h.low a ha b (by simp)
  · intro d hd e he
    rcases List.mem_append.1 hd with hd | hd
    · exact h.low d hd e (hp.mem_iff.1 (List.mem_cons_of_mem _ he))
    · simp at hd; subst hd; exact hx e he
  · intro d hd
    rcases List.mem_append.1 hd with hd | hd
    · exact h.at' d hd
    · simp at hd; subst hd; exact hl
/-- the first of a heap comes ahead of all others. -/
theorem first_lt {x : En} {rest ys : List En} (hh : Hp (x :: rest) (x :: rest).length) (nd : ((x :: rest).map Prod.fst).Nodup) (hp : (x :: ys).Perm (x :: rest)) : ∀ e ∈ ys, lt x e := fun e he => by
  have he2 : e ∈ rest := hp.cons_inv.mem_iff.1 he
  obtain ⟨i, hi, hie⟩ := List.getElem_of_mem he2
  have h1 := hh.least (i + 1) (by simpa using hi)
  rw [A_lt (by simpa using hi), A_lt (by simp)] at h1
  simp only [List.getElem_cons_succ, List.getElem_cons_zero, hie] at h1
  apply Classical.byContradiction
  intro hn
  have := lt_total h1 hn
  rw [List.map_cons] at nd
  have nd2 := List.nodup_cons.1 nd
  exact nd2.1 (by rw [← this]; exact List.mem_map_of_mem he2)
theorem all_late {x : En} {rest : List En} {now : Int} (hh : Hp (x :: rest) (x :: rest).length) (hl : ¬ x.2 ≤ now) : ∀ e ∈ x :: rest, now < e.2 := fun e he => by
  obtain ⟨i, hi, hie⟩ := List.getElem_of_mem he
  have h1 := hh.least i hi
  rw [A_lt hi, A_lt (by simp), hie] at h1
  simp only [List.getElem_cons_zero] at h1
  unfold lt at h1
  omega

def lenOf : Value → Nat | .slice _ n _ => n | _ => 0
/-- behind Due. -/
def DueP (N : Nat) (w : World) (T : Nat) (xs : List En) (now : Int) (e : Ending) (w' : World) : Prop :=
  ∃ (v : Value) (ds rest : List En), e = .returned v ∧ w'.ownsRow w.heap.size 3 1 v ds.length (ic (ds.map Prod.fst)) ∧ Tk N w' T rest ∧ DueI xs ds rest now ∧ (∀ e ∈ rest, now < e.2) ∧ Fr N w w'
section
attribute [local go_sem ↓] app_i
set_option maxRecDepth 100000 in
set_option maxHeartbeats 4000000 in
theorem due_in {N : Nat} {w : World} {T : Nat} {xs : List En} (h : Tk N w T xs) (now : Int) (w1 : W64 now) :
    Calls Try.prog 17 #[pt T, .int .i64 now] w (DueP N w T xs now) := by
  have HN := Hid.mk (next_in h)
  have H0 := Hid.mk h
  have HL : Hid (xs.length ≤ 1000) := h.len
  clear h
  obtain ⟨a0, b0, c0, hnx⟩ : ∃ a b c, nx xs = (a, b, c) := ⟨_, _, _, rfl⟩
  rw [hnx] at HN
  simp only at HN
  have HX := Hid.mk hnx
  clear hnx
  go_enter Try.func17, Try.ntmps17
  go_wp2_with fail
  refine HN.out.mono ?_
  rintro e w1 ⟨rfl, b1⟩
  have HB := Hid.mk b1
  clear b1
  go_wp2
  go_loopw [5, 6, 7, 8] (fun v5 v6 v7 v8 wr => ∃ (ds rest : List En) (a b : Int) (c : Bool), v6 = .int .i64 a ∧ v7 = .int .i64 b ∧ v8 = .bool c ∧ nx rest = (a, b, c) ∧ wr.ownsRow w.heap.size 3 1 v5 ds.length (ic (ds.map Prod.fst)) ∧ Tk N wr T rest ∧ DueI xs ds rest now ∧ Fr N w wr) (fun v5 _ _ _ _ => 1000 - lenOf v5)
  case atStart => exact ⟨[], xs, a0, b0, c0, rfl, rfl, rfl, HX.out, World.ownsRow_nil .., H0.out.blk HB.out, DueI.init _ _, Fr.below HB.out H0.out.base⟩
  case round =>
    obtain ⟨ds, rest, a, b, c, rfl, rfl, rfl, hnx, hrow, hT, hI, hF⟩ := hrel
    cases rest with
    | nil =>
      obtain ⟨rfl, rfl, rfl⟩ : (0 : Int) = a ∧ (0 : Int) = b ∧ false = c := by simpa [nx] using hnx
      have HR : Hid (∃ (ds rest : List En), wr.ownsRow w.heap.size 3 1 u5 ds.length (ic (ds.map Prod.fst)) ∧ Tk N wr T rest ∧ DueI xs ds rest now ∧ (∀ e ∈ rest, now < e.2) ∧ Fr N w wr) := ⟨ds, [], hrow, hT, hI, by simp, hF⟩
      clear hnx hrow hT hI hF
      go_wp2
      go_ret
      obtain ⟨ds, rest, hR⟩ := HR.out
      exact ⟨_, ds, rest, rfl, hR⟩
    | cons x rest =>
      obtain ⟨xi, xa⟩ := x
      obtain ⟨rfl, rfl, rfl⟩ : xi = a ∧ xa = b ∧ true = c := by simpa [nx] using hnx
      by_cases hl : xa ≤ now
      · obtain ⟨M, vv, hTm, hh⟩ := hT
        have HP := Hid.mk (hpop_in hTm hh (by simp))
        have hlen : ds.length < 1000 := by
          have e1 := hI.perm.length_eq
          have e2 := HL.out
          rw [List.length_append, List.length_cons] at e1
          omega
        have HI := Hid.mk (And.intro hI (And.intro (hh) (And.intro hTm.nd hF)))
        have HRow := Hid.mk hrow
        obtain ⟨q5, cap5, hu5⟩ := row_slice hrow
        subst hu5
        clear hnx hrow hI hF hTm hh
        go_wp2_with fail
        refine HP.out.mono ?_
        rintro e w2 ⟨rfl, M2, v2, ys, t2, p2, h2, f2⟩
        have hr2 := f2.row HRow.out (by decide) (by decide)
        have hsz2 : w.heap.size ≤ w2.heap.size := Nat.le_trans HI.out.2.2.2.size f2.size
        obtain ⟨v3, w3, r3, hr3, g3⟩ := iapp hr2 (by omega) hsz2 xi
        have hk2 : Tk N w2 T ys := ⟨M2, v2, t2, h2⟩
        have hb3 : Below w2.heap.size w2 (w2.alloc (.cells #[.int .i64 xi] 3 (0, 0))) := (Below.refl _ _).alloc (Nat.le_refl _) _
        have hk3 : Tk N w3 T ys := (hk2.blk hb3).grown (hr2.alloc _) g3
        have hF3 : Fr N w w3 := by
          have hB := fun (k : Nat) (e : (Value.slice q5 ds.length cap5).ownBlock = some k) => row_base hr2 e.symm
          have fw2 := HI.out.2.2.2.trans f2
          refine ⟨fw2.bel.trans (((Below.refl N w2).alloc t2.base _).grown g3 (Nat.le_trans t2.base (by simp)) (fun k e => Nat.le_trans H0.out.base (hB k e))), fun b c t f hb h1 h2 => ?_⟩
          have hbw := blk_lt hb
          rw [g3.block b (by simp; omega) (fun e => by have := hB b e.symm; omega), Below.heap_alloc _ _ _ (by omega)]
          exact fw2.typ b c t f hb h1 h2
        have HN2 := Hid.mk (next_in hk3)
        obtain ⟨a2, b2, c2, hnx2⟩ : ∃ a b c, nx ys = (a, b, c) := ⟨_, _, _, rfl⟩
        rw [hnx2] at HN2
        simp only at HN2
        have hA0 : A ((xi, xa) :: rest) 0 = (xi, xa) := rfl
        rw [hA0] at p2
        have HD : Hid (DueI xs (ds ++ [(xi, xa)]) ys now) := HI.out.1.step p2 hl (first_lt HI.out.2.1 HI.out.2.2.1 p2)
        have hr3' : w3.ownsRow w.heap.size 3 1 v3 (ds ++ [(xi, xa)]).length (ic ((ds ++ [(xi, xa)]).map Prod.fst)) := by
          rw [List.map_append, List.length_append]
          simp only [List.map_cons, List.map_nil, ic_app]
          exact hr3
        have HK := Hid.mk (And.intro hr3' (And.intro hk3 (And.intro hF3 hnx2)))
        obtain ⟨q3, cap3, hv3⟩ := row_slice hr3
        subst hv3
        clear hsz2 hr2 hr3 g3 hk2 hb3 hk3 hF3 hnx2 p2 h2 t2 f2 hr3' hA0
        go_wp2_with fail
        refine HN2.out.mono ?_
        rintro e w4 ⟨rfl, b4⟩
        have HE : Hid (w4.ownsRow w.heap.size 3 1 (.slice q3 (ds.length + 1) cap3) (ds ++ [(xi, xa)]).length (ic ((ds ++ [(xi, xa)]).map Prod.fst)) ∧ Tk N w4 T ys ∧ Fr N w w4) := ⟨row_below HK.out.1 b4, HK.out.2.1.blk b4, HK.out.2.2.1.trans (Fr.below b4 HK.out.2.1.base)⟩
        clear b4
        go_wp2
        go_roundw
        case rel => exact ⟨ds ++ [(xi, xa)], ys, a2, b2, c2, rfl, rfl, rfl, HK.out.2.2.2, HE.out.1, HE.out.2.1, HD.out, HE.out.2.2⟩
        case measure => simp [lenOf]; omega
      · have HR : Hid (∃ (ds rest : List En), wr.ownsRow w.heap.size 3 1 u5 ds.length (ic (ds.map Prod.fst)) ∧ Tk N wr T rest ∧ DueI xs ds rest now ∧ (∀ e ∈ rest, now < e.2) ∧ Fr N w wr) := by
          obtain ⟨M, vv, hTm, hh⟩ := hT
          exact ⟨ds, (xi, xa) :: rest, hrow, ⟨M, vv, hTm, hh⟩, hI, all_late hh hl, hF⟩
        clear hnx hrow hT hI hF
        go_wp2
        go_ret
        obtain ⟨ds, rest, hR⟩ := HR.out
        exact ⟨_, ds, rest, rfl, hR⟩
end

end Go.Proofs.Ytdgkknjmhdmlfaa
