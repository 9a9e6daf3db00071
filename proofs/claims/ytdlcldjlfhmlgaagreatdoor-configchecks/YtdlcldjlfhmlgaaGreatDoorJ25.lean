/- Texts of this proof, joined: LfH, LfN, AhNe, AhBy. -/
import Derived.Deep.RegionHeld3
import Derived.Test.YtdlcldjlfhmlgaaGreatDoorJ24
import Derived.Test.YtdlcldjlfhmlgaaGreatDoorJ17
import Derived.Test.YtdlcldjlfhmlgaaGreatDoorJ18
import Derived.Test.YtdlcldjlfhmlgaaGreatDoorJ23
import Derived.Laws.AppendOwn
import Derived.Lib.ItoaMem
set_option linter.unusedVariables false
set_option linter.unusedSimpArgs false
/- Layer 15: slices.Clone of addresses; Upstream. -/
namespace Go.Proofs.YtdlcldjlfhmlgaaGreatDoor
open Go.RowKit
def adL (a : A.Ad) : List Value := [.bool a.v6, .int .u64 (a.hi : Int), .int .u64 (a.lo : Int)]
def adsC (l : List A.Ad) : List Value := l.flatMap adL
theorem adsC_len (l : List A.Ad) : (adsC l).length = l.length * 3 := by
  induction l with
  | nil => rfl
  | cons r rs ih =>
    unfold adsC at ih ⊢
    rw [List.flatMap_cons, List.length_append, ih, List.length_cons]
    show 3 + _ = _
    omega
theorem adsC_at : ∀ (l : List A.Ad) (j : Nat) (hj : j < l.length) (i : Nat), i < 3 → (adsC l)[j * 3 + i]? = (adL l[j])[i]?
  | r :: rs, 0, _, i, hi => by
    unfold adsC
    rw [List.flatMap_cons, Nat.zero_mul, Nat.zero_add, List.getElem?_append_left (show i < 3 from hi)]
    rfl
  | r :: rs, j + 1, hj, i, hi => by
    have ih := adsC_at rs j (by simpa using hj) i hi
    unfold adsC at ih ⊢
    rw [List.flatMap_cons, List.getElem?_append_right (show 3 ≤ _ by show 3 ≤ (j + 1) * 3 + i; omega), show (j + 1) * 3 + i - (adL r).length = j * 3 + i by show _ - 3 = _; omega, ih]
    rfl
theorem adsC_one (l : List A.Ad) : ∀ u ∈ adsC l, u.oneCell' = true := by
  intro u hu
  unfold adsC at hu
  rw [List.mem_flatMap] at hu
  obtain ⟨r, _, hr⟩ := hu
  simp [adL] at hr
  rcases hr with rfl | rfl | rfl <;> rfl
theorem ads_back {w : World} {b off : Nat} {l : List A.Ad} (h : A.AdsAt w (some ⟨b, off, none⟩) l) (k : Nat) (x : Value) (hx : (adsC l)[k]? = some x) : w.cell? ⟨b, off + k, none⟩ = some x := by
  have hl : k < (adsC l).length := (List.getElem?_eq_some_iff.1 hx).1
  rw [adsC_len] at hl
  have hj : k / 3 < l.length := by omega
  have hi : k % 3 < 3 := Nat.mod_lt _ (by decide)
  have hk : k / 3 * 3 + k % 3 = k := by omega
  have e := adsC_at l (k / 3) hj (k % 3) hi
  rw [hk, hx] at e
  obtain ⟨b', off', e', _, c0, c1, c2⟩ := h (k / 3) hj
  cases e'
  rw [← hk, ← Nat.add_assoc]
  generalize k % 3 = i at hi e
  match i, hi, e with
  | 0, _, e => cases e; exact c0
  | 1, _, e => cases e; exact c1
  | 2, _, e => cases e; exact c2
theorem infoAd : (Tryz.prog.info? 66).map (fun i => (i.zero, i.size, i.bytes)) = some (some (.agg #[.bool false, .int .u64 0, .int .u64 0]), 3, 24) := by kernel_rfl
def bAppA (a : Array Value) : Sem Value := Builtin.append_ #[46, 46] 46 a
theorem app_a (a : Array Value) : Builtin.append_ #[46, 46] 46 a = bAppA a := rfl
theorem eqNilA_yes (w : World) : (Go.binOp .eql 46 (.slice none 0 0) (.slice none 0 0)).run Tryz.prog w = .ok (.bool true) w := by kernel_rfl
theorem eqNilA_no (a : Addr) (n cap : Nat) (w : World) : (Go.binOp .eql 46 (.slice (some a) n cap) (.slice none 0 0)).run Tryz.prog w = .ok (.bool false) w := by kernel_rfl
section
attribute [local go_sem ↓] app_a
set_option maxRecDepth 100000 in
set_option maxHeartbeats 1000000 in
theorem aclone_in (w : World) (q : Option Addr) (cap : Nat) (l : List A.Ad) (hat : A.AdsAt w q l) (hsh : ShC l.length cap q) (hl : l.length * 24 ≤ 140737488351232) :
    Calls Tryz.prog 45 #[.slice q l.length cap] w fun e w' => ∃ v', e = .returned v' ∧ w'.ownsRow w.heap.size 66 3 v' l.length (adsC l) ∧ Below w.heap.size w w' := by
  cases q with
  | none =>
    obtain ⟨h1, _, h3⟩ := hsh
    have hc := h3 rfl
    subst hc
    obtain rfl : l = [] := List.eq_nil_of_length_eq_zero (by omega)
    have hq := eqNilA_yes w
    go_enter Tryz.func45, Tryz.ntmps45
    go_wp2
    go_ret
    exact ⟨_, rfl, World.ownsRow_nil .., Below.refl _ _⟩
  | some a =>
    obtain ⟨i0, hi0, hz0, hz1, hz2⟩ := info_parts' infoAd
    have hb : Below w.heap.size w (w.alloc (.cells #[] 66 (0, 0))) := (Below.refl _ _).alloc (Nat.le_refl _) _
    have hrow : (w.alloc (.cells #[] 66 (0, 0))).ownsRow w.heap.size 66 3 (.slice (some ⟨w.heap.size, 0, none⟩) 0 0) 0 [] :=
      ⟨rfl, .inr ⟨w.heap.size, 0, #[], rfl, Nat.le_refl _, heap_alloc_new _ _, Nat.le_refl _, by decide, rfl, rfl⟩⟩
    obtain ⟨v', w', r1, hr1, g1, _, _⟩ := run_append_own_at (P := Tryz.prog) _ w.heap.size 46 46 66 i0 _ 3 24 Tryz.underlying46 hi0 hz0 hz1 hz2 rfl (by decide) _ 0 [] hrow a l.length cap (adsC l) (adsC_len l) (fun j u hu => by
      have hlt : j < (adsC l).length := (List.getElem?_eq_some_iff.1 hu).1
      rw [adsC_len] at hlt
      obtain ⟨b, off, e, hbl, _⟩ := hat 0 (by omega)
      cases e
      have h := ads_back hat j u hu
      rw [So.add_of]
      exact (hb.cell (p := ⟨b, off + j, none⟩) hbl).trans h) (adsC_one l) (by unfold maxLen; omega) (by omega) (by simp)
    have HR : Hid (w'.ownsRow w.heap.size 66 3 v' l.length (adsC l) ∧ Below w.heap.size w w') := by
      refine ⟨by simpa using hr1, hb.grown g1 (by simp) (fun k e => ?_)⟩
      cases e
      exact Nat.le_refl _
    have r2 : (bAppA #[.slice (some ⟨w.heap.size, 0, none⟩) 0 0, .slice (some a) l.length cap]).run Tryz.prog (w.alloc (.cells #[] 66 (0, 0))) = .ok v' w' := r1
    have hq := eqNilA_no a l.length cap w
    obtain ⟨n, hn⟩ : ∃ n, l.length = n := ⟨_, rfl⟩
    rw [hn] at r2 hq HR ⊢
    clear hb hrow hr1 g1 r1 hat hsh hl hn
    go_enter Tryz.func45, Tryz.ntmps45
    go_wp2
    go_ret
    exact ⟨_, rfl, HR.out⟩
end
theorem sizeUp : (Tryz.prog.info? 61).map (·.size) = some 3 := by kernel_rfl
theorem results_up {fn : Func} {p j : Tmp} (h : fn.results = #[.cell p 61, .tmp j]) {tmps : Array Value} {W : World} {b : Nat} {x y z : Value} {t : Value} (hp : tmps.getD p undef = .pointer (some ⟨b, 0, none⟩)) (ht : tmps.getD j undef = t) (hb : W.heap[b]? = some (.cells #[x, y, z] 61 (0, 0))) : (results fn tmps).run Tryz.prog W = .ok (.tuple #[.agg #[x, y, z], t]) W := by
  have ht' : tmps[j]?.getD undef = t := by simpa using ht
  have hp' : tmps[p]?.getD undef = .pointer (some ⟨b, 0, none⟩) := by simpa using hp
  have hl : (loadVar 61 ⟨b, 0, none⟩).run Tryz.prog W = .ok (.agg #[x, y, z]) W := run_loadVar_row W b _ _ _ (0, 0) _ hb Tryz.underlying61 rfl sizeUp
  simp only [results, h]
  simp [hp', ht', asAddr, hl]
theorem frozenU {w : World} {b : Nat} {c : Array Value} {t : TypeId} (h : w.heap[b]? = some (.cells c t (0, 0))) (i : Nat) : w.frozen? ⟨b, i, none⟩ = false := by
  unfold World.frozen?
  rw [show (⟨b, i, none⟩ : Addr).block = b from rfl, h]
  simp
theorem up_three {w : World} {b : Nat} {x0 x1 x2 : Value} (h : w.heap[b]? = some (.cells #[x0, x1, x2] 61 (0, 0))) (x y z : Value) : (((w.setCell ⟨b, 0, none⟩ x).setCell ⟨b, 1, none⟩ y).setCell ⟨b, 2, none⟩ z).heap[b]? = some (.cells #[x, y, z] 61 (0, 0)) :=
  hset (hset (hset h 0 x) 1 y) 2 z
theorem up_bel {N b : Nat} {w w' : World} (h : Below N w w') (hb : N ≤ b) (x y z : Value) : Below N w (((w'.setCell ⟨b, 0, none⟩ x).setCell ⟨b, 1, none⟩ y).setCell ⟨b, 2, none⟩ z) :=
  ((h.setCell (p := ⟨b, 0, none⟩) hb x).setCell (p := ⟨b, 1, none⟩) hb y).setCell (p := ⟨b, 2, none⟩) hb z
theorem up_other {w : World} {b b' : Nat} (h : b' ≠ b) (x y z : Value) : (((w.setCell ⟨b, 0, none⟩ x).setCell ⟨b, 1, none⟩ y).setCell ⟨b, 2, none⟩ z).heap[b']? = w.heap[b']? := by
  rw [Below.heap_setCell _ _ _ _ (fun e => h e), Below.heap_setCell _ _ _ _ (fun e => h e), Below.heap_setCell _ _ _ _ (fun e => h e)]
def UpP (W : World) (c : Cf) (n : ByteArray) (e : Ending) (w' : World) : Prop :=
  ((bestN (c.up.map Up.nm) n c.up.length = none ∧ e = .returned (.tuple #[.agg #[.string ⟨#[]⟩, .slice none 0 0, .bool false], .bool false])) ∨
   ∃ b, ∃ hb : b < c.up.length, bestN (c.up.map Up.nm) n c.up.length = some b ∧ ∃ v', e = .returned (.tuple #[.agg #[.string c.up[b].nm, v', .bool c.up[b].fw], .bool true]) ∧ w'.ownsRow W.heap.size 66 3 v' c.up[b].sv.length (adsC c.up[b].sv)) ∧ Below W.heap.size W w'
set_option maxRecDepth 100000 in
set_option maxHeartbeats 8000000 in
theorem upstream_in (W : World) (k : Cq) (c : Cf) (hat : CfAt W k c) (hin : CfIn c) (s : ByteArray) (hs : s.size ≤ maxLen) : Calls Tryz.prog 21 #[cfV k c, .string s] W fun e w' => UpP W c s e w' := by
  have HNr : Hid (∀ w, Below W.heap.size W w → Calls Tryz.prog 42 #[.string s, .slice k.q3 c.up.length k.c3, .func (.func 43) #[] #[]] w fun e w' => e = .returned (.int .i64 (plI (bestN (c.up.map Up.nm) s c.up.length))) ∧ Below w.heap.size w w') := fun w hb => upNear_in w k.q3 k.c3 c.up (hat.blk hb).up (fun u hu => (hin.up u hu).1) hat.s3 s hs
  obtain ⟨N, hN⟩ : ∃ N, W.heap.size = N := ⟨_, rfl⟩
  have HNN := Hid.mk hN
  have HFin : Hid (∀ e w', UpP W c s e w' → UpP W c s e w') := fun _ _ h => h
  have HNone : Hid (∀ w', bestN (c.up.map Up.nm) s c.up.length = none → Below N W w' → UpP W c s (.returned (.tuple #[.agg #[.string ⟨#[]⟩, .slice none 0 0, .bool false], .bool false])) w') := fun w' h hb => ⟨.inl ⟨h, rfl⟩, by rw [hN]; exact hb⟩
  have HSome : Hid (∀ w' b (hb : b < c.up.length) v', bestN (c.up.map Up.nm) s c.up.length = some b → w'.ownsRow N 66 3 v' c.up[b].sv.length (adsC c.up[b].sv) → Below N W w' → UpP W c s (.returned (.tuple #[.agg #[.string c.up[b].nm, v', .bool c.up[b].fw], .bool true])) w') := fun w' b hb v' h hr hbel => ⟨.inr ⟨b, hb, h, v', rfl, by rw [hN]; exact hr⟩, by rw [hN]; exact hbel⟩
  have HBL : Hid (∀ i (hi : i < c.up.length), ∃ b off, k.q3 = some ⟨b, off, none⟩ ∧ ∃ (qs : Option Addr) (cs : Nat), Hid (UpIn c.up[i] ∧ ShC c.up[i].sv.length cs qs) ∧ Hid (∀ w, Below N W w → A.AdsAt w qs c.up[i].sv) ∧ Hid (∀ w, Below N W w → w.cell? ⟨b, off + i * 3, none⟩ = some (.string c.up[i].nm) ∧ w.cell? ⟨b, off + i * 3 + 1, none⟩ = some (.slice qs c.up[i].sv.length cs) ∧ w.cell? ⟨b, off + i * 3 + 2, none⟩ = some (.bool c.up[i].fw))) := by
    intro i hi
    obtain ⟨b, off, qs, cs, e, hlt, c0, c1, c2, hr, hsx⟩ := hat.up i hi
    have key : ∀ w, Below N W w → ∀ j, w.cell? ⟨b, j, none⟩ = W.cell? ⟨b, j, none⟩ := fun w hb j => by rw [← hN] at hb; exact hb.cell (p := ⟨b, j, none⟩) hlt
    exact ⟨b, off, e, qs, cs, ⟨hin.up _ (List.getElem_mem hi), hsx⟩, fun w hb => by rw [← hN] at hb; exact hr.blk hb, fun w hb => ⟨(key w hb _).trans c0, (key w hb _).trans c1, (key w hb _).trans c2⟩⟩
  obtain ⟨q0, c0, q1, c1, q2, c2, q3, c3, q4, c4⟩ := k
  have hsh := hat.s3
  simp only at hsh
  have hnx : c.up.length ≤ 9223372036854775807 := by
    have h1 := hsh.1
    have h2 := hsh.2.1
    unfold maxLen at h2
    omega
  simp only [cfV, cfC] at HNr HBL ⊢
  obtain ⟨U, hU⟩ : ∃ U, (W.alloc (.cells #[.slice q0 c.rt.length c0, .slice q1 c.ru.length c1, .slice q2 c.lc.length c2, .slice q3 c.up.length c3, .slice q4 c.an.length c4, .int .i64 c.n0, .int .i64 c.n1, .int .i64 c.n2, .int .i64 c.n3] 51)).alloc (.cells #[.string ⟨#[]⟩, .slice none 0 0, .bool false] 61) = U := ⟨_, rfl⟩
  have hX : Bx2 W W.heap.size [.slice q0 c.rt.length c0, .slice q1 c.ru.length c1, .slice q2 c.lc.length c2, .slice q3 c.up.length c3, .slice q4 c.an.length c4, .int .i64 c.n0, .int .i64 c.n1, .int .i64 c.n2, .int .i64 c.n3] 51 (W.heap.size + 1) [.string ⟨#[]⟩, .slice none 0 0, .bool false] 61 U := hU ▸ Bx2.new W _ _ _ _
  have HU := Hid.mk hU
  rw [hN] at HNr hX
  obtain ⟨Q, hQ⟩ : ∃ Q, N + 1 = Q := ⟨_, rfl⟩
  have hNQ : N ≤ Q := by omega
  have HQ := Hid.mk hQ
  rw [hQ] at hX
  have x3 := hX.x.cell 3 _ rfl
  have HX := Hid.mk hX
  have hUb : Below N W U := by rw [← hN]; exact hX.x.bel
  have HUb := Hid.mk hUb
  have HN1 := Hid.mk (HNr.out U hUb)
  obtain ⟨o, ho⟩ : ∃ o, bestN (c.up.map Up.nm) s c.up.length = o := ⟨_, rfl⟩
  rw [ho] at HNone HSome HN1
  have HO := Hid.mk ho
  obtain ⟨n, hn⟩ : ∃ n, c.up.length = n := ⟨_, rfl⟩
  have HNL := Hid.mk hn
  rw [hn] at HN1 HU hnx ⊢
  rw [hn] at x3
  have HXc : Hid (∀ w, Below U.heap.size U w → w.cell? ⟨N, 3, none⟩ = some (.slice q3 n c3) ∧ w.heap[Q]? = some (.cells #[.string ⟨#[]⟩, .slice none 0 0, .bool false] 61 (0, 0)) ∧ Below N W w) := fun w hb => ⟨by rw [← hn]; exact (hX.blk hb).x.cell 3 _ rfl, (hX.blk hb).y.hb, by have := (hX.blk hb).x.bel; rw [hN] at this; exact this⟩
  clear hat hin hsh hU hX hN HNr ho hn hQ
  go_enter Tryz.func21, Tryz.ntmps21
  go_upto_region 1 with fail
  rw [HNN.out, HQ.out, HU.out]
  go_wp2_with fail
  refine HN1.out.mono ?_
  rintro e w1 ⟨rfl, hb1⟩
  obtain ⟨y3, hq1, hbel1⟩ := HXc.out _ hb1
  have HQ1 := Hid.mk hq1
  have HB1 := Hid.mk hbel1
  have hN1 : N ≤ w1.heap.size := by rw [← HNN.out]; exact hbel1.size
  have hQlt : Q < w1.heap.size := (Array.getElem?_eq_some_iff.1 hq1).1
  cases o with
  | none =>
    have f0 := frozenU hq1 0
    have f1 := frozenU hq1 1
    have f2 := frozenU hq1 2
    have g0 : w1.cell? ⟨Q, 0, none⟩ = some (.string ⟨#[]⟩) := by rw [So.cell_blk hq1]; rfl
    have g1 : w1.cell? ⟨Q, 1, none⟩ = some (.slice none 0 0) := by rw [So.cell_blk hq1]; rfl
    have g2 : w1.cell? ⟨Q, 2, none⟩ = some (.bool false) := by rw [So.cell_blk hq1]; rfl
    have e1 : plI none = -1 := rfl
    rw [e1]
    clear hb1 hq1 hbel1 x3
    go_wp2
    refine bodyPost_ret (results_up Tryz.results21 rfl rfl (up_three HQ1.out _ _ _)) rfl (HNone.out _ (by first | rfl | trivial) (up_bel HB1.out hNQ _ _ _))
  | some b =>
    have hbn : b < c.up.length := bestN_lt HO.out
    have e1 : plI (some b) = (b : Int) := rfl
    rw [e1]
    have hbz : ¬ (b : Int) < 0 := by omega
    have hbnz : (b : Int) < (n : Int) := by have := HNL.out; omega
    have hb0 : (0 : Int) ≤ (b : Int) := by omega
    have HSm := Hid.mk (fun w' v' => HSome.out w' b hbn v' rfl)
    obtain ⟨bb, off, rfl, qs, cs, HI, HSv, HC⟩ := HBL.out b hbn
    obtain ⟨d0, d1, d2⟩ := HC.out _ hbel1
    have hnm : c.up[b].nm.size ≤ 140737488351232 := by
      have hu := (bestN_is HO.out).2.1
      rw [nmI_map _ hbn] at hu
      classical
      obtain ⟨x, y, _, hy, _, e, _⟩ := of_decide_eq_true hu
      have := name_size (s := c.up[b].nm) ⟨y, hy, e⟩
      omega
    have hsl := HI.out.1.2.2
    have hssh := HI.out.2
    obtain ⟨⟨nm0, sv, fw⟩, hup⟩ : ∃ u, c.up[b] = u := ⟨_, rfl⟩
    rw [hup] at HSm HSv d0 d1 d2 hnm hsl hssh
    simp only at HSm HSv d0 d1 d2 hnm hsl hssh
    have HCl := Hid.mk (fun w => cloneL_in nm0 w hnm)
    have HAc : Hid (∀ w, Below N W w → Calls Tryz.prog 45 #[.slice qs sv.length cs] w fun e w' => ∃ v', e = .returned v' ∧ w'.ownsRow w.heap.size 66 3 v' sv.length (adsC sv) ∧ Below w.heap.size w w') := fun w hb => aclone_in w qs cs sv (HSv.out w hb) hssh hsl
    obtain ⟨V1, hV1⟩ : ∃ V1, w1.alloc (.cells #[.string nm0, .slice qs sv.length cs, .bool fw] 61) = V1 := ⟨_, rfl⟩
    have X0 : Bx w1 w1.heap.size [.string nm0, .slice qs sv.length cs, .bool fw] 61 V1 := hV1 ▸ Bx.new w1 _ _
    have HV1 := Hid.mk hV1
    obtain ⟨Y, hY⟩ : ∃ Y, w1.heap.size = Y := ⟨_, rfl⟩
    have HY := Hid.mk hY
    rw [hY] at X0
    have hQY : Q ≠ Y := by omega
    have hNY : N ≤ Y := by omega
    have HK1 : Hid (Below N W V1 ∧ V1.heap[Q]? = some (.cells #[.string ⟨#[]⟩, .slice none 0 0, .bool false] 61 (0, 0)) ∧ N ≤ V1.heap.size) := ⟨hbel1.trans (X0.bel.mono hN1), (X0.bel.block Q hQlt).trans hq1, Nat.le_trans hN1 X0.bel.size⟩
    have HS0 : Hid (∀ w, Below V1.heap.size V1 w → w.cell? ⟨Y, 0, none⟩ = some (.string nm0) ∧ w.cell? ⟨Y, 1, none⟩ = some (.slice qs sv.length cs) ∧ w.cell? ⟨Y, 2, none⟩ = some (.bool fw)) := fun w hb => (X0.blk hb).cells3
    clear hV1 hY X0 hup hnm hsl hssh hb1 hq1 hbel1 HBL HSome HNone
    go_upto_region 5 with fail
    rw [HV1.out, HY.out]
    clear d0 d1 d2
    refine wp_region_held_drew (S := fun w => w.cell? ⟨Y, 0, none⟩ = some (.string nm0) ∧ w.cell? ⟨Y, 1, none⟩ = some (.slice qs sv.length cs) ∧ w.cell? ⟨Y, 2, none⟩ = some (.bool fw)) (by kernel_rfl) (HS0.out _ (Below.refl _ _).drew) (fun hHeld => ?_)
    refine wU (i := 0) (v := ?va_0) rfl ?ya_0 (by assumption) ?_
    case ya_0 => (intro w hSw; (try dsimp only at hSw); go_simp; try with_reducible rfl)
    refine wU (i := 1) (v := ?va_1) rfl ?ya_1 (by assumption) ?_
    case ya_1 => (intro w hSw; (try dsimp only at hSw); go_simp; try with_reducible rfl)
    refine wU (i := 3) (v := ?va_3) rfl ?ya_3 (by assumption) ?_
    case ya_3 => (intro w hSw; (try dsimp only at hSw); go_simp; try with_reducible rfl)
    refine wU (i := 4) (v := ?va_4) rfl ?ya_4 (by assumption) ?_
    case ya_4 => (intro w hSw; (try dsimp only at hSw); go_simp; try with_reducible rfl)
    refine wU (i := 6) (v := ?va_6) rfl ?ya_6 (by assumption) ?_
    case ya_6 => (intro w hSw; (try dsimp only at hSw); go_simp; try with_reducible rfl)
    refine wU (i := 7) (v := ?va_7) rfl ?ya_7 (by assumption) ?_
    case ya_7 => (intro w hSw; (try dsimp only at hSw); go_simp; try with_reducible rfl)
    try simp only [Act.put, List.getElem_toArray, List.getElem_cons_succ, List.getElem_cons_zero, List.setIfInBounds_toArray, List.set_cons_zero, List.set_cons_succ]
    refine wpAnyH_ready (rs := [2]) (by kernel_rfl) (by simp) ?_
    refine AllReadyH.cons rfl (fun K hK => ?_) AllReadyH.nil
    go_simp
    go_at_call 44
    refine (HCl.out _).mono ?_
    rintro e w2 ⟨rfl, hb2'⟩
    have hb2 : Below V1.heap.size V1 w2 := (Below.refl _ V1).drew.trans hb2'
    refine hK.out _ _ (HS0.out _ hb2) (fun hHeld => ?_)
    clear hK K
    try simp only [Act.put, List.getElem_toArray, List.getElem_cons_succ, List.getElem_cons_zero, List.setIfInBounds_toArray, List.set_cons_zero, List.set_cons_succ]
    refine wpAnyH_ready (rs := [5]) (by kernel_rfl) (by simp) ?_
    refine AllReadyH.cons rfl (fun K hK => ?_) AllReadyH.nil
    go_simp
    go_at_call 45
    have hbel2 : Below N W w2 := HK1.out.1.trans (hb2.mono HK1.out.2.2)
    have hN2 : N ≤ w2.heap.size := Nat.le_trans HK1.out.2.2 hb2.size
    refine (HAc.out _ hbel2).mono ?_
    rintro e w3 ⟨v', rfl, hown, hb3'⟩
    have hb3 : Below V1.heap.size V1 w3 := hb2.trans (hb3'.mono hb2.size)
    obtain ⟨q5, c5, rfl⟩ : ∃ q5 c5, v' = .slice q5 sv.length c5 := by
      rcases hown.2 with ⟨rfl, h0⟩ | ⟨g, cap, cur, rfl, _⟩
      · exact ⟨none, 0, by rw [h0]⟩
      · exact ⟨_, _, rfl⟩
    have HO3 : Hid (w3.ownsRow N 66 3 (.slice q5 sv.length c5) sv.length (adsC sv)) := by
      obtain ⟨hl, h0 | ⟨g, cap, cur, hv, hg0, r⟩⟩ := hown
      · exact ⟨hl, .inl h0⟩
      · exact ⟨hl, .inr ⟨g, cap, cur, hv, Nat.le_trans hN2 hg0, r⟩⟩
    have hq3 : w3.heap[Q]? = some (.cells #[.string ⟨#[]⟩, .slice none 0 0, .bool false] 61 (0, 0)) := (hb3.block Q (Array.getElem?_eq_some_iff.1 HK1.out.2.1).1).trans HK1.out.2.1
    have HQ3 := Hid.mk hq3
    have HB3 : Hid (Below N W w3) := HK1.out.1.trans (hb3.mono HK1.out.2.2)
    have HS3 := Hid.mk (HS0.out _ hb3)
    refine hK.out _ _ HS3.out (fun hHeld => ?_)
    clear hK K
    have f0 := frozenU hq3 0
    have f1 := frozenU hq3 1
    have f2 := frozenU hq3 2
    have g0 : w3.cell? ⟨Q, 0, none⟩ = some (.string ⟨#[]⟩) := by rw [So.cell_blk hq3]; rfl
    have g1 : w3.cell? ⟨Q, 1, none⟩ = some (.slice none 0 0) := by rw [So.cell_blk hq3]; rfl
    have g2 : w3.cell? ⟨Q, 2, none⟩ = some (.bool false) := by rw [So.cell_blk hq3]; rfl
    clear hown hb3' hb3 hb2 hb2' hbel2 hN2 hq3
    try simp only [Act.put, List.getElem_toArray, List.getElem_cons_succ, List.getElem_cons_zero, List.setIfInBounds_toArray, List.set_cons_zero, List.set_cons_succ]
    refine wU (i := 8) (v := ?vb_8) rfl ?yb_8 (by assumption) ?_
    case yb_8 => (intro w hSw; (try dsimp only at hSw); go_simp; try with_reducible rfl)
    try simp only [Act.put, List.getElem_toArray, List.getElem_cons_succ, List.getElem_cons_zero, List.setIfInBounds_toArray, List.set_cons_zero, List.set_cons_succ]
    refine wpAnyH_ready (rs := [9]) (by kernel_rfl) (by simp) ?_
    refine AllReadyH.cons rfl (fun K hK => ?_) AllReadyH.nil
    go_simp
    have HE : Hid (Below N W (((w3.setCell ⟨Q, 0, none⟩ (.string nm0)).setCell ⟨Q, 1, none⟩ (.slice q5 sv.length c5)).setCell ⟨Q, 2, none⟩ (.bool fw)) ∧ (((w3.setCell ⟨Q, 0, none⟩ (.string nm0)).setCell ⟨Q, 1, none⟩ (.slice q5 sv.length c5)).setCell ⟨Q, 2, none⟩ (.bool fw)).ownsRow N 66 3 (.slice q5 sv.length c5) sv.length (adsC sv)) := by
      refine ⟨up_bel HB3.out hNQ _ _ _, own_same HO3.out fun b' c' f' _ hc => up_other (fun e => ?_) _ _ _⟩
      subst e
      rw [HQ3.out] at hc
      cases hc
    refine hK.out _ _ ?_ (fun hHeld => ?_)
    · obtain ⟨h0, h1, h2⟩ := HS3.out
      have key : ∀ i, (((w3.setCell ⟨Q, 0, none⟩ (.string nm0)).setCell ⟨Q, 1, none⟩ (.slice q5 sv.length c5)).setCell ⟨Q, 2, none⟩ (.bool fw)).cell? ⟨Y, i, none⟩ = w3.cell? ⟨Y, i, none⟩ := fun i => by
        unfold World.cell?
        simp only [up_other (fun e => hQY e.symm)]
      exact ⟨(key 0).trans h0, (key 1).trans h1, (key 2).trans h2⟩
    clear hK K
    try simp only [Act.put, List.getElem_toArray, List.getElem_cons_succ, List.getElem_cons_zero, List.setIfInBounds_toArray, List.set_cons_zero, List.set_cons_succ]
    refine wU (i := 10) (v := ?vc_10) rfl ?yc_10 (by assumption) ?_
    case yc_10 => (intro w hSw; (try dsimp only at hSw); go_simp; try with_reducible rfl)
    try simp only [Act.put, List.getElem_toArray, List.getElem_cons_succ, List.getElem_cons_zero, List.setIfInBounds_toArray, List.set_cons_zero, List.set_cons_succ]
    refine wpAnyH_done (by kernel_rfl) ?_ _
    clear hHeld
    go_wp2
    refine bodyPost_ret (results_up Tryz.results21 rfl rfl (up_three HQ3.out _ _ _)) rfl (HSm.out _ _ HE.out.2 HE.out.1)
end Go.Proofs.YtdlcldjlfhmlgaaGreatDoor
/- Layer 15: the law's examples. -/
namespace Go.Proofs.YtdlcldjlfhmlgaaGreatDoor
open Go.RowKit
def cf0 : Cf := ⟨[], [], [], [], [], 0, 0, 0, 0⟩
def cf1 : Cf := ⟨[⟨false, 0, 0⟩], [], [], [], [], 1, 1, 1, 1⟩
def na : N3 := [[97]]
def nba : N3 := [[98], [97]]
def ncba : N3 := [[99], [98], [97]]
def nx : N3 := [[120]]
def cf2 : Cf := ⟨[], [], [], [⟨nm na, [], false⟩, ⟨nm nba, [], true⟩], [], 0, 0, 0, 0⟩
theorem ok_na : OkN na := ok_dec (by decide) (by decide)
theorem ok_nba : OkN nba := ok_dec (by decide) (by decide)
theorem ok_ncba : OkN ncba := ok_dec (by decide) (by decide)
theorem ok_nx : OkN nx := ok_dec (by decide) (by decide)
theorem chk_cf0 : chkR cf0 = 0 := chkR_at cf0 0 (by omega) (by decide) (fun j hj => by omega)
theorem okL_nil : okL [] := ⟨fun z hz => by simp at hz, by simp⟩
theorem chk_cf1 : chkR cf1 = 6 := by
  classical
  refine chkR_none cf1 fun j hj => ?_
  match j, hj with
  | 0, _ => decide
  | 1, _ => exact decide_eq_true A.OkRs.nil
  | 2, _ => exact decide_eq_true okL_nil
  | 3, _ => exact upsR_yes (fun u hu => by simp [cf1] at hu) (by simp [cf1])
  | 4, _ => exact ansOk_yes fun a ha => by simp [cf1] at ha
  | 5, _ => decide
theorem best1 : bestN (cf2.up.map Up.nm) (nm ncba) 2 = some 1 := by
  have e0 : nmI (cf2.up.map Up.nm) 0 = nm na := rfl
  have e1 : nmI (cf2.up.map Up.nm) 1 = nm nba := rfl
  have h0 : bestN (cf2.up.map Up.nm) (nm ncba) 1 = some 0 := bestN_first (by rw [e0, undF_nm ok_ncba ok_na]; decide) rfl
  exact bestN_more (by rw [e1, undF_nm ok_ncba ok_nba]; decide) h0 (by rw [e0, e1, manyF_nm ok_na, manyF_nm ok_nba]; decide)
theorem best2 : bestN (cf2.up.map Up.nm) (nm na) 2 = some 0 := by
  have e0 : nmI (cf2.up.map Up.nm) 0 = nm na := rfl
  have e1 : nmI (cf2.up.map Up.nm) 1 = nm nba := rfl
  have h0 : bestN (cf2.up.map Up.nm) (nm na) 1 = some 0 := bestN_first (by rw [e0, undF_nm ok_na ok_na]; decide) rfl
  rw [bestN_skip (by rw [e1, undF_nm ok_na ok_nba]; decide)]
  exact h0
theorem best3 : bestN (cf2.up.map Up.nm) (nm nx) 2 = none := by
  have e0 : nmI (cf2.up.map Up.nm) 0 = nm na := rfl
  have e1 : nmI (cf2.up.map Up.nm) 1 = nm nba := rfl
  rw [bestN_skip (by rw [e1, undF_nm ok_nx ok_nba]; decide), bestN_skip (by rw [e0, undF_nm ok_nx ok_na]; decide)]
  rfl
theorem ads_nil (w : World) (q : Option Addr) : A.AdsAt w q [] := fun j hj => by simp at hj
theorem rls_nil (w : World) (q : Option Addr) : A.RlsAt w q [] := fun j hj => by simp at hj
theorem lcs_nil (w : World) (q : Option Addr) : LcsAt w q [] := fun j hj => by simp at hj
theorem ups_nil (w : World) (q : Option Addr) : UpsAt w q [] := fun j hj => by simp at hj
theorem ans_nil (w : World) (q : Option Addr) : AnsAt w q [] := fun j hj => by simp at hj
theorem sh_nil : ShC 0 0 none := ⟨Nat.le_refl _, Nat.zero_le _, fun _ => rfl⟩
theorem sh_some (n : Nat) (a : Addr) (h : n ≤ maxLen) : ShC n n (some a) := ⟨Nat.le_refl _, h, fun e => by cases e⟩
theorem ex_check0 (w : World) : Calls Tryz.prog 17 #[.agg #[.slice none 0 0, .slice none 0 0, .slice none 0 0, .slice none 0 0, .slice none 0 0, .int .i64 0, .int .i64 0, .int .i64 0, .int .i64 0]] w fun e w' => e = .returned (.tuple #[.string ⟨#[114, 111, 111, 116, 115]⟩, .int .i64 12]) ∧ Below w.heap.size w w' := by
  have := check_in w ⟨none, 0, none, 0, none, 0, none, 0, none, 0⟩ cf0 ⟨ads_nil _ _, rls_nil _ _, lcs_nil _ _, ups_nil _ _, ans_nil _ _, sh_nil, sh_nil, sh_nil, sh_nil, sh_nil⟩ ⟨fun _ h => by simp [cf0] at h, fun _ h => by simp [cf0] at h, fun _ h => by simp [cf0] at h, fun _ h => by simp [cf0] at h, fun _ h => by simp [cf0] at h, ⟨by decide, by decide⟩, ⟨by decide, by decide⟩, ⟨by decide, by decide⟩, ⟨by decide, by decide⟩, by decide, by decide, by decide, by decide, by decide⟩ (by decide)
  unfold chkE at this
  rw [chk_cf0] at this
  exact this
theorem ex_check1 (w : World) {B : Nat} (hB : w.heap[B]? = some (.cells #[.bool false, .int .u64 0, .int .u64 0] 66 (0, 0))) : Calls Tryz.prog 17 #[.agg #[.slice (some ⟨B, 0, none⟩) 1 1, .slice none 0 0, .slice none 0 0, .slice none 0 0, .slice none 0 0, .int .i64 1, .int .i64 1, .int .i64 1, .int .i64 1]] w fun e w' => e = .returned (.tuple #[.string ⟨#[]⟩, .int .i64 0]) ∧ Below w.heap.size w w' := by
  have := check_in w ⟨some ⟨B, 0, none⟩, 1, none, 0, none, 0, none, 0, none, 0⟩ cf1 ⟨fun j hj => by
    have hj0 : j = 0 := by simp [cf1] at hj; omega
    subst hj0
    exact ⟨B, 0, rfl, (Array.getElem?_eq_some_iff.1 hB).1, by rw [So.cell_blk hB]; rfl, by rw [So.cell_blk hB]; rfl, by rw [So.cell_blk hB]; rfl⟩, rls_nil _ _, lcs_nil _ _, ups_nil _ _, ans_nil _ _, sh_some 1 _ (by decide), sh_nil, sh_nil, sh_nil, sh_nil⟩ ⟨fun a h => by
      simp [cf1] at h
      subst h
      exact ⟨by decide, by decide⟩, fun _ h => by simp [cf1] at h, fun _ h => by simp [cf1] at h, fun _ h => by simp [cf1] at h, fun _ h => by simp [cf1] at h, ⟨by decide, by decide⟩, ⟨by decide, by decide⟩, ⟨by decide, by decide⟩, ⟨by decide, by decide⟩, by decide, by decide, by decide, by decide, by decide⟩ (by decide)
  unfold chkE at this
  rw [chk_cf1] at this
  exact this
theorem own_form {w : World} {N : Nat} {ty : TypeId} {sz n : Nat} {v : Value} {l : List Value} (h : w.ownsRow N ty sz v n l) : ∃ q cap, v = .slice q n cap := by
  rcases h.2 with ⟨rfl, h0⟩ | ⟨g, cap, cur, rfl, _⟩
  · exact ⟨none, 0, by rw [h0]⟩
  · exact ⟨_, _, rfl⟩
theorem ex_ups (w : World) {B : Nat} (hB : w.heap[B]? = some (.cells #[.string ⟨#[1, 97, 0]⟩, .slice none 0 0, .bool false, .string ⟨#[1, 98, 1, 97, 0]⟩, .slice none 0 0, .bool true] 61 (0, 0))) (s : ByteArray) (hs : s.size ≤ maxLen) : Calls Tryz.prog 21 #[.agg #[.slice none 0 0, .slice none 0 0, .slice none 0 0, .slice (some ⟨B, 0, none⟩) 2 2, .slice none 0 0, .int .i64 0, .int .i64 0, .int .i64 0, .int .i64 0], .string s] w fun e w' => UpP w cf2 s e w' := by
  have := upstream_in w ⟨none, 0, none, 0, none, 0, some ⟨B, 0, none⟩, 2, none, 0⟩ cf2 ⟨ads_nil _ _, rls_nil _ _, lcs_nil _ _, fun j hj => by
    have hj' : j < 2 := hj
    match j, hj' with
    | 0, _ => exact ⟨B, 0, none, 0, rfl, (Array.getElem?_eq_some_iff.1 hB).1, by rw [So.cell_blk hB]; rfl, by rw [So.cell_blk hB]; rfl, by rw [So.cell_blk hB]; rfl, ads_nil _ _, sh_nil⟩
    | 1, _ => exact ⟨B, 0, none, 0, rfl, (Array.getElem?_eq_some_iff.1 hB).1, by rw [So.cell_blk hB]; rfl, by rw [So.cell_blk hB]; rfl, by rw [So.cell_blk hB]; rfl, ads_nil _ _, sh_nil⟩, ans_nil _ _, sh_nil, sh_nil, sh_nil, sh_some 2 _ (by decide), sh_nil⟩ ⟨fun _ h => by simp [cf2] at h, fun _ h => by simp [cf2] at h, fun _ h => by simp [cf2] at h, fun u h => by
      simp [cf2] at h
      rcases h with rfl | rfl
      · exact ⟨by decide, fun _ h => by simp at h, by decide⟩
      · exact ⟨by decide, fun _ h => by simp at h, by decide⟩, fun _ h => by simp [cf2] at h, ⟨by decide, by decide⟩, ⟨by decide, by decide⟩, ⟨by decide, by decide⟩, ⟨by decide, by decide⟩, by decide, by decide, by decide, by decide, by decide⟩ s hs
  exact this
theorem ex_up1 (w : World) {B : Nat} (hB : w.heap[B]? = some (.cells #[.string ⟨#[1, 97, 0]⟩, .slice none 0 0, .bool false, .string ⟨#[1, 98, 1, 97, 0]⟩, .slice none 0 0, .bool true] 61 (0, 0))) : Calls Tryz.prog 21 #[.agg #[.slice none 0 0, .slice none 0 0, .slice none 0 0, .slice (some ⟨B, 0, none⟩) 2 2, .slice none 0 0, .int .i64 0, .int .i64 0, .int .i64 0, .int .i64 0], .string ⟨#[1, 99, 1, 98, 1, 97, 0]⟩] w fun e w' => (∃ q cap, e = .returned (.tuple #[.agg #[.string ⟨#[1, 98, 1, 97, 0]⟩, .slice q 0 cap, .bool true], .bool true])) ∧ Below w.heap.size w w' := by
  refine (ex_ups w hB ⟨#[1, 99, 1, 98, 1, 97, 0]⟩ (by decide)).mono ?_
  rintro e w' ⟨⟨h1, _⟩ | ⟨b, hb, h1, v', rfl, hown⟩, hbel⟩
  · have := best1.symm.trans h1; cases this
  · have e1 : (1 : Nat) = b := Option.some.inj (best1.symm.trans h1)
    subst e1
    obtain ⟨q, cap, rfl⟩ := own_form hown
    exact ⟨⟨q, cap, rfl⟩, hbel⟩
theorem ex_up2 (w : World) {B : Nat} (hB : w.heap[B]? = some (.cells #[.string ⟨#[1, 97, 0]⟩, .slice none 0 0, .bool false, .string ⟨#[1, 98, 1, 97, 0]⟩, .slice none 0 0, .bool true] 61 (0, 0))) : Calls Tryz.prog 21 #[.agg #[.slice none 0 0, .slice none 0 0, .slice none 0 0, .slice (some ⟨B, 0, none⟩) 2 2, .slice none 0 0, .int .i64 0, .int .i64 0, .int .i64 0, .int .i64 0], .string ⟨#[1, 97, 0]⟩] w fun e w' => (∃ q cap, e = .returned (.tuple #[.agg #[.string ⟨#[1, 97, 0]⟩, .slice q 0 cap, .bool false], .bool true])) ∧ Below w.heap.size w w' := by
  refine (ex_ups w hB ⟨#[1, 97, 0]⟩ (by decide)).mono ?_
  rintro e w' ⟨⟨h1, _⟩ | ⟨b, hb, h1, v', rfl, hown⟩, hbel⟩
  · have := best2.symm.trans h1; cases this
  · have e1 : (0 : Nat) = b := Option.some.inj (best2.symm.trans h1)
    subst e1
    obtain ⟨q, cap, rfl⟩ := own_form hown
    exact ⟨⟨q, cap, rfl⟩, hbel⟩
theorem ex_up3 (w : World) {B : Nat} (hB : w.heap[B]? = some (.cells #[.string ⟨#[1, 97, 0]⟩, .slice none 0 0, .bool false, .string ⟨#[1, 98, 1, 97, 0]⟩, .slice none 0 0, .bool true] 61 (0, 0))) : Calls Tryz.prog 21 #[.agg #[.slice none 0 0, .slice none 0 0, .slice none 0 0, .slice (some ⟨B, 0, none⟩) 2 2, .slice none 0 0, .int .i64 0, .int .i64 0, .int .i64 0, .int .i64 0], .string ⟨#[1, 120, 0]⟩] w fun e w' => e = .returned (.tuple #[.agg #[.string ⟨#[]⟩, .slice none 0 0, .bool false], .bool false]) ∧ Below w.heap.size w w' := by
  refine (ex_ups w hB ⟨#[1, 120, 0]⟩ (by decide)).mono ?_
  rintro e w' ⟨⟨h1, rfl⟩ | ⟨b, hb, h1, v', rfl, hown⟩, hbel⟩
  · exact ⟨rfl, hbel⟩
  · have := best3.symm.trans h1; cases this
set_option maxRecDepth 100000 in
set_option maxHeartbeats 4000000 in
theorem examples15_in (W : World) : Calls Tryz.prog 16 #[] W fun e w' => e = .returned (.bool true) ∧ Below W.heap.size W w' := by
  have HC0 := Hid.mk ex_check0
  have HC1 := Hid.mk @ex_check1
  have HU1 := Hid.mk @ex_up1
  have HU2 := Hid.mk @ex_up2
  have HU3 := Hid.mk @ex_up3
  go_enter Tryz.func16, Tryz.ntmps16
  go_wp2_with fail
  refine (HC0.out _).mono ?_
  rintro e w1 ⟨rfl, hb1⟩
  have HB1 := Hid.mk hb1
  clear hb1
  go_wp2_with fail
  obtain ⟨R2, hR2⟩ : ∃ R2, w1.alloc (.cells #[.bool false, .int .u64 0, .int .u64 0] 66) = R2 := ⟨_, rfl⟩
  have hx2 : R2.heap[w1.heap.size]? = some (.cells #[.bool false, .int .u64 0, .int .u64 0] 66 (0, 0)) := hR2 ▸ heap_alloc_new w1 _
  have hb2 : Below w1.heap.size w1 R2 := hR2 ▸ (Below.refl _ _).alloc (Nat.le_refl _) _
  have HB2 := Hid.mk (HB1.out.trans (hb2.mono HB1.out.size))
  rw [hR2]
  refine (HC1.out R2 hx2).mono ?_
  rintro e w3 ⟨rfl, hb3⟩
  have HB3 := Hid.mk (HB2.out.trans (hb3.mono HB2.out.size))
  clear hR2 hx2 hb2 hb3
  obtain ⟨R4, hR4⟩ : ∃ R4, w3.alloc (.cells #[.string ⟨#[1, 97, 0]⟩, .slice none 0 0, .bool false, .string ⟨#[1, 98, 1, 97, 0]⟩, .slice none 0 0, .bool true] 61) = R4 := ⟨_, rfl⟩
  obtain ⟨B, hB⟩ : ∃ B, w3.heap.size = B := ⟨_, rfl⟩
  have hx4 : R4.heap[B]? = some (.cells #[.string ⟨#[1, 97, 0]⟩, .slice none 0 0, .bool false, .string ⟨#[1, 98, 1, 97, 0]⟩, .slice none 0 0, .bool true] 61 (0, 0)) := by rw [← hB, ← hR4]; exact heap_alloc_new w3 _
  have hb4 : Below w3.heap.size w3 R4 := hR4 ▸ (Below.refl _ _).alloc (Nat.le_refl _) _
  have hs4 : R4.heap.size = B + 1 := by rw [← hR4, ← hB]; simp
  obtain ⟨R5, hR5⟩ : ∃ R5, R4.alloc (.cells #[.slice none 0 0, .slice none 0 0, .slice none 0 0, .slice (some ⟨B, 0, none⟩) 2 2, .slice none 0 0, .int .i64 0, .int .i64 0, .int .i64 0, .int .i64 0] 51) = R5 := ⟨_, rfl⟩
  have X5 : Bx R4 R4.heap.size [.slice none 0 0, .slice none 0 0, .slice none 0 0, .slice (some ⟨B, 0, none⟩) 2 2, .slice none 0 0, .int .i64 0, .int .i64 0, .int .i64 0, .int .i64 0] 51 R5 := hR5 ▸ Bx.new R4 _ _
  rw [hs4] at X5
  have HK : Hid (∀ w, Below R5.heap.size R5 w → Below W.heap.size W w ∧ w.heap[B]? = some (.cells #[.string ⟨#[1, 97, 0]⟩, .slice none 0 0, .bool false, .string ⟨#[1, 98, 1, 97, 0]⟩, .slice none 0 0, .bool true] 61 (0, 0)) ∧ ∀ i v, [Value.slice none 0 0, .slice none 0 0, .slice none 0 0, .slice (some ⟨B, 0, none⟩) 2 2, .slice none 0 0, .int .i64 0, .int .i64 0, .int .i64 0, .int .i64 0][i]? = some v → w.cell? ⟨B + 1, i, none⟩ = some v) := fun w hb => by
    have h1 := HB3.out.trans (hb4.mono HB3.out.size)
    have h2 := h1.trans (X5.bel.mono h1.size)
    have h3 := (X5.bel.block B (by omega)).trans hx4
    exact ⟨h2.trans (hb.mono h2.size), (hb.block B (Array.getElem?_eq_some_iff.1 h3).1).trans h3, fun i v hv => (X5.blk hb).cell i v hv⟩
  have HR4 := Hid.mk hR4
  have HR5 := Hid.mk hR5
  have HBe := Hid.mk hB
  clear hR4 hB hx4 hb4 hs4 hR5 X5
  go_upto_region 4 with fail
  rw [HR4.out, HBe.out]
  first | rw [HR5.out] | skip
  obtain ⟨_, k0, kc⟩ := HK.out R5 (Below.refl _ _)
  have z0 := kc 0 _ rfl
  have z1 := kc 1 _ rfl
  have z2 := kc 2 _ rfl
  have z3 := kc 3 _ rfl
  have z4 := kc 4 _ rfl
  have z5 := kc 5 _ rfl
  have z6 := kc 6 _ rfl
  have z7 := kc 7 _ rfl
  have z8 := kc 8 _ rfl
  have HU1a := Hid.mk (HU1.out R5 k0)
  clear k0 kc
  go_wp2_with fail
  refine HU1a.out.mono ?_
  rintro e w6 ⟨⟨q6, c6, rfl⟩, hb6⟩
  clear z0 z1 z2 z3 z4 z5 z6 z7 z8
  obtain ⟨R7, hR7⟩ : ∃ R7, w6.alloc (.cells #[.string ⟨#[1, 98, 1, 97, 0]⟩, .slice q6 0 c6, .bool true] 61) = R7 := ⟨_, rfl⟩
  have X7 : Bx w6 w6.heap.size [.string ⟨#[1, 98, 1, 97, 0]⟩, .slice q6 0 c6, .bool true] 61 R7 := hR7 ▸ Bx.new w6 _ _
  obtain ⟨B7, hB7⟩ : ∃ B7, w6.heap.size = B7 := ⟨_, rfl⟩
  rw [hB7] at X7
  have hb7 : Below R5.heap.size R5 R7 := hb6.trans (X7.bel.mono hb6.size)
  obtain ⟨_, k0, kc⟩ := HK.out R7 hb7
  have z0 := kc 0 _ rfl
  have z1 := kc 1 _ rfl
  have z2 := kc 2 _ rfl
  have z3 := kc 3 _ rfl
  have z4 := kc 4 _ rfl
  have z5 := kc 5 _ rfl
  have z6 := kc 6 _ rfl
  have z7 := kc 7 _ rfl
  have z8 := kc 8 _ rfl
  have HU2a := Hid.mk (HU2.out R7 k0)
  have HR7 := Hid.mk hR7
  have HB7 := Hid.mk hB7
  have HX7 := Hid.mk X7
  have Hb7 := Hid.mk hb7
  clear k0 kc hR7 hB7 X7 hb7 hb6
  go_upto_region 5 with fail
  rw [HR7.out, HB7.out]
  go_wp2_with fail
  refine HU2a.out.mono ?_
  rintro e w8 ⟨⟨q8, c8, rfl⟩, hb8⟩
  clear z0 z1 z2 z3 z4 z5 z6 z7 z8
  obtain ⟨R9, hR9⟩ : ∃ R9, w8.alloc (.cells #[.string ⟨#[1, 97, 0]⟩, .slice q8 0 c8, .bool false] 61) = R9 := ⟨_, rfl⟩
  have X9 : Bx w8 w8.heap.size [.string ⟨#[1, 97, 0]⟩, .slice q8 0 c8, .bool false] 61 R9 := hR9 ▸ Bx.new w8 _ _
  obtain ⟨B9, hB9⟩ : ∃ B9, w8.heap.size = B9 := ⟨_, rfl⟩
  rw [hB9] at X9
  have hb9 : Below R7.heap.size R7 R9 := hb8.trans (X9.bel.mono hb8.size)
  obtain ⟨_, k0, kc⟩ := HK.out R9 (Hb7.out.trans (hb9.mono Hb7.out.size))
  have z0 := kc 0 _ rfl
  have z1 := kc 1 _ rfl
  have z2 := kc 2 _ rfl
  have z3 := kc 3 _ rfl
  have z4 := kc 4 _ rfl
  have z5 := kc 5 _ rfl
  have z6 := kc 6 _ rfl
  have z7 := kc 7 _ rfl
  have z8 := kc 8 _ rfl
  have HU3a := Hid.mk (HU3.out R9 k0)
  have HR9 := Hid.mk hR9
  have HB9 := Hid.mk hB9
  have HX9 := Hid.mk X9
  have Hb9 := Hid.mk hb9
  clear k0 kc hR9 hB9 X9 hb9 hb8
  go_upto_region 6 with fail
  rw [HR9.out, HB9.out]
  go_wp2_with fail
  refine HU3a.out.mono ?_
  rintro e w10 ⟨rfl, hb10⟩
  clear z0 z1 z2 z3 z4 z5 z6 z7 z8
  have HF : Hid (∀ o : Obj, Below W.heap.size W (w10.alloc o) ∧ (w10.alloc o).cell? ⟨B7, 2, none⟩ = some (.bool true) ∧ (w10.alloc o).cell? ⟨B9, 2, none⟩ = some (.bool false)) := fun o => by
    have h1 : Below R9.heap.size R9 (w10.alloc o) := hb10.alloc hb10.size _
    refine ⟨(HK.out _ ((Hb7.out.trans (Hb9.out.mono Hb7.out.size)).trans (h1.mono (Nat.le_trans Hb7.out.size Hb9.out.size)))).1, (HX7.out.blk (Hb9.out.trans (h1.mono Hb9.out.size))).cell 2 _ rfl, (HX9.out.blk h1).cell 2 _ rfl⟩
  obtain ⟨fb, f7, f9⟩ := HF.out (.cells #[.string ⟨#[]⟩, .slice none 0 0, .bool false] 61)
  have HE := Hid.mk fb
  clear fb hb10
  go_wp2
  go_ret
  exact ⟨rfl, HE.out⟩
end Go.Proofs.YtdlcldjlfhmlgaaGreatDoor
/- Layer 13: addresses and prefixes that are not the same. -/
namespace Go.Proofs.YtdlcldjlfhmlgaaGreatDoor.A
open Go.RowKit
end Go.Proofs.YtdlcldjlfhmlgaaGreatDoor.A
/- Layer 13: the document's Right, width, bytes, bit. -/
namespace Go.Proofs.YtdlcldjlfhmlgaaGreatDoor.A
open Go.RowKit
def bv (l : List UInt8) : List Value := l.map fun b => .int .u8 (b.toNat : Int)
set_option maxRecDepth 100000 in
theorem rright_in (w : World) (v : Bool) (h l : Nat) :
    Calls Tryz.prog 78 #[adV v h l] w fun e w' => e = .returned (.bool (decide (Ad.right ⟨v, h, l⟩))) ∧ Below w.heap.size w w' := by
  cases v with
  | true =>
    go_enter Tryz.func78, Tryz.ntmps78
    go_wp2
    go_ret
    exact ⟨by simp [Ad.right], by go_grown⟩
  | false =>
    by_cases h0 : h = 0
    · subst h0
      go_enter Tryz.func78, Tryz.ntmps78
      go_wp2
      go_ret
      have e : decide (Ad.right ⟨false, 0, l⟩) = decide ((l : Int) < 4294967296) := by
        rw [decide_eq_decide]
        simp only [Ad.right, Bool.false_eq_true, false_or, true_and, Nat.reducePow]
        omega
      exact ⟨by rw [e]; rfl, by go_grown⟩
    · go_enter Tryz.func78, Tryz.ntmps78
      go_wp2
      go_ret
      exact ⟨by simp [Ad.right, h0], by go_grown⟩
set_option maxRecDepth 100000 in
theorem rwidth_in (w : World) (v : Bool) (h l : Nat) :
    Calls Tryz.prog 108 #[adV v h l] w fun e w' => e = .returned (.int .i64 (Ad.wd ⟨v, h, l⟩ : Nat)) ∧ Below w.heap.size w w' := by
  cases v with
  | true =>
    go_enter Tryz.func108, Tryz.ntmps108
    go_wp2
    go_ret
    exact ⟨rfl, by go_grown⟩
  | false =>
    go_enter Tryz.func108, Tryz.ntmps108
    go_wp2
    go_ret
    exact ⟨rfl, by go_grown⟩
def bAppB (a : Array Value) : Sem Value := Builtin.append_ #[143, 143] 143 a
theorem app_b (a : Array Value) : Builtin.append_ #[143, 143] 143 a = bAppB a := rfl
theorem info5 : (Tryz.prog.info? 5).map (fun i => (i.zero, i.size, i.bytes)) = some (some (.int .u8 0), 1, 1) := by kernel_rfl
theorem row_ge {W : World} {base e size k : Nat} {v : Value} {xs : List Value} (hr : W.ownsRow base e size v k xs) {b : Nat} (h : v.ownBlock = some b) : base ≤ b := by
  rcases hr.2 with ⟨rfl, _⟩ | ⟨g, cap, cur, rfl, hb, _⟩
  · simp [Value.ownBlock] at h
  · obtain rfl : g = b := by simpa [Value.ownBlock] using h
    exact hb
theorem cell_one (W : World) (x : Value) (e : TypeId) : ∀ (j : Nat) u, [x][j]? = some u → (W.alloc (.cells #[x] e (0, 0))).cell? ((⟨W.heap.size, 0, none⟩ : Addr).add j) = some u := by
  intro j u hu
  match j, hu with
  | 0, hu =>
    cases hu
    exact cell_of_heap (heap_alloc_last _ _) rfl
theorem bapp1 {W : World} {base k : Nat} {v : Value} {xs : List Value} (hown : W.ownsRow base 5 1 v k xs) (hb : base ≤ W.heap.size) (hk : k ≤ 1000) (x : Int) :
    ∃ v' w1, (bAppB #[v, .slice (some ⟨W.heap.size, 0, none⟩) 1 1]).run Tryz.prog (W.alloc (.cells #[.int .u8 x] 5 (0, 0))) = .ok v' w1 ∧ w1.ownsRow base 5 1 v' (k + 1) (xs ++ [.int .u8 x]) ∧ Below base W w1 := by
  obtain ⟨i0, hi, hz0, hz1, hz2⟩ := info_parts info5
  obtain ⟨v', w1, hrun, hown', hg, _⟩ := run_append_own (P := Tryz.prog) (W.alloc (.cells #[.int .u8 x] 5 (0, 0))) base 143 143 5 i0 (.int .u8 0) 1 1 Tryz.underlying143 hi hz0 hz1 hz2 rfl (by decide) v k xs (hown.alloc _) ⟨W.heap.size, 0, none⟩ 1 1 [.int .u8 x] rfl (cell_one _ _ _) (by simp [Value.oneCell']) (by unfold maxLen; omega) (by omega) (by simp; omega)
  refine ⟨v', w1, hrun, hown', ?_⟩
  have h0 : Below base W (W.alloc (.cells #[.int .u8 x] 5 (0, 0))) := (Below.refl _ _).alloc hb _
  exact h0.grown hg (by simp; omega) (fun b hb' => row_ge hown hb')
def bw (x n : Nat) : List UInt8 := (List.range n).map fun i => UInt8.ofNat (x / 2 ^ (8 * (n - 1 - i)) % 256)
def byts (a : Ad) : List UInt8 := if a.v6 then bw a.hi 8 ++ bw a.lo 8 else bw a.lo 4
theorem bw_len (x n : Nat) : (bw x n).length = n := by simp [bw]
theorem bw_take (x n m : Nat) (h : m < n) : (bw x n).take (m + 1) = (bw x n).take m ++ [UInt8.ofNat (x / 2 ^ (8 * (n - 1 - m)) % 256)] := by
  rw [List.take_add_one]
  congr 1
  unfold bw
  rw [List.getElem?_map, List.getElem?_range h]
  rfl
theorem bv_app (a b : List UInt8) : bv (a ++ b) = bv a ++ bv b := by simp [bv]
def ByRel (V : World) (P Q : List UInt8) (N : Nat) (v i : Value) (wr : World) : Prop :=
  ∃ (m : Nat) (x : Int) (L : List UInt8), m ≤ N ∧ x = (N : Int) - 1 - m ∧ L = P ++ Q.take m ∧ i = .int .i64 x ∧ wr.ownsRow V.heap.size 5 1 v L.length (bv L) ∧ Below V.heap.size V wr
theorem ofNat_div (x k : Nat) : ((UInt8.ofNat (x / 2 ^ k % 256)).toNat : Int) = (x : Int) / 2 ^ k % 256 := by
  rw [UInt8.toNat_ofNat', show (x : Int) / 2 ^ k = ((x / 2 ^ k : Nat) : Int) by rw [Int.natCast_ediv, Int.natCast_pow]; rfl]
  omega
theorem row_sh {W : World} {base e size k : Nat} {v : Value} {xs : List Value} (h : W.ownsRow base e size v k xs) : ∃ q cap, v = .slice q k cap := by
  rcases h.2 with ⟨rfl, rfl⟩ | ⟨g, cap, cur, hv, _⟩
  · exact ⟨none, 0, rfl⟩
  · exact ⟨_, _, hv⟩
theorem row_conv {W : World} {base : Nat} {q : Option Addr} {cq : Nat} {L : List UInt8} (h : W.ownsRow base 5 1 (.slice q L.length cq) L.length (bv L)) (hne : L ≠ []) : (convert 143 9 (.slice q L.length cq)).run Tryz.prog W = .ok (.string ⟨L.toArray⟩) W := by
  rcases h.2 with ⟨_, h0⟩ | ⟨g, cap, cur, hv, hb, hg, hc, hm, hs, ht⟩
  · exact absurd (List.eq_nil_of_length_eq_zero h0) hne
  · cases hv
    refine run_convert_bytes_back (P := Tryz.prog) W 143 9 5 ⟨g, 0, none⟩ cq L Tryz.underlying143 Tryz.underlying5 Tryz.underlying9 (fun j hj => ?_)
    rw [Lib.add_plain, Nat.zero_add]
    have h1 : (bv L)[j]? = some (.int .u8 (L[j].toNat : Int)) := by simp [bv, hj]
    rw [← ht, List.getElem?_take, if_pos (by omega)] at h1
    exact cell_of_heap hg (by simpa using h1)
section
attribute [local go_sem ↓] app_b
set_option maxRecDepth 100000 in
set_option maxHeartbeats 4000000 in
theorem bytes4_in (W : World) (h l : Nat) : Calls Tryz.prog 142 #[adV false h l] W fun e w' => e = .returned (.string ⟨(bw l 4).toArray⟩) ∧ Below W.heap.size W w' := by
  obtain ⟨V, hV, HB⟩ : ∃ V, W.alloc (adO false h l) = V ∧ Hid (Below W.heap.size W V) := ⟨_, rfl, by unfold Hid; go_grown⟩
  have HV : Hid (W.heap.size < V.heap.size) := by rw [← hV]; unfold Hid; simp
  have HC2 : Hid (V.cell? ⟨W.heap.size, 2, none⟩ = some (.int .u64 (l : Int))) := by rw [← hV]; exact (ad_cells W false h l).2.2
  have HL : Hid (([] : List UInt8).length ≤ 16 ∧ (bw l 4).length ≤ 16) := ⟨by simp, by rw [bw_len]; omega⟩
  have HZ : Hid ([] ++ bw l 4 = bw l 4) := rfl
  have hc0 : V.cell? ⟨W.heap.size, 0, none⟩ = some (.bool false) := by rw [← hV]; exact (ad_cells W false h l).1
  go_enter Tryz.func142, Tryz.ntmps142
  go_wp2
  try rw [hV]
  clear hV
  go_loopw [3, 6] (fun v i wr => ByRel V [] (bw l 4) 4 v i wr) (fun _ i _ => (intOf i + 1).toNat)
  case atStart => exact ⟨0, 3, [], by omega, rfl, rfl, rfl, World.ownsRow_nil .., Below.refl _ _⟩
  case round =>
    obtain ⟨m, x, L, hm, hx, hLe, rfl, hrow, hbl⟩ := hrel
    have hcc := (hbl.cell (p := ⟨W.heap.size, 2, none⟩) HV.out).trans HC2.out
    have hLl : L.length ≤ 32 := by
      have := HL.out
      rw [hLe, List.length_append, List.length_take]
      omega
    by_cases hlt : m < 4
    · obtain ⟨q, cq, hq⟩ := row_sh hrow
      subst hq
      obtain ⟨K, hK⟩ : ∃ K, 4 - 1 - m = K := ⟨_, rfl⟩
      obtain rfl : x = (K : Int) := by omega
      obtain ⟨v', w1, r1, hr1, hb1⟩ := bapp1 hrow hbl.size (by omega) ((UInt8.ofNat (l / 2 ^ (8 * K) % 256)).toNat : Int)
      obtain ⟨q2, cq2, hq2⟩ := row_sh hr1
      subst hq2
      have HE : Hid (ByRel V [] (bw l 4) 4 (.slice q2 (L.length + 1) cq2) (.int .i64 ((K : Int) - 1)) w1) := by
        refine ⟨m + 1, _, L ++ [UInt8.ofNat (l / 2 ^ (8 * K) % 256)], by omega, by omega, ?_, rfl, ?_, hbl.trans hb1⟩
        · rw [bw_take _ _ _ hlt, hLe, List.append_assoc, hK]
        · rw [bv_app, List.length_append]
          exact hr1
      rw [ofNat_div] at r1
      have hK8 : K ≤ 7 := by omega
      have hmn : min (8 * K) 64 = 8 * K := by omega
      obtain ⟨E8, hE8⟩ : ∃ E8, 8 * K = E8 := ⟨_, rfl⟩
      rw [hE8] at r1 hmn
      have hwm : IntKind.i64.wrap (8 * (K : Int)) = (E8 : Int) := by rw [wrapI (by omega) (by omega)]; omega
      have hE8b : E8 ≤ 56 := by omega
      clear hr1 hb1 hbl hlt hrow hx hLe hK hE8
      go_wp2
      exact ⟨HE.out, by first | (simp [intOf]; done) | (simp [intOf]; omega)⟩
    · obtain rfl : m = 4 := by omega
      obtain rfl : x = -1 := by omega
      rw [List.take_of_length_le (by rw [bw_len]; exact Nat.le_refl _)] at hLe
      obtain ⟨q, cq, hq⟩ := row_sh hrow
      subst hq
      have hcv : (convert 143 9 (.slice q L.length cq)).run Tryz.prog wr = .ok (.string ⟨L.toArray⟩) wr := row_conv hrow (by rw [hLe]; simp [bw])
      have HLE := Hid.mk hLe
      clear hrow hLe
      go_wp2
      go_ret
      exact ⟨by rw [← HZ.out, ← HLE.out]; rfl, HB.out.trans (hbl.mono HB.out.size)⟩
set_option maxRecDepth 100000 in
set_option maxHeartbeats 4000000 in
theorem bytes6_in (W : World) (h l : Nat) : Calls Tryz.prog 142 #[adV true h l] W fun e w' => e = .returned (.string ⟨(bw h 8 ++ bw l 8).toArray⟩) ∧ Below W.heap.size W w' := by
  obtain ⟨V, hV, HB⟩ : ∃ V, W.alloc (adO true h l) = V ∧ Hid (Below W.heap.size W V) := ⟨_, rfl, by unfold Hid; go_grown⟩
  have HV : Hid (W.heap.size < V.heap.size) := by rw [← hV]; unfold Hid; simp
  have HC1 : Hid (V.cell? ⟨W.heap.size, 1, none⟩ = some (.int .u64 (h : Int))) := by rw [← hV]; exact (ad_cells W true h l).2.1
  have HC2 : Hid (V.cell? ⟨W.heap.size, 2, none⟩ = some (.int .u64 (l : Int))) := by rw [← hV]; exact (ad_cells W true h l).2.2
  have HL : Hid ((bw h 8).length ≤ 16 ∧ ([] : List UInt8).length ≤ 16 ∧ (bw h 8).length ≤ 16 ∧ (bw l 8).length ≤ 16) := ⟨by rw [bw_len]; omega, by simp, by rw [bw_len]; omega, by rw [bw_len]; omega⟩
  have HZ : Hid ([] ++ bw h 8 = bw h 8) := rfl
  have HZ2 : Hid (bw h 8 ++ bw l 8 = bw h 8 ++ bw l 8) := rfl
  have hc0 : V.cell? ⟨W.heap.size, 0, none⟩ = some (.bool true) := by rw [← hV]; exact (ad_cells W true h l).1
  go_enter Tryz.func142, Tryz.ntmps142
  go_wp2
  try rw [hV]
  clear hV
  go_loopw [3, 4] (fun v i wr => ByRel V [] (bw h 8) 8 v i wr) (fun _ i _ => (intOf i + 1).toNat)
  case atStart => exact ⟨0, 7, [], by omega, rfl, rfl, rfl, World.ownsRow_nil .., Below.refl _ _⟩
  case round =>
    obtain ⟨m, x, L, hm, hx, hLe, rfl, hrow, hbl⟩ := hrel
    have hcc := (hbl.cell (p := ⟨W.heap.size, 1, none⟩) HV.out).trans HC1.out
    have hLl : L.length ≤ 32 := by
      have := HL.out
      rw [hLe, List.length_append, List.length_take]
      omega
    by_cases hlt : m < 8
    · obtain ⟨q, cq, hq⟩ := row_sh hrow
      subst hq
      obtain ⟨K, hK⟩ : ∃ K, 8 - 1 - m = K := ⟨_, rfl⟩
      obtain rfl : x = (K : Int) := by omega
      obtain ⟨v', w1, r1, hr1, hb1⟩ := bapp1 hrow hbl.size (by omega) ((UInt8.ofNat (h / 2 ^ (8 * K) % 256)).toNat : Int)
      obtain ⟨q2, cq2, hq2⟩ := row_sh hr1
      subst hq2
      have HE : Hid (ByRel V [] (bw h 8) 8 (.slice q2 (L.length + 1) cq2) (.int .i64 ((K : Int) - 1)) w1) := by
        refine ⟨m + 1, _, L ++ [UInt8.ofNat (h / 2 ^ (8 * K) % 256)], by omega, by omega, ?_, rfl, ?_, hbl.trans hb1⟩
        · rw [bw_take _ _ _ hlt, hLe, List.append_assoc, hK]
        · rw [bv_app, List.length_append]
          exact hr1
      rw [ofNat_div] at r1
      have hK8 : K ≤ 7 := by omega
      have hmn : min (8 * K) 64 = 8 * K := by omega
      obtain ⟨E8, hE8⟩ : ∃ E8, 8 * K = E8 := ⟨_, rfl⟩
      rw [hE8] at r1 hmn
      have hwm : IntKind.i64.wrap (8 * (K : Int)) = (E8 : Int) := by rw [wrapI (by omega) (by omega)]; omega
      have hE8b : E8 ≤ 56 := by omega
      clear hr1 hb1 hbl hlt hrow hx hLe hK hE8
      go_wp2
      exact ⟨HE.out, by first | (simp [intOf]; done) | (simp [intOf]; omega)⟩
    · obtain rfl : m = 8 := by omega
      obtain rfl : x = -1 := by omega
      rw [List.take_of_length_le (by rw [bw_len]; exact Nat.le_refl _)] at hLe
      obtain ⟨q, cq, hq⟩ := row_sh hrow
      subst hq
      have HST : Hid (ByRel V (bw h 8) (bw l 8) 8 (.slice q L.length cq) (.int .i64 7) wr) := ⟨0, 7, L, by omega, rfl, by rw [hLe]; rfl, rfl, hrow, hbl⟩
      clear hrow hbl hLe
      go_wp2
      go_loopw [3, 5] (fun v i wr => ByRel V (bw h 8) (bw l 8) 8 v i wr) (fun _ i _ => (intOf i + 1).toNat)
      case atStart => exact HST.out
      case round =>
        obtain ⟨m, x, L, hm, hx, hLe, rfl, hrow, hbl⟩ := hrel
        have hcc := (hbl.cell (p := ⟨W.heap.size, 2, none⟩) HV.out).trans HC2.out
        have hLl : L.length ≤ 32 := by
          have := HL.out
          rw [hLe, List.length_append, List.length_take]
          omega
        by_cases hlt : m < 8
        · obtain ⟨q, cq, hq⟩ := row_sh hrow
          subst hq
          obtain ⟨K, hK⟩ : ∃ K, 8 - 1 - m = K := ⟨_, rfl⟩
          obtain rfl : x = (K : Int) := by omega
          obtain ⟨v', w1, r1, hr1, hb1⟩ := bapp1 hrow hbl.size (by omega) ((UInt8.ofNat (l / 2 ^ (8 * K) % 256)).toNat : Int)
          obtain ⟨q2, cq2, hq2⟩ := row_sh hr1
          subst hq2
          have HE : Hid (ByRel V (bw h 8) (bw l 8) 8 (.slice q2 (L.length + 1) cq2) (.int .i64 ((K : Int) - 1)) w1) := by
            refine ⟨m + 1, _, L ++ [UInt8.ofNat (l / 2 ^ (8 * K) % 256)], by omega, by omega, ?_, rfl, ?_, hbl.trans hb1⟩
            · rw [bw_take _ _ _ hlt, hLe, List.append_assoc, hK]
            · rw [bv_app, List.length_append]
              exact hr1
          rw [ofNat_div] at r1
          have hK8 : K ≤ 7 := by omega
          have hmn : min (8 * K) 64 = 8 * K := by omega
          obtain ⟨E8, hE8⟩ : ∃ E8, 8 * K = E8 := ⟨_, rfl⟩
          rw [hE8] at r1 hmn
          have hwm : IntKind.i64.wrap (8 * (K : Int)) = (E8 : Int) := by rw [wrapI (by omega) (by omega)]; omega
          have hE8b : E8 ≤ 56 := by omega
          clear hr1 hb1 hbl hlt hrow hx hLe hK hE8
          go_wp2
          exact ⟨HE.out, by first | (simp [intOf]; done) | (simp [intOf]; omega)⟩
        · obtain rfl : m = 8 := by omega
          obtain rfl : x = -1 := by omega
          rw [List.take_of_length_le (by rw [bw_len]; exact Nat.le_refl _)] at hLe
          obtain ⟨q, cq, hq⟩ := row_sh hrow
          subst hq
          have hcv : (convert 143 9 (.slice q L.length cq)).run Tryz.prog wr = .ok (.string ⟨L.toArray⟩) wr := row_conv hrow (by rw [hLe]; simp [bw])
          have HLE := Hid.mk hLe
          clear hrow hLe
          go_wp2
          go_ret
          exact ⟨by rw [← HLE.out]; rfl, HB.out.trans (hbl.mono HB.out.size)⟩
end
theorem bytes_in (W : World) (v : Bool) (h l : Nat) : Calls Tryz.prog 142 #[adV v h l] W fun e w' => e = .returned (.string ⟨(byts ⟨v, h, l⟩).toArray⟩) ∧ Below W.heap.size W w' := by
  cases v
  · exact bytes4_in W h l
  · exact bytes6_in W h l
end Go.Proofs.YtdlcldjlfhmlgaaGreatDoor.A
