/- Texts of this proof, joined: LfY. -/
import Derived.Deep.RegionHeld3
import Derived.Deep.DeepCutAuto
import Derived.Test.YtdlcldjlfhmlgaaGreatDoorJ33
import Derived.Test.YtdlcldjlfhmlgaaGreatDoorJ26
set_option linter.unusedVariables false
set_option linter.unusedSimpArgs false
/- Layer 15: ConfigNear's walk. -/
namespace Go.Proofs.YtdlcldjlfhmlgaaGreatDoor
open Go.RowKit
section
attribute [local go_sem ↓] app_aUp app_aAn
set_option maxRecDepth 100000 in
set_option maxHeartbeats 16000000 in
theorem cfnear_walk (W : World) (k : Cq) (c : Cf) (hat : CfAt W k c) (hin : CfIn c) (htt : CfTight c) (u : Up) (hu : UpIn u) (qs : Option Addr) (cs : Nat) (hads : A.AdsAt W qs u.sv) (hsh : ShC u.sv.length cs qs) (a : An) (ha : AnIn a) (s : ByteArray) (hs : s.size ≤ maxLen) :
  Calls Tryz.prog 6 #[cfV k c, .agg (upC u qs cs), .agg (anC a), .string s] W fun e w' => e = .returned (.bool true) ∧ Below W.heap.size W w' := by
 have HE := Hid.mk examples15_in
 obtain ⟨N, hN⟩ : ∃ N, W.heap.size = N := ⟨_, rfl⟩
 have HNN := Hid.mk hN
 have HPu : Hid (∀ w, Below N W w → Calls Tryz.prog 21 #[cfV k c, .string s] w fun e w' => ∃ q n cc f, e = .returned (.tuple #[.agg #[.string (upN c s), .slice q n cc, .bool f], .bool (upB c s)]) ∧ Below w.heap.size w w') := fun w hb => (upstream_in w k c (hat.blk (by rw [hN]; exact hb)) hin s hs).mono fun e w' h => up_form h
 have HPa : Hid (∀ w, Below N W w → Calls Tryz.prog 22 #[cfV k c, .string s] w fun e w' => ∃ q cc, e = .returned (.tuple #[.string (ancN c s), .slice q (ancL c s).length cc, .bool (ancB c s)]) ∧ Below w.heap.size w w') := fun w hb => (anchor_in w k c (hat.blk (by rw [hN]; exact hb)) hin s hs).mono fun e w' h => anc_form' h
 obtain ⟨c', hc'⟩ : ∃ c' : Cf, (⟨c.rt, c.ru, c.lc, c.up ++ [u], c.an ++ [a], c.n0, c.n1, c.n2, c.n3⟩ : Cf) = c' := ⟨_, rfl⟩
 have hin' : CfIn c' := hc' ▸ near_in hin htt hu ha
 have HCf : Hid (∀ D wc w, N ≤ D → Below N W wc → AnJ N D k c u a wc w → ∃ k', CfAt w k' c' ∧ w.heap[D]? = some (.cells (cfC k' c') 51 (0, 0))) := fun D wc w h1 h2 h3 => by
  have := AnJ.cf hN h1 hat h2 h3
  rw [hc'] at this
  exact this
 have HQu : Hid (∀ w k', CfAt w k' c' → Calls Tryz.prog 21 #[cfV k' c', .string s] w fun e w' => ∃ q n cc f, e = .returned (.tuple #[.agg #[.string (upN c' s), .slice q n cc, .bool f], .bool (upB c' s)]) ∧ Below w.heap.size w w') := fun w k' h => (upstream_in w k' c' h hin' s hs).mono fun e w' h => up_form h
 have HQa : Hid (∀ w k', CfAt w k' c' → Calls Tryz.prog 22 #[cfV k' c', .string s] w fun e w' => ∃ q cc, e = .returned (.tuple #[.string (ancN c' s), .slice q (ancL c' s).length cc, .bool (ancB c' s)]) ∧ Below w.heap.size w w') := fun w k' h => (anchor_in w k' c' h hin' s hs).mono fun e w' h => anc_form' h
 have HEu : Hid (undF s u.nm = false → upN c' s = upN c s ∧ upB c' s = upB c s) := fun h => by
  unfold upN upB
  rw [upO_app (c := c) (c' := c') (by rw [← hc']) h]
  exact ⟨rfl, rfl⟩
 have HEa : Hid (undF s a.nm = false → ancN c' s = ancN c s ∧ ancB c' s = ancB c s ∧ (ancL c' s).length = (ancL c s).length) := fun h => ancO_app (by rw [← hc']) h
 have HX : Hid (if upB c s = true then undF s (upN c s) = true else upN c s = ⟨#[]⟩) := upN_is c s
 have HY : Hid (ancB c s = true → undF s (ancN c s) = true ∧ 0 < (ancL c s).length) := ancN_is c s
 have HUu : Hid (∀ w, Calls Tryz.prog 23 #[.string s, .string u.nm] w fun e w' => e = .returned (.bool (undF s u.nm)) ∧ Below w.heap.size w w') := fun w => nunder_in s u.nm hs hu.1 w
 have HUa : Hid (∀ w, Calls Tryz.prog 23 #[.string s, .string a.nm] w fun e w' => e = .returned (.bool (undF s a.nm)) ∧ Below w.heap.size w w') := fun w => nunder_in s a.nm hs ha.1 w
 have HUX : Hid (∀ w, Calls Tryz.prog 23 #[.string s, .string (upN c s)] w fun e w' => e = .returned (.bool (undF s (upN c s))) ∧ Below w.heap.size w w') := fun w => nunder_in s _ hs (upN_size hin s) w
 have HUY : Hid (∀ w, Calls Tryz.prog 23 #[.string s, .string (ancN c s)] w fun e w' => e = .returned (.bool (undF s (ancN c s))) ∧ Below w.heap.size w w') := fun w => nunder_in s _ hs (ancN_size hin s) w
 have hr5 : RowsAt 3 (UpRow N) W k.q3 c.up := by rw [← hN]; exact up_rows hat.up
 have hr6 : RowsAt 5 AnRow W k.q4 c.an := an_rows hat.an
 have ht3 := htt.t3
 have ht4 := htt.t4
 have hrow5 : ∀ wc, Below N W wc → RowsAt 3 (UpRow N) wc k.q3 c.up ∧ N ≤ wc.heap.size ∧ UpRow N wc u [.string u.nm, .slice qs u.sv.length cs, .bool u.fw] := fun wc hb => ⟨rows_blk (upOkR N) hr5 (by rw [hN]; exact hb) (Nat.le_of_eq hN.symm), by rw [← hN]; exact hb.size, qs, cs, rfl, hads.blk (by rw [hN]; exact hb), hsh, fun h0 x hx => by rw [← hN]; exact ads_block hads h0 x hx⟩
 have HR5 : Hid (∀ wc, Below N W wc → ∃ v1 w1 q2 c2 w2, (aUp #[.slice none 0 0, .slice k.q3 c.up.length k.c3]).run Tryz.prog wc = .ok v1 w1 ∧ Below wc.heap.size wc w1 ∧ (aUp #[v1, .slice (some ⟨w1.heap.size, 0, none⟩) 1 1]).run Tryz.prog (w1.alloc (.cells #[.string u.nm, .slice qs u.sv.length cs, .bool u.fw] 61)) = .ok (.slice q2 (c.up.length + 1) c2) w2 ∧ Hid (RowsAt 3 (UpRow N) w2 q2 (c.up ++ [u]) ∧ ShC (c.up.length + 1) c2 q2 ∧ Below wc.heap.size wc w2 ∧ ∀ a, q2 = some a → wc.heap.size ≤ a.block)) := fun wc hb => rows_two2 (by decide) (upOkR N) Tryz.underlying48 infoUp15 rfl (hrow5 wc hb).2.1 (hrow5 wc hb).1 hat.s3 (by omega) (by unfold maxLen; omega) (row := [.string u.nm, .slice qs u.sv.length cs, .bool u.fw]) (hrow5 wc hb).2.2
 have HR5' : Hid (∀ wc, Below N W wc → ∃ v1 w1 q2 c2 w2, (aUp #[.slice none 0 0, .slice k.q3 c.up.length k.c3]).run Tryz.prog (wc.alloc (.cells #[.string u.nm, .slice qs u.sv.length cs, .bool u.fw] 61)) = .ok v1 w1 ∧ (aUp #[v1, .slice (some ⟨wc.heap.size, 0, none⟩) 1 1]).run Tryz.prog w1 = .ok (.slice q2 (c.up.length + 1) c2) w2 ∧ Below wc.heap.size wc w1 ∧ Hid (RowsAt 3 (UpRow N) w2 q2 (c.up ++ [u]) ∧ ShC (c.up.length + 1) c2 q2 ∧ Below wc.heap.size wc w2 ∧ ∀ a, q2 = some a → wc.heap.size ≤ a.block)) := fun wc hb => rows_two' (by decide) (upOkR N) Tryz.underlying48 infoUp15 rfl (hrow5 wc hb).2.1 (hrow5 wc hb).1 hat.s3 (by omega) (by unfold maxLen; omega) (row := [.string u.nm, .slice qs u.sv.length cs, .bool u.fw]) (hrow5 wc hb).2.2
 have hrow6 : ∀ wc, Below N W wc → RowsAt 5 AnRow wc k.q4 c.an ∧ N ≤ wc.heap.size ∧ AnRow wc a [.string a.nm, .int .i64 a.tg, .int .i64 a.al, .int .i64 a.kd, .string a.dg] := fun wc hb => ⟨rows_blk (anOkR N) hr6 (by rw [hN]; exact hb) (Nat.le_of_eq hN.symm), by rw [← hN]; exact hb.size, rfl⟩
 have HR6 : Hid (∀ wc, Below N W wc → ∃ v1 w1 q2 c2 w2, (aAn #[.slice none 0 0, .slice k.q4 c.an.length k.c4]).run Tryz.prog wc = .ok v1 w1 ∧ Below wc.heap.size wc w1 ∧ (aAn #[v1, .slice (some ⟨w1.heap.size, 0, none⟩) 1 1]).run Tryz.prog (w1.alloc (.cells #[.string a.nm, .int .i64 a.tg, .int .i64 a.al, .int .i64 a.kd, .string a.dg] 71)) = .ok (.slice q2 (c.an.length + 1) c2) w2 ∧ Hid (RowsAt 5 AnRow w2 q2 (c.an ++ [a]) ∧ ShC (c.an.length + 1) c2 q2 ∧ Below wc.heap.size wc w2 ∧ ∀ a, q2 = some a → wc.heap.size ≤ a.block)) := fun wc hb => rows_two2 (by decide) (anOkR N) Tryz.underlying49 infoAn15 rfl (hrow6 wc hb).2.1 (hrow6 wc hb).1 hat.s4 (by omega) (by unfold maxLen; omega) (row := [.string a.nm, .int .i64 a.tg, .int .i64 a.al, .int .i64 a.kd, .string a.dg]) (hrow6 wc hb).2.2
 have HR6' : Hid (∀ wc, Below N W wc → ∃ v1 w1 q2 c2 w2, (aAn #[.slice none 0 0, .slice k.q4 c.an.length k.c4]).run Tryz.prog (wc.alloc (.cells #[.string a.nm, .int .i64 a.tg, .int .i64 a.al, .int .i64 a.kd, .string a.dg] 71)) = .ok v1 w1 ∧ (aAn #[v1, .slice (some ⟨wc.heap.size, 0, none⟩) 1 1]).run Tryz.prog w1 = .ok (.slice q2 (c.an.length + 1) c2) w2 ∧ Below wc.heap.size wc w1 ∧ Hid (RowsAt 5 AnRow w2 q2 (c.an ++ [a]) ∧ ShC (c.an.length + 1) c2 q2 ∧ Below wc.heap.size wc w2 ∧ ∀ a, q2 = some a → wc.heap.size ≤ a.block)) := fun wc hb => rows_two' (by decide) (anOkR N) Tryz.underlying49 infoAn15 rfl (hrow6 wc hb).2.1 (hrow6 wc hb).1 hat.s4 (by omega) (by unfold maxLen; omega) (row := [.string a.nm, .int .i64 a.tg, .int .i64 a.al, .int .i64 a.kd, .string a.dg]) (hrow6 wc hb).2.2
 obtain ⟨V, hV⟩ : ∃ V, ((W.alloc (.cells (cfC k c) 51)).alloc (.cells (upC u qs cs) 61)).alloc (.cells (anC a) 71) = V := ⟨_, rfl⟩
 have HB0 : Hid (NB W N k c u qs cs a V) := hV ▸ NB.first hN k c u qs cs a
 have HV := Hid.mk hV
 obtain ⟨P, hP⟩ : ∃ P, N + 1 = P := ⟨_, rfl⟩
 obtain ⟨R, hR⟩ : ∃ R, N + 1 + 1 = R := ⟨_, rfl⟩
 have HP := Hid.mk hP
 have HR := Hid.mk hR
 have HK : Hid (∀ w, NB W N k c u qs cs a w → CBx w N k c ∧ (w.cell? ⟨P, 0, none⟩ = some (.string u.nm) ∧ w.cell? ⟨P, 1, none⟩ = some (.slice qs u.sv.length cs) ∧ w.cell? ⟨P, 2, none⟩ = some (.bool u.fw)) ∧ (w.cell? ⟨R, 0, none⟩ = some (.string a.nm) ∧ w.cell? ⟨R, 1, none⟩ = some (.int .i64 a.tg) ∧ w.cell? ⟨R, 2, none⟩ = some (.int .i64 a.al) ∧ w.cell? ⟨R, 3, none⟩ = some (.int .i64 a.kd) ∧ w.cell? ⟨R, 4, none⟩ = some (.string a.dg))) := fun w h => by
  subst hP hR
  exact h.cells
 have HUs : Hid (∀ D wc w2 q2 c2, N ≤ D → D < wc.heap.size → wc.heap[D]? = some (.cells (cfC k c) 51 (0, 0)) → (RowsAt 3 (UpRow N) w2 q2 (c.up ++ [u]) ∧ ShC (c.up.length + 1) c2 q2 ∧ Below wc.heap.size wc w2 ∧ ∀ a, q2 = some a → wc.heap.size ≤ a.block) → w2.cell? ⟨D, 3, none⟩ = some (.slice k.q3 c.up.length k.c3) ∧ w2.frozen? ⟨D, 3, none⟩ = false ∧ Hid (UpJ N D k c u wc (w2.setCell ⟨D, 3, none⟩ (.slice q2 (c.up.length + 1) c2)))) := fun D wc w2 q2 c2 h1 h2 h3 h4 => up_store h1 h2 h3 h4
 have HAs : Hid (∀ D w0 wc w2 q5 c5, N ≤ D → D < wc.heap.size → UpJ N D k c u w0 wc → (RowsAt 5 AnRow w2 q5 (c.an ++ [a]) ∧ ShC (c.an.length + 1) c5 q5 ∧ Below wc.heap.size wc w2 ∧ ∀ a, q5 = some a → wc.heap.size ≤ a.block) → w2.cell? ⟨D, 4, none⟩ = some (.slice k.q4 c.an.length k.c4) ∧ w2.frozen? ⟨D, 4, none⟩ = false ∧ Hid (AnJ N D k c u a wc (w2.setCell ⟨D, 4, none⟩ (.slice q5 (c.an.length + 1) c5)))) := fun D w0 wc w2 q5 c5 h1 h2 h3 h4 => an_store h1 h2 h3 h4
 obtain ⟨X, hX⟩ : ∃ x, upN c s = x := ⟨_, rfl⟩
 obtain ⟨ub, hub⟩ : ∃ x, upB c s = x := ⟨_, rfl⟩
 obtain ⟨Y, hY⟩ : ∃ x, ancN c s = x := ⟨_, rfl⟩
 obtain ⟨ab, hab⟩ : ∃ x, ancB c s = x := ⟨_, rfl⟩
 obtain ⟨m, hm⟩ : ∃ x, (ancL c s).length = x := ⟨_, rfl⟩
 obtain ⟨X2, hX2⟩ : ∃ x, upN c' s = x := ⟨_, rfl⟩
 obtain ⟨ub2, hub2⟩ : ∃ x, upB c' s = x := ⟨_, rfl⟩
 obtain ⟨Y2, hY2⟩ : ∃ x, ancN c' s = x := ⟨_, rfl⟩
 obtain ⟨ab2, hab2⟩ : ∃ x, ancB c' s = x := ⟨_, rfl⟩
 obtain ⟨m2, hm2⟩ : ∃ x, (ancL c' s).length = x := ⟨_, rfl⟩
 obtain ⟨uu, huu⟩ : ∃ x, undF s u.nm = x := ⟨_, rfl⟩
 obtain ⟨aa, haa⟩ : ∃ x, undF s a.nm = x := ⟨_, rfl⟩
 rw [hX, hub] at HPu HX
 rw [hY, hab, hm] at HPa HY
 rw [hX2, hub2] at HQu
 rw [hY2, hab2, hm2] at HQa
 rw [huu, hX, hub, hX2, hub2] at HEu
 rw [haa, hY, hab, hm, hY2, hab2, hm2] at HEa
 rw [huu] at HUu
 rw [haa] at HUa
 rw [hX] at HUX
 rw [hY] at HUY
 obtain ⟨k0, hk0⟩ : ∃ k0, k = k0 := ⟨_, rfl⟩
 obtain ⟨q0, c0, q1, c1, q2, c2, q3, c3, q4, c4⟩ := k
 simp only [cfV, cfC] at HPu HPa HV ⊢
 simp only [CBx] at HK
 simp only at HR5 HR5' HR6 HR6'
 rw [hk0] at HK HB0 HUs HAs HCf
 have HK0 := Hid.mk hk0
 rw [hN]
 clear hat hin htt hu hads hsh ha hs hc' hin' hr5 hr6 ht3 ht4 hrow5 hrow6 hV hP hR hX hub hY hab hm hX2 hub2 hY2 hab2 hm2 huu haa hk0
 go_enter Tryz.func6, Tryz.ntmps6
 go_upto_region 1 with fail
 rw [HV.out, HR.out, HP.out]
 clear hN
 go_wp2_with fail
 refine (HE.out _).mono ?_
 rintro e w1 ⟨rfl, hb1⟩
 have HB1 : Hid (NB W N k0 c u qs cs a w1) := HB0.out.blk hb1
 obtain ⟨⟨x0, x1, x2, x3, x4, x5, x6, x7, x8⟩, _, _⟩ := HK.out _ HB1.out
 have HC1 := Hid.mk (HPu.out _ HB1.out.bel)
 clear hb1
 go_wp2_with fail
 refine HC1.out.mono ?_
 rintro e w2 ⟨qa, na, ca, fa, rfl, hb2⟩
 clear x0 x1 x2 x3 x4 x5 x6 x7 x8
 have HB2 : Hid (NB W N k0 c u qs cs a w2) := HB1.out.blk hb2
 obtain ⟨U, hU⟩ : ∃ U, w2.alloc (.cells #[.string X, .slice qa na ca, .bool fa] 61) = U := ⟨_, rfl⟩
 obtain ⟨T, hT⟩ : ∃ T, w2.heap.size = T := ⟨_, rfl⟩
 have hbT : U.heap[T]? = some (.cells #[.string X, .slice qa na ca, .bool fa] 61 (0, 0)) := by rw [← hU, ← hT]; exact heap_alloc_new w2 _
 have HBT := Hid.mk hbT
 have HBU : Hid (NB W N k0 c u qs cs a U) := HB2.out.blk (by rw [← hU]; exact (Below.refl _ _).alloc (Nat.le_refl _) _)
 have HU := Hid.mk hU
 have HT := Hid.mk hT
 clear hb2 hU hT hbT
 go_upto_region 3 with fail
 rw [HU.out, HT.out]
 obtain ⟨⟨x0, x1, x2, x3, x4, x5, x6, x7, x8⟩, _, _⟩ := HK.out _ HBU.out
 have HC2 := Hid.mk (HPa.out _ HBU.out.bel)
 go_wp2_with fail
 refine HC2.out.mono ?_
 rintro e w3 ⟨qb, cb, rfl, hb3⟩
 clear x0 x1 x2 x3 x4 x5 x6 x7 x8
 have HB3 : Hid (NB W N k0 c u qs cs a w3) := HBU.out.blk hb3
 have hTU : T < U.heap.size := (Array.getElem?_eq_some_iff.1 HBT.out).1
 have hbT3 : w3.heap[T]? = _ := (hb3.block T hTU).trans HBT.out
 have hT3 : T < w3.heap.size := Nat.lt_of_lt_of_le hTU hb3.size
 obtain ⟨V4, hV4⟩ : ∃ V4, w3.alloc (.cells #[.slice q0 c.rt.length c0, .slice q1 c.ru.length c1, .slice q2 c.lc.length c2, .slice q3 c.up.length c3, .slice q4 c.an.length c4, .int .i64 c.n0, .int .i64 c.n1, .int .i64 c.n2, .int .i64 c.n3] 51) = V4 := ⟨_, rfl⟩
 obtain ⟨D, hD⟩ : ∃ D, w3.heap.size = D := ⟨_, rfl⟩
 have b34 : Below w3.heap.size w3 V4 := by rw [← hV4]; exact (Below.refl _ _).alloc (Nat.le_refl _) _
 have HB4 : Hid (NB W N k0 c u qs cs a V4) := HB3.out.blk b34
 have hbD : V4.heap[D]? = some (.cells (cfC k0 c) 51 (0, 0)) := by rw [← hV4, ← hD, ← HK0.out]; exact heap_alloc_new w3 _
 have HBD := Hid.mk hbD
 have HDlt : Hid (D < V4.heap.size) := (Array.getElem?_eq_some_iff.1 hbD).1
 have HND : Hid (N + 2 < D) := by rw [← hD]; exact HB3.out.lt
 have HTD : Hid (T < D) := by rw [← hD]; exact hT3
 have HBT4 : Hid (V4.heap[T]? = some (.cells #[.string X, .slice qa na ca, .bool fa] 61 (0, 0))) := (b34.block T hT3).trans hbT3
 have HV4 := Hid.mk hV4
 have HD := Hid.mk hD
 clear hb3 hTU hbT3 hT3 hV4 hD b34 hbD
 obtain ⟨⟨x0, x1, x2, x3, x4, x5, x6, x7, x8⟩, _, _⟩ := HK.out _ HB3.out
 go_upto_region 5 with fail
 rw [HV4.out, HD.out]
 clear x0 x1 x2 x3 x4 x5 x6 x7 x8
 have HS5 : Hid (∀ w, Below D V4 w → (fun w' : World => w'.cell? ⟨N, 3, none⟩ = some (.slice q3 c.up.length c3) ∧ w'.cell? ⟨P, 0, none⟩ = some (.string u.nm) ∧ w'.cell? ⟨P, 1, none⟩ = some (.slice qs u.sv.length cs) ∧ w'.cell? ⟨P, 2, none⟩ = some (.bool u.fw)) w) := fun w hb => by
  obtain ⟨⟨_, _, _, x3, _⟩, ⟨y0, y1, y2⟩, _⟩ := HK.out _ (HB4.out.to HND.out hb)
  exact ⟨x3, y0, y1, y2⟩
 go_cut [] (fun wx => UpJ N D k0 c u V4.drew wx)
 case first =>
  have hS0 := HS5.out _ (Below.refl _ _).drew
  have hS1 := HS5.out _ (Below.refl _ _)
  have hbV : Below N W V4.drew := HB4.out.bel.drew
  have hDd : D < V4.drew.heap.size := HDlt.out
  have hsz : V4.drew.heap.size = V4.heap.size := rfl
  have bDV : Below D V4 V4.drew := (Below.refl _ _).drew
  have hDle : D ≤ V4.drew.heap.size := Nat.le_of_lt hDd
  refine wp_region_held_drew (S := (fun w' : World => w'.cell? ⟨N, 3, none⟩ = some (.slice q3 c.up.length c3) ∧ w'.cell? ⟨P, 0, none⟩ = some (.string u.nm) ∧ w'.cell? ⟨P, 1, none⟩ = some (.slice qs u.sv.length cs) ∧ w'.cell? ⟨P, 2, none⟩ = some (.bool u.fw))) (by kernel_rfl) hS0 (fun hHeld => ?_)
  refine wU (i := 0) (v := ?ve_0) rfl ?ye_0 (by assumption) ?_
  case ye_0 => (intro w hSw; (try dsimp only at hSw); go_simp; try with_reducible rfl)
  refine wU (i := 1) (v := ?ve_1) rfl ?ye_1 (by assumption) ?_
  case ye_1 => (intro w hSw; (try dsimp only at hSw); go_simp; try with_reducible rfl)
  refine wU (i := 3) (v := ?ve_3) rfl ?ye_3 (by assumption) ?_
  case ye_3 => (intro w hSw; (try dsimp only at hSw); go_simp; try with_reducible rfl)
  try simp only [Act.put, List.getElem_toArray, List.getElem_cons_succ, List.getElem_cons_zero, List.setIfInBounds_toArray, List.set_cons_zero, List.set_cons_succ]
  refine wpAnyH_ready (rs := [2, 4]) (by kernel_rfl) (by simp) ?_
  refine AllReadyH.cons rfl (fun K hK => ?_) (AllReadyH.cons rfl (fun K hK => ?_) AllReadyH.nil)
  ·obtain ⟨v1, w1, q9, c9, w9, r1, hb1, r2, HH⟩ := HR5.out V4.drew hbV
   obtain ⟨g1, g2, HJ⟩ := HUs.out D V4.drew w9 q9 c9 (by have := HND.out; omega) hDd HBD.out HH.out
   have b1 : Below D V4 w1 := bDV.trans (hb1.mono hDle)
   have b2 : Below D V4 (w1.alloc (.cells #[.string u.nm, .slice qs u.sv.length cs, .bool u.fw] 61)) := b1.alloc (Nat.le_trans hDle hb1.size) _
   have bJ : Below D V4 w9 := bDV.trans (HH.out.2.2.1.mono hDle)
   refine step_aUp rfl _ _ rfl rfl _ _ _ _ rfl rfl r1 ?_
   refine hK.out _ _ (HS5.out _ b1) (fun hHeld => ?_)
   clear hK K r1
   try simp only [Act.put, List.getElem_toArray, List.getElem_cons_succ, List.getElem_cons_zero, List.setIfInBounds_toArray, List.set_cons_zero, List.set_cons_succ]
   refine wpAnyH_ready (rs := [4]) (by kernel_rfl) (by simp) ?_
   refine AllReadyH.cons rfl (fun K hK => ?_) AllReadyH.nil
   go_simp
   refine hK.out _ _ (HS5.out _ b2) (fun hHeld => ?_)
   clear hK K
   try simp only [Act.put, List.getElem_toArray, List.getElem_cons_succ, List.getElem_cons_zero, List.setIfInBounds_toArray, List.set_cons_zero, List.set_cons_succ]
   refine wpAnyH_ready (rs := [5]) (by kernel_rfl) (by simp) ?_
   refine AllReadyH.cons rfl (fun K hK => ?_) AllReadyH.nil
   refine step_aUp rfl _ _ rfl rfl _ _ _ _ rfl rfl r2 ?_
   refine hK.out _ _ (HS5.out _ bJ) (fun hHeld => ?_)
   clear hK K r2
   try simp only [Act.put, List.getElem_toArray, List.getElem_cons_succ, List.getElem_cons_zero, List.setIfInBounds_toArray, List.set_cons_zero, List.set_cons_succ]
   refine wU (i := 6) (v := ?ve1_6) rfl ?ye1_6 (by assumption) ?_
   case ye1_6 => (intro w hSw; (try dsimp only at hSw); go_simp; try with_reducible rfl)
   try simp only [Act.put, List.getElem_toArray, List.getElem_cons_succ, List.getElem_cons_zero, List.setIfInBounds_toArray, List.set_cons_zero, List.set_cons_succ]
   refine wpAnyH_ready (rs := [7]) (by kernel_rfl) (by simp) ?_
   refine AllReadyH.cons rfl (fun K hK => ?_) AllReadyH.nil
   have f1 := g1
   have f2 := g2
   go_simp
   refine hK.out _ _ (HS5.out _ (bJ.setCell (p := ⟨D, 3, none⟩) (Nat.le_refl _) _)) (fun hHeld => ?_)
   clear hK K
   try simp only [Act.put, List.getElem_toArray, List.getElem_cons_succ, List.getElem_cons_zero, List.setIfInBounds_toArray, List.set_cons_zero, List.set_cons_succ]
   refine wpAnyH_done (by kernel_rfl) ?_ _
   clear hHeld
   go_wp2
   go_meet
   exact HJ.out
  ·obtain ⟨v1, w1, q9, c9, w9, r1, r2, hb1, HH⟩ := HR5'.out V4.drew hbV
   obtain ⟨g1, g2, HJ⟩ := HUs.out D V4.drew w9 q9 c9 (by have := HND.out; omega) hDd HBD.out HH.out
   have b1 : Below D V4 w1 := bDV.trans (hb1.mono hDle)
   have b2 : Below D V4 (V4.drew.alloc (.cells #[.string u.nm, .slice qs u.sv.length cs, .bool u.fw] 61)) := bDV.alloc hDle _
   have bJ : Below D V4 w9 := bDV.trans (HH.out.2.2.1.mono hDle)
   go_simp
   refine hK.out _ _ (HS5.out _ b2) (fun hHeld => ?_)
   clear hK K
   try simp only [Act.put, List.getElem_toArray, List.getElem_cons_succ, List.getElem_cons_zero, List.setIfInBounds_toArray, List.set_cons_zero, List.set_cons_succ]
   refine wpAnyH_ready (rs := [2]) (by kernel_rfl) (by simp) ?_
   refine AllReadyH.cons rfl (fun K hK => ?_) AllReadyH.nil
   refine step_aUp rfl _ _ rfl rfl _ _ _ _ rfl rfl r1 ?_
   refine hK.out _ _ (HS5.out _ b1) (fun hHeld => ?_)
   clear hK K r1
   try simp only [Act.put, List.getElem_toArray, List.getElem_cons_succ, List.getElem_cons_zero, List.setIfInBounds_toArray, List.set_cons_zero, List.set_cons_succ]
   refine wpAnyH_ready (rs := [5]) (by kernel_rfl) (by simp) ?_
   refine AllReadyH.cons rfl (fun K hK => ?_) AllReadyH.nil
   refine step_aUp rfl _ _ rfl rfl _ _ _ _ rfl rfl r2 ?_
   refine hK.out _ _ (HS5.out _ bJ) (fun hHeld => ?_)
   clear hK K r2
   try simp only [Act.put, List.getElem_toArray, List.getElem_cons_succ, List.getElem_cons_zero, List.setIfInBounds_toArray, List.set_cons_zero, List.set_cons_succ]
   refine wU (i := 6) (v := ?ve2_6) rfl ?ye2_6 (by assumption) ?_
   case ye2_6 => (intro w hSw; (try dsimp only at hSw); go_simp; try with_reducible rfl)
   try simp only [Act.put, List.getElem_toArray, List.getElem_cons_succ, List.getElem_cons_zero, List.setIfInBounds_toArray, List.set_cons_zero, List.set_cons_succ]
   refine wpAnyH_ready (rs := [7]) (by kernel_rfl) (by simp) ?_
   refine AllReadyH.cons rfl (fun K hK => ?_) AllReadyH.nil
   have f1 := g1
   have f2 := g2
   go_simp
   refine hK.out _ _ (HS5.out _ (bJ.setCell (p := ⟨D, 3, none⟩) (Nat.le_refl _) _)) (fun hHeld => ?_)
   clear hK K
   try simp only [Act.put, List.getElem_toArray, List.getElem_cons_succ, List.getElem_cons_zero, List.setIfInBounds_toArray, List.set_cons_zero, List.set_cons_succ]
   refine wpAnyH_done (by kernel_rfl) ?_ _
   clear hHeld
   go_wp2
   go_meet
   exact HJ.out
 case rest =>
  obtain ⟨w5, hw5⟩ : ∃ w5, wc = w5 := ⟨_, rfl⟩
  subst hw5
  have HJ5 := Hid.mk hcut
  have hb5 : Below D V4 wc := (Below.refl _ _).drew.trans (by obtain ⟨_, _, _, _, _, h, _⟩ := hcut; exact h)
  have HB5 : Hid (NB W N k0 c u qs cs a wc) := HB4.out.to HND.out hb5
  have HBT5 : Hid (wc.heap[T]? = some (.cells #[.string X, .slice qa na ca, .bool fa] 61 (0, 0))) := (hb5.block T HTD.out).trans HBT4.out
  have HD5 : Hid (D < wc.heap.size) := Nat.lt_of_lt_of_le HDlt.out hb5.size
  have HS6 : Hid (∀ w, Below D wc w → (fun w' : World => w'.cell? ⟨N, 4, none⟩ = some (.slice q4 c.an.length c4) ∧ w'.cell? ⟨R, 0, none⟩ = some (.string a.nm) ∧ w'.cell? ⟨R, 1, none⟩ = some (.int .i64 a.tg) ∧ w'.cell? ⟨R, 2, none⟩ = some (.int .i64 a.al) ∧ w'.cell? ⟨R, 3, none⟩ = some (.int .i64 a.kd) ∧ w'.cell? ⟨R, 4, none⟩ = some (.string a.dg)) w) := fun w hb => by
   obtain ⟨⟨_, _, _, _, x4, _⟩, _, ⟨y0, y1, y2, y3, y4⟩⟩ := HK.out _ (HB5.out.to HND.out hb)
   exact ⟨x4, y0, y1, y2, y3, y4⟩
  clear hcut hb5
  obtain ⟨w5, hw5⟩ : ∃ w5, wc = w5 := ⟨_, rfl⟩
  rw [hw5] at HJ5 HB5 HBT5 HD5 HS6 ⊢
  clear hw5 wc
  go_upto_region 6 with fail
  go_cut [] (fun wx => AnJ N D k0 c u a w5.drew wx)
  case first =>
   have hS0 := HS6.out _ (Below.refl _ _).drew
   have hS1 := HS6.out _ (Below.refl _ _)
   have hbV : Below N W w5.drew := HB5.out.bel.drew
   have hDd : D < w5.drew.heap.size := HD5.out
   have hsz : w5.drew.heap.size = w5.heap.size := rfl
   have bDV : Below D w5 w5.drew := (Below.refl _ _).drew
   have hDle : D ≤ w5.drew.heap.size := Nat.le_of_lt hDd
   refine wp_region_held_drew (S := (fun w' : World => w'.cell? ⟨N, 4, none⟩ = some (.slice q4 c.an.length c4) ∧ w'.cell? ⟨R, 0, none⟩ = some (.string a.nm) ∧ w'.cell? ⟨R, 1, none⟩ = some (.int .i64 a.tg) ∧ w'.cell? ⟨R, 2, none⟩ = some (.int .i64 a.al) ∧ w'.cell? ⟨R, 3, none⟩ = some (.int .i64 a.kd) ∧ w'.cell? ⟨R, 4, none⟩ = some (.string a.dg))) (by kernel_rfl) hS0 (fun hHeld => ?_)
   refine wU (i := 0) (v := ?vf_0) rfl ?yf_0 (by assumption) ?_
   case yf_0 => (intro w hSw; (try dsimp only at hSw); go_simp; try with_reducible rfl)
   refine wU (i := 1) (v := ?vf_1) rfl ?yf_1 (by assumption) ?_
   case yf_1 => (intro w hSw; (try dsimp only at hSw); go_simp; try with_reducible rfl)
   refine wU (i := 3) (v := ?vf_3) rfl ?yf_3 (by assumption) ?_
   case yf_3 => (intro w hSw; (try dsimp only at hSw); go_simp; try with_reducible rfl)
   try simp only [Act.put, List.getElem_toArray, List.getElem_cons_succ, List.getElem_cons_zero, List.setIfInBounds_toArray, List.set_cons_zero, List.set_cons_succ]
   refine wpAnyH_ready (rs := [2, 4]) (by kernel_rfl) (by simp) ?_
   refine AllReadyH.cons rfl (fun K hK => ?_) (AllReadyH.cons rfl (fun K hK => ?_) AllReadyH.nil)
   ·obtain ⟨v1, w1, q9, c9, w9, r1, hb1, r2, HH⟩ := HR6.out w5.drew hbV
    obtain ⟨g1, g2, HJ⟩ := HAs.out D _ w5.drew w9 q9 c9 (by have := HND.out; omega) hDd (UpJ.drew HJ5.out) HH.out
    have b1 : Below D w5 w1 := bDV.trans (hb1.mono hDle)
    have b2 : Below D w5 (w1.alloc (.cells #[.string a.nm, .int .i64 a.tg, .int .i64 a.al, .int .i64 a.kd, .string a.dg] 71)) := b1.alloc (Nat.le_trans hDle hb1.size) _
    have bJ : Below D w5 w9 := bDV.trans (HH.out.2.2.1.mono hDle)
    refine step_aAn rfl _ _ rfl rfl _ _ _ _ rfl rfl r1 ?_
    refine hK.out _ _ (HS6.out _ b1) (fun hHeld => ?_)
    clear hK K r1
    try simp only [Act.put, List.getElem_toArray, List.getElem_cons_succ, List.getElem_cons_zero, List.setIfInBounds_toArray, List.set_cons_zero, List.set_cons_succ]
    refine wpAnyH_ready (rs := [4]) (by kernel_rfl) (by simp) ?_
    refine AllReadyH.cons rfl (fun K hK => ?_) AllReadyH.nil
    go_simp
    refine hK.out _ _ (HS6.out _ b2) (fun hHeld => ?_)
    clear hK K
    try simp only [Act.put, List.getElem_toArray, List.getElem_cons_succ, List.getElem_cons_zero, List.setIfInBounds_toArray, List.set_cons_zero, List.set_cons_succ]
    refine wpAnyH_ready (rs := [5]) (by kernel_rfl) (by simp) ?_
    refine AllReadyH.cons rfl (fun K hK => ?_) AllReadyH.nil
    refine step_aAn rfl _ _ rfl rfl _ _ _ _ rfl rfl r2 ?_
    refine hK.out _ _ (HS6.out _ bJ) (fun hHeld => ?_)
    clear hK K r2
    try simp only [Act.put, List.getElem_toArray, List.getElem_cons_succ, List.getElem_cons_zero, List.setIfInBounds_toArray, List.set_cons_zero, List.set_cons_succ]
    refine wU (i := 6) (v := ?vf1_6) rfl ?yf1_6 (by assumption) ?_
    case yf1_6 => (intro w hSw; (try dsimp only at hSw); go_simp; try with_reducible rfl)
    try simp only [Act.put, List.getElem_toArray, List.getElem_cons_succ, List.getElem_cons_zero, List.setIfInBounds_toArray, List.set_cons_zero, List.set_cons_succ]
    refine wpAnyH_ready (rs := [7]) (by kernel_rfl) (by simp) ?_
    refine AllReadyH.cons rfl (fun K hK => ?_) AllReadyH.nil
    have f1 := g1
    have f2 := g2
    go_simp
    refine hK.out _ _ (HS6.out _ (bJ.setCell (p := ⟨D, 4, none⟩) (Nat.le_refl _) _)) (fun hHeld => ?_)
    clear hK K
    try simp only [Act.put, List.getElem_toArray, List.getElem_cons_succ, List.getElem_cons_zero, List.setIfInBounds_toArray, List.set_cons_zero, List.set_cons_succ]
    refine wpAnyH_done (by kernel_rfl) ?_ _
    clear hHeld
    go_wp2
    go_meet
    exact HJ.out
   ·obtain ⟨v1, w1, q9, c9, w9, r1, r2, hb1, HH⟩ := HR6'.out w5.drew hbV
    obtain ⟨g1, g2, HJ⟩ := HAs.out D _ w5.drew w9 q9 c9 (by have := HND.out; omega) hDd (UpJ.drew HJ5.out) HH.out
    have b1 : Below D w5 w1 := bDV.trans (hb1.mono hDle)
    have b2 : Below D w5 (w5.drew.alloc (.cells #[.string a.nm, .int .i64 a.tg, .int .i64 a.al, .int .i64 a.kd, .string a.dg] 71)) := bDV.alloc hDle _
    have bJ : Below D w5 w9 := bDV.trans (HH.out.2.2.1.mono hDle)
    go_simp
    refine hK.out _ _ (HS6.out _ b2) (fun hHeld => ?_)
    clear hK K
    try simp only [Act.put, List.getElem_toArray, List.getElem_cons_succ, List.getElem_cons_zero, List.setIfInBounds_toArray, List.set_cons_zero, List.set_cons_succ]
    refine wpAnyH_ready (rs := [2]) (by kernel_rfl) (by simp) ?_
    refine AllReadyH.cons rfl (fun K hK => ?_) AllReadyH.nil
    refine step_aAn rfl _ _ rfl rfl _ _ _ _ rfl rfl r1 ?_
    refine hK.out _ _ (HS6.out _ b1) (fun hHeld => ?_)
    clear hK K r1
    try simp only [Act.put, List.getElem_toArray, List.getElem_cons_succ, List.getElem_cons_zero, List.setIfInBounds_toArray, List.set_cons_zero, List.set_cons_succ]
    refine wpAnyH_ready (rs := [5]) (by kernel_rfl) (by simp) ?_
    refine AllReadyH.cons rfl (fun K hK => ?_) AllReadyH.nil
    refine step_aAn rfl _ _ rfl rfl _ _ _ _ rfl rfl r2 ?_
    refine hK.out _ _ (HS6.out _ bJ) (fun hHeld => ?_)
    clear hK K r2
    try simp only [Act.put, List.getElem_toArray, List.getElem_cons_succ, List.getElem_cons_zero, List.setIfInBounds_toArray, List.set_cons_zero, List.set_cons_succ]
    refine wU (i := 6) (v := ?vf2_6) rfl ?yf2_6 (by assumption) ?_
    case yf2_6 => (intro w hSw; (try dsimp only at hSw); go_simp; try with_reducible rfl)
    try simp only [Act.put, List.getElem_toArray, List.getElem_cons_succ, List.getElem_cons_zero, List.setIfInBounds_toArray, List.set_cons_zero, List.set_cons_succ]
    refine wpAnyH_ready (rs := [7]) (by kernel_rfl) (by simp) ?_
    refine AllReadyH.cons rfl (fun K hK => ?_) AllReadyH.nil
    have f1 := g1
    have f2 := g2
    go_simp
    refine hK.out _ _ (HS6.out _ (bJ.setCell (p := ⟨D, 4, none⟩) (Nat.le_refl _) _)) (fun hHeld => ?_)
    clear hK K
    try simp only [Act.put, List.getElem_toArray, List.getElem_cons_succ, List.getElem_cons_zero, List.setIfInBounds_toArray, List.set_cons_zero, List.set_cons_succ]
    refine wpAnyH_done (by kernel_rfl) ?_ _
    clear hHeld
    go_wp2
    go_meet
    exact HJ.out
  case rest =>
   have hb6 : Below D w5 wc := (Below.refl _ _).drew.trans (by obtain ⟨_, _, _, _, _, _, _, _, _, h⟩ := hcut; exact h)
   obtain ⟨k', hat', hbx'⟩ := HCf.out D _ wc (by have := HND.out; omega) (HB5.out.bel.drew) hcut
   have HB6 : Hid (NB W N k0 c u qs cs a wc) := HB5.out.to HND.out hb6
   have HBT6 : Hid (wc.heap[T]? = some (.cells #[.string X, .slice qa na ca, .bool fa] 61 (0, 0))) := (hb6.block T HTD.out).trans HBT5.out
   have HBX6 := Hid.mk hbx'
   have HAT6 := Hid.mk hat'
   have HC7 : Hid (∀ w, Below wc.heap.size wc w → CfAt w k' c' ∧ CBx w D k' c') := fun w hb => ⟨HAT6.out.blk hb, cbx_of ((hb.block D (Array.getElem?_eq_some_iff.1 HBX6.out).1).trans HBX6.out)⟩
   clear hcut hb6 hat' hbx'
   obtain ⟨w6, hw6⟩ : ∃ w6, wc = w6 := ⟨_, rfl⟩
   rw [hw6] at HB6 HBT6 HC7 ⊢
   clear HBX6 HAT6
   clear hw6 wc
   obtain ⟨q0', c0', q1', c1', q2', c2', q3', c3', q4', c4'⟩ := k'
   simp only [cfV, cfC] at HQu HQa
   simp only [CBx] at HC7
   obtain ⟨a7, x0, x1, x2, x3, x4, x5, x6, x7, x8⟩ := HC7.out _ (Below.refl _ _)
   have HC71 := Hid.mk (HQu.out _ _ a7)
   clear a7
   simp only at HC71
   go_wp2_with fail
   refine HC71.out.mono ?_
   rintro e w7 ⟨qd, nd, cd, fd, rfl, hb7⟩
   clear x0 x1 x2 x3 x4 x5 x6 x7 x8
   obtain ⟨U7, hU7⟩ : ∃ U7, w7.alloc (.cells #[.string X2, .slice qd nd cd, .bool fd] 61) = U7 := ⟨_, rfl⟩
   obtain ⟨Z, hZ⟩ : ∃ Z, w7.heap.size = Z := ⟨_, rfl⟩
   have hbZ : U7.heap[Z]? = some (.cells #[.string X2, .slice qd nd cd, .bool fd] 61 (0, 0)) := by rw [← hU7, ← hZ]; exact heap_alloc_new w7 _
   have b67 : Below w6.heap.size w6 U7 := hb7.trans (by rw [← hU7]; exact (Below.refl _ _).alloc hb7.size _)
   have HBZ := Hid.mk hbZ
   have H67 := Hid.mk b67
   have HU7 := Hid.mk hU7
   have HZ := Hid.mk hZ
   obtain ⟨a7, x0, x1, x2, x3, x4, x5, x6, x7, x8⟩ := HC7.out _ b67
   have HC8 := Hid.mk (HQa.out _ _ a7)
   simp only at HC8
   clear a7 hb7 hU7 hZ hbZ b67
   go_upto_region 8 with fail
   rw [HU7.out, HZ.out]
   go_wp2_with fail
   refine HC8.out.mono ?_
   rintro e w8 ⟨qe, ce, rfl, hb8⟩
   clear x0 x1 x2 x3 x4 x5 x6 x7 x8
   have HF : Hid (∀ w, Below w8.heap.size w8 w → Below N W w ∧ w.cell? ⟨P, 0, none⟩ = some (.string u.nm) ∧ w.cell? ⟨R, 0, none⟩ = some (.string a.nm) ∧ w.cell? ⟨T, 0, none⟩ = some (.string X) ∧ w.cell? ⟨Z, 0, none⟩ = some (.string X2)) := fun w hb => by
    have h8 : Below U7.heap.size U7 w := hb8.trans (hb.mono hb8.size)
    have h6 : Below w6.heap.size w6 w := H67.out.trans (h8.mono H67.out.size)
    have hNB := HB6.out.blk h6
    obtain ⟨_, ⟨y0, _, _⟩, ⟨z0, _, _, _, _⟩⟩ := HK.out _ hNB
    have t0 := (h6.block T (Array.getElem?_eq_some_iff.1 HBT6.out).1).trans HBT6.out
    have t1 := (h8.block Z (Array.getElem?_eq_some_iff.1 HBZ.out).1).trans HBZ.out
    exact ⟨hNB.bel, y0, z0, by rw [So.cell_blk t0]; rfl, by rw [So.cell_blk t1]; rfl⟩
   clear hb8 HB6 HBT6 HC7 HC71 HC8 HQu HQa HBZ H67 HB0 HB1 HB2 HBU HBT HB3 HB4 HBD HBT4 HB5 HBT5 HJ5 HS5 HS6 HR5 HR5' HR6 HR6' HUs HAs HCf HPu HPa HC1 HC2
   rcases uu with _ | _ <;> rcases aa with _ | _ <;> rcases ub with _ | _ <;> rcases ab with _ | _
   ·obtain ⟨rfl, rfl⟩ := HEu.out rfl
    obtain ⟨rfl, rfl, rfl⟩ := HEa.out rfl
    have hx := HX.out
    rw [if_neg (by decide)] at hx
    subst hx
    clear HX HY HEu HEa
    obtain ⟨_, y0, z0, t0, t1⟩ := HF.out _ (Below.refl _ _)
    go_wp2_with fail
    refine (HUu.out _).mono ?_
    rintro e w9 ⟨rfl, hb9⟩
    clear y0 z0 t0 t1
    have H9 := Hid.mk hb9
    obtain ⟨_, y0, z0, t0, t1⟩ := HF.out _ H9.out
    clear hb9
    go_wp2_with fail
    refine (HUa.out _).mono ?_
    rintro e w10 ⟨rfl, hb10⟩
    clear y0 z0 t0 t1
    have H10 := Hid.mk (H9.out.trans (hb10.mono H9.out.size))
    obtain ⟨k10, y0, z0, t0, t1⟩ := HF.out _ H10.out
    have HK10 := Hid.mk k10
    clear hb10 k10
    go_wp2
    go_ret
    exact ⟨rfl, HK10.out⟩
   ·obtain ⟨rfl, rfl⟩ := HEu.out rfl
    obtain ⟨rfl, rfl, rfl⟩ := HEa.out rfl
    have hx := HX.out
    rw [if_neg (by decide)] at hx
    subst hx
    obtain ⟨hy, hmp⟩ := HY.out rfl
    rw [hy] at HUY
    clear hy
    have hmz := Int.natCast_pos.2 hmp
    clear HX HY HEu HEa
    obtain ⟨_, y0, z0, t0, t1⟩ := HF.out _ (Below.refl _ _)
    go_wp2_with fail
    refine (HUu.out _).mono ?_
    rintro e w9 ⟨rfl, hb9⟩
    clear y0 z0 t0 t1
    have H9 := Hid.mk hb9
    obtain ⟨_, y0, z0, t0, t1⟩ := HF.out _ H9.out
    clear hb9
    go_wp2_with fail
    refine (HUa.out _).mono ?_
    rintro e w10 ⟨rfl, hb10⟩
    clear y0 z0 t0 t1
    have H10 := Hid.mk (H9.out.trans (hb10.mono H9.out.size))
    obtain ⟨k10, y0, z0, t0, t1⟩ := HF.out _ H10.out
    have HK10 := Hid.mk k10
    clear hb10 k10
    go_wp2_with fail
    refine (HUY.out _).mono ?_
    rintro e w12 ⟨rfl, hb12⟩
    clear y0 z0 t0 t1
    obtain ⟨k12, y0, z0, t0, t1⟩ := HF.out _ (H10.out.trans (hb12.mono H10.out.size))
    have HK12 := Hid.mk k12
    clear hb12 k12
    go_wp2
    go_ret
    exact ⟨rfl, HK12.out⟩
   ·obtain ⟨rfl, rfl⟩ := HEu.out rfl
    obtain ⟨rfl, rfl, rfl⟩ := HEa.out rfl
    have hx := HX.out
    rw [if_pos rfl] at hx
    rw [hx] at HUX
    clear hx
    clear HX HY HEu HEa
    obtain ⟨_, y0, z0, t0, t1⟩ := HF.out _ (Below.refl _ _)
    go_wp2_with fail
    refine (HUu.out _).mono ?_
    rintro e w9 ⟨rfl, hb9⟩
    clear y0 z0 t0 t1
    have H9 := Hid.mk hb9
    obtain ⟨_, y0, z0, t0, t1⟩ := HF.out _ H9.out
    clear hb9
    go_wp2_with fail
    refine (HUa.out _).mono ?_
    rintro e w10 ⟨rfl, hb10⟩
    clear y0 z0 t0 t1
    have H10 := Hid.mk (H9.out.trans (hb10.mono H9.out.size))
    obtain ⟨k10, y0, z0, t0, t1⟩ := HF.out _ H10.out
    have HK10 := Hid.mk k10
    clear hb10 k10
    go_wp2_with fail
    refine (HUX.out _).mono ?_
    rintro e w11 ⟨rfl, hb11⟩
    clear y0 z0 t0 t1
    have H11 := Hid.mk (H10.out.trans (hb11.mono H10.out.size))
    obtain ⟨k11, y0, z0, t0, t1⟩ := HF.out _ H11.out
    have HK11 := Hid.mk k11
    clear hb11 k11
    go_wp2
    go_ret
    exact ⟨rfl, HK11.out⟩
   ·obtain ⟨rfl, rfl⟩ := HEu.out rfl
    obtain ⟨rfl, rfl, rfl⟩ := HEa.out rfl
    have hx := HX.out
    rw [if_pos rfl] at hx
    rw [hx] at HUX
    obtain ⟨hy, hmp⟩ := HY.out rfl
    rw [hy] at HUY
    clear hy
    have hmz := Int.natCast_pos.2 hmp
    clear hx
    clear HX HY HEu HEa
    obtain ⟨_, y0, z0, t0, t1⟩ := HF.out _ (Below.refl _ _)
    go_wp2_with fail
    refine (HUu.out _).mono ?_
    rintro e w9 ⟨rfl, hb9⟩
    clear y0 z0 t0 t1
    have H9 := Hid.mk hb9
    obtain ⟨_, y0, z0, t0, t1⟩ := HF.out _ H9.out
    clear hb9
    go_wp2_with fail
    refine (HUa.out _).mono ?_
    rintro e w10 ⟨rfl, hb10⟩
    clear y0 z0 t0 t1
    have H10 := Hid.mk (H9.out.trans (hb10.mono H9.out.size))
    obtain ⟨k10, y0, z0, t0, t1⟩ := HF.out _ H10.out
    have HK10 := Hid.mk k10
    clear hb10 k10
    go_wp2_with fail
    refine (HUX.out _).mono ?_
    rintro e w11 ⟨rfl, hb11⟩
    clear y0 z0 t0 t1
    have H11 := Hid.mk (H10.out.trans (hb11.mono H10.out.size))
    obtain ⟨k11, y0, z0, t0, t1⟩ := HF.out _ H11.out
    have HK11 := Hid.mk k11
    clear hb11 k11
    go_wp2_with fail
    refine (HUY.out _).mono ?_
    rintro e w12 ⟨rfl, hb12⟩
    clear y0 z0 t0 t1
    obtain ⟨k12, y0, z0, t0, t1⟩ := HF.out _ (H11.out.trans (hb12.mono H11.out.size))
    have HK12 := Hid.mk k12
    clear hb12 k12
    go_wp2
    go_ret
    exact ⟨rfl, HK12.out⟩
   ·obtain ⟨rfl, rfl⟩ := HEu.out rfl
    have hx := HX.out
    rw [if_neg (by decide)] at hx
    subst hx
    clear HX HY HEu HEa
    obtain ⟨_, y0, z0, t0, t1⟩ := HF.out _ (Below.refl _ _)
    go_wp2_with fail
    refine (HUu.out _).mono ?_
    rintro e w9 ⟨rfl, hb9⟩
    clear y0 z0 t0 t1
    have H9 := Hid.mk hb9
    obtain ⟨_, y0, z0, t0, t1⟩ := HF.out _ H9.out
    clear hb9
    go_wp2_with fail
    refine (HUa.out _).mono ?_
    rintro e w10 ⟨rfl, hb10⟩
    clear y0 z0 t0 t1
    have H10 := Hid.mk (H9.out.trans (hb10.mono H9.out.size))
    obtain ⟨k10, y0, z0, t0, t1⟩ := HF.out _ H10.out
    have HK10 := Hid.mk k10
    clear hb10 k10
    go_wp2
    go_ret
    exact ⟨rfl, HK10.out⟩
   ·obtain ⟨rfl, rfl⟩ := HEu.out rfl
    have hx := HX.out
    rw [if_neg (by decide)] at hx
    subst hx
    obtain ⟨hy, hmp⟩ := HY.out rfl
    rw [hy] at HUY
    clear hy
    have hmz := Int.natCast_pos.2 hmp
    clear HX HY HEu HEa
    obtain ⟨_, y0, z0, t0, t1⟩ := HF.out _ (Below.refl _ _)
    go_wp2_with fail
    refine (HUu.out _).mono ?_
    rintro e w9 ⟨rfl, hb9⟩
    clear y0 z0 t0 t1
    have H9 := Hid.mk hb9
    obtain ⟨_, y0, z0, t0, t1⟩ := HF.out _ H9.out
    clear hb9
    go_wp2_with fail
    refine (HUa.out _).mono ?_
    rintro e w10 ⟨rfl, hb10⟩
    clear y0 z0 t0 t1
    have H10 := Hid.mk (H9.out.trans (hb10.mono H9.out.size))
    obtain ⟨k10, y0, z0, t0, t1⟩ := HF.out _ H10.out
    have HK10 := Hid.mk k10
    clear hb10 k10
    go_wp2_with fail
    refine (HUY.out _).mono ?_
    rintro e w12 ⟨rfl, hb12⟩
    clear y0 z0 t0 t1
    obtain ⟨k12, y0, z0, t0, t1⟩ := HF.out _ (H10.out.trans (hb12.mono H10.out.size))
    have HK12 := Hid.mk k12
    clear hb12 k12
    go_wp2
    go_ret
    exact ⟨rfl, HK12.out⟩
   ·obtain ⟨rfl, rfl⟩ := HEu.out rfl
    have hx := HX.out
    rw [if_pos rfl] at hx
    rw [hx] at HUX
    clear hx
    clear HX HY HEu HEa
    obtain ⟨_, y0, z0, t0, t1⟩ := HF.out _ (Below.refl _ _)
    go_wp2_with fail
    refine (HUu.out _).mono ?_
    rintro e w9 ⟨rfl, hb9⟩
    clear y0 z0 t0 t1
    have H9 := Hid.mk hb9
    obtain ⟨_, y0, z0, t0, t1⟩ := HF.out _ H9.out
    clear hb9
    go_wp2_with fail
    refine (HUa.out _).mono ?_
    rintro e w10 ⟨rfl, hb10⟩
    clear y0 z0 t0 t1
    have H10 := Hid.mk (H9.out.trans (hb10.mono H9.out.size))
    obtain ⟨k10, y0, z0, t0, t1⟩ := HF.out _ H10.out
    have HK10 := Hid.mk k10
    clear hb10 k10
    go_wp2_with fail
    refine (HUX.out _).mono ?_
    rintro e w11 ⟨rfl, hb11⟩
    clear y0 z0 t0 t1
    have H11 := Hid.mk (H10.out.trans (hb11.mono H10.out.size))
    obtain ⟨k11, y0, z0, t0, t1⟩ := HF.out _ H11.out
    have HK11 := Hid.mk k11
    clear hb11 k11
    go_wp2
    go_ret
    exact ⟨rfl, HK11.out⟩
   ·obtain ⟨rfl, rfl⟩ := HEu.out rfl
    have hx := HX.out
    rw [if_pos rfl] at hx
    rw [hx] at HUX
    obtain ⟨hy, hmp⟩ := HY.out rfl
    rw [hy] at HUY
    clear hy
    have hmz := Int.natCast_pos.2 hmp
    clear hx
    clear HX HY HEu HEa
    obtain ⟨_, y0, z0, t0, t1⟩ := HF.out _ (Below.refl _ _)
    go_wp2_with fail
    refine (HUu.out _).mono ?_
    rintro e w9 ⟨rfl, hb9⟩
    clear y0 z0 t0 t1
    have H9 := Hid.mk hb9
    obtain ⟨_, y0, z0, t0, t1⟩ := HF.out _ H9.out
    clear hb9
    go_wp2_with fail
    refine (HUa.out _).mono ?_
    rintro e w10 ⟨rfl, hb10⟩
    clear y0 z0 t0 t1
    have H10 := Hid.mk (H9.out.trans (hb10.mono H9.out.size))
    obtain ⟨k10, y0, z0, t0, t1⟩ := HF.out _ H10.out
    have HK10 := Hid.mk k10
    clear hb10 k10
    go_wp2_with fail
    refine (HUX.out _).mono ?_
    rintro e w11 ⟨rfl, hb11⟩
    clear y0 z0 t0 t1
    have H11 := Hid.mk (H10.out.trans (hb11.mono H10.out.size))
    obtain ⟨k11, y0, z0, t0, t1⟩ := HF.out _ H11.out
    have HK11 := Hid.mk k11
    clear hb11 k11
    go_wp2_with fail
    refine (HUY.out _).mono ?_
    rintro e w12 ⟨rfl, hb12⟩
    clear y0 z0 t0 t1
    obtain ⟨k12, y0, z0, t0, t1⟩ := HF.out _ (H11.out.trans (hb12.mono H11.out.size))
    have HK12 := Hid.mk k12
    clear hb12 k12
    go_wp2
    go_ret
    exact ⟨rfl, HK12.out⟩
   ·obtain ⟨rfl, rfl, rfl⟩ := HEa.out rfl
    have hx := HX.out
    rw [if_neg (by decide)] at hx
    subst hx
    clear HX HY HEu HEa
    obtain ⟨_, y0, z0, t0, t1⟩ := HF.out _ (Below.refl _ _)
    go_wp2_with fail
    refine (HUu.out _).mono ?_
    rintro e w9 ⟨rfl, hb9⟩
    clear y0 z0 t0 t1
    have H9 := Hid.mk hb9
    obtain ⟨_, y0, z0, t0, t1⟩ := HF.out _ H9.out
    clear hb9
    go_wp2_with fail
    refine (HUa.out _).mono ?_
    rintro e w10 ⟨rfl, hb10⟩
    clear y0 z0 t0 t1
    have H10 := Hid.mk (H9.out.trans (hb10.mono H9.out.size))
    obtain ⟨k10, y0, z0, t0, t1⟩ := HF.out _ H10.out
    have HK10 := Hid.mk k10
    clear hb10 k10
    go_wp2
    go_ret
    exact ⟨rfl, HK10.out⟩
   ·obtain ⟨rfl, rfl, rfl⟩ := HEa.out rfl
    have hx := HX.out
    rw [if_neg (by decide)] at hx
    subst hx
    obtain ⟨hy, hmp⟩ := HY.out rfl
    rw [hy] at HUY
    clear hy
    have hmz := Int.natCast_pos.2 hmp
    clear HX HY HEu HEa
    obtain ⟨_, y0, z0, t0, t1⟩ := HF.out _ (Below.refl _ _)
    go_wp2_with fail
    refine (HUu.out _).mono ?_
    rintro e w9 ⟨rfl, hb9⟩
    clear y0 z0 t0 t1
    have H9 := Hid.mk hb9
    obtain ⟨_, y0, z0, t0, t1⟩ := HF.out _ H9.out
    clear hb9
    go_wp2_with fail
    refine (HUa.out _).mono ?_
    rintro e w10 ⟨rfl, hb10⟩
    clear y0 z0 t0 t1
    have H10 := Hid.mk (H9.out.trans (hb10.mono H9.out.size))
    obtain ⟨k10, y0, z0, t0, t1⟩ := HF.out _ H10.out
    have HK10 := Hid.mk k10
    clear hb10 k10
    go_wp2_with fail
    refine (HUY.out _).mono ?_
    rintro e w12 ⟨rfl, hb12⟩
    clear y0 z0 t0 t1
    obtain ⟨k12, y0, z0, t0, t1⟩ := HF.out _ (H10.out.trans (hb12.mono H10.out.size))
    have HK12 := Hid.mk k12
    clear hb12 k12
    go_wp2
    go_ret
    exact ⟨rfl, HK12.out⟩
   ·obtain ⟨rfl, rfl, rfl⟩ := HEa.out rfl
    have hx := HX.out
    rw [if_pos rfl] at hx
    rw [hx] at HUX
    clear hx
    clear HX HY HEu HEa
    obtain ⟨_, y0, z0, t0, t1⟩ := HF.out _ (Below.refl _ _)
    go_wp2_with fail
    refine (HUu.out _).mono ?_
    rintro e w9 ⟨rfl, hb9⟩
    clear y0 z0 t0 t1
    have H9 := Hid.mk hb9
    obtain ⟨_, y0, z0, t0, t1⟩ := HF.out _ H9.out
    clear hb9
    go_wp2_with fail
    refine (HUa.out _).mono ?_
    rintro e w10 ⟨rfl, hb10⟩
    clear y0 z0 t0 t1
    have H10 := Hid.mk (H9.out.trans (hb10.mono H9.out.size))
    obtain ⟨k10, y0, z0, t0, t1⟩ := HF.out _ H10.out
    have HK10 := Hid.mk k10
    clear hb10 k10
    go_wp2_with fail
    refine (HUX.out _).mono ?_
    rintro e w11 ⟨rfl, hb11⟩
    clear y0 z0 t0 t1
    have H11 := Hid.mk (H10.out.trans (hb11.mono H10.out.size))
    obtain ⟨k11, y0, z0, t0, t1⟩ := HF.out _ H11.out
    have HK11 := Hid.mk k11
    clear hb11 k11
    go_wp2
    go_ret
    exact ⟨rfl, HK11.out⟩
   ·obtain ⟨rfl, rfl, rfl⟩ := HEa.out rfl
    have hx := HX.out
    rw [if_pos rfl] at hx
    rw [hx] at HUX
    obtain ⟨hy, hmp⟩ := HY.out rfl
    rw [hy] at HUY
    clear hy
    have hmz := Int.natCast_pos.2 hmp
    clear hx
    clear HX HY HEu HEa
    obtain ⟨_, y0, z0, t0, t1⟩ := HF.out _ (Below.refl _ _)
    go_wp2_with fail
    refine (HUu.out _).mono ?_
    rintro e w9 ⟨rfl, hb9⟩
    clear y0 z0 t0 t1
    have H9 := Hid.mk hb9
    obtain ⟨_, y0, z0, t0, t1⟩ := HF.out _ H9.out
    clear hb9
    go_wp2_with fail
    refine (HUa.out _).mono ?_
    rintro e w10 ⟨rfl, hb10⟩
    clear y0 z0 t0 t1
    have H10 := Hid.mk (H9.out.trans (hb10.mono H9.out.size))
    obtain ⟨k10, y0, z0, t0, t1⟩ := HF.out _ H10.out
    have HK10 := Hid.mk k10
    clear hb10 k10
    go_wp2_with fail
    refine (HUX.out _).mono ?_
    rintro e w11 ⟨rfl, hb11⟩
    clear y0 z0 t0 t1
    have H11 := Hid.mk (H10.out.trans (hb11.mono H10.out.size))
    obtain ⟨k11, y0, z0, t0, t1⟩ := HF.out _ H11.out
    have HK11 := Hid.mk k11
    clear hb11 k11
    go_wp2_with fail
    refine (HUY.out _).mono ?_
    rintro e w12 ⟨rfl, hb12⟩
    clear y0 z0 t0 t1
    obtain ⟨k12, y0, z0, t0, t1⟩ := HF.out _ (H11.out.trans (hb12.mono H11.out.size))
    have HK12 := Hid.mk k12
    clear hb12 k12
    go_wp2
    go_ret
    exact ⟨rfl, HK12.out⟩
   ·have hx := HX.out
    rw [if_neg (by decide)] at hx
    subst hx
    clear HX HY HEu HEa
    obtain ⟨_, y0, z0, t0, t1⟩ := HF.out _ (Below.refl _ _)
    go_wp2_with fail
    refine (HUu.out _).mono ?_
    rintro e w9 ⟨rfl, hb9⟩
    clear y0 z0 t0 t1
    have H9 := Hid.mk hb9
    obtain ⟨_, y0, z0, t0, t1⟩ := HF.out _ H9.out
    clear hb9
    go_wp2_with fail
    refine (HUa.out _).mono ?_
    rintro e w10 ⟨rfl, hb10⟩
    clear y0 z0 t0 t1
    have H10 := Hid.mk (H9.out.trans (hb10.mono H9.out.size))
    obtain ⟨k10, y0, z0, t0, t1⟩ := HF.out _ H10.out
    have HK10 := Hid.mk k10
    clear hb10 k10
    go_wp2
    go_ret
    exact ⟨rfl, HK10.out⟩
   ·have hx := HX.out
    rw [if_neg (by decide)] at hx
    subst hx
    obtain ⟨hy, hmp⟩ := HY.out rfl
    rw [hy] at HUY
    clear hy
    have hmz := Int.natCast_pos.2 hmp
    clear HX HY HEu HEa
    obtain ⟨_, y0, z0, t0, t1⟩ := HF.out _ (Below.refl _ _)
    go_wp2_with fail
    refine (HUu.out _).mono ?_
    rintro e w9 ⟨rfl, hb9⟩
    clear y0 z0 t0 t1
    have H9 := Hid.mk hb9
    obtain ⟨_, y0, z0, t0, t1⟩ := HF.out _ H9.out
    clear hb9
    go_wp2_with fail
    refine (HUa.out _).mono ?_
    rintro e w10 ⟨rfl, hb10⟩
    clear y0 z0 t0 t1
    have H10 := Hid.mk (H9.out.trans (hb10.mono H9.out.size))
    obtain ⟨k10, y0, z0, t0, t1⟩ := HF.out _ H10.out
    have HK10 := Hid.mk k10
    clear hb10 k10
    go_wp2_with fail
    refine (HUY.out _).mono ?_
    rintro e w12 ⟨rfl, hb12⟩
    clear y0 z0 t0 t1
    obtain ⟨k12, y0, z0, t0, t1⟩ := HF.out _ (H10.out.trans (hb12.mono H10.out.size))
    have HK12 := Hid.mk k12
    clear hb12 k12
    go_wp2
    go_ret
    exact ⟨rfl, HK12.out⟩
   ·have hx := HX.out
    rw [if_pos rfl] at hx
    rw [hx] at HUX
    clear hx
    clear HX HY HEu HEa
    obtain ⟨_, y0, z0, t0, t1⟩ := HF.out _ (Below.refl _ _)
    go_wp2_with fail
    refine (HUu.out _).mono ?_
    rintro e w9 ⟨rfl, hb9⟩
    clear y0 z0 t0 t1
    have H9 := Hid.mk hb9
    obtain ⟨_, y0, z0, t0, t1⟩ := HF.out _ H9.out
    clear hb9
    go_wp2_with fail
    refine (HUa.out _).mono ?_
    rintro e w10 ⟨rfl, hb10⟩
    clear y0 z0 t0 t1
    have H10 := Hid.mk (H9.out.trans (hb10.mono H9.out.size))
    obtain ⟨k10, y0, z0, t0, t1⟩ := HF.out _ H10.out
    have HK10 := Hid.mk k10
    clear hb10 k10
    go_wp2_with fail
    refine (HUX.out _).mono ?_
    rintro e w11 ⟨rfl, hb11⟩
    clear y0 z0 t0 t1
    have H11 := Hid.mk (H10.out.trans (hb11.mono H10.out.size))
    obtain ⟨k11, y0, z0, t0, t1⟩ := HF.out _ H11.out
    have HK11 := Hid.mk k11
    clear hb11 k11
    go_wp2
    go_ret
    exact ⟨rfl, HK11.out⟩
   ·have hx := HX.out
    rw [if_pos rfl] at hx
    rw [hx] at HUX
    obtain ⟨hy, hmp⟩ := HY.out rfl
    rw [hy] at HUY
    clear hy
    have hmz := Int.natCast_pos.2 hmp
    clear hx
    clear HX HY HEu HEa
    obtain ⟨_, y0, z0, t0, t1⟩ := HF.out _ (Below.refl _ _)
    go_wp2_with fail
    refine (HUu.out _).mono ?_
    rintro e w9 ⟨rfl, hb9⟩
    clear y0 z0 t0 t1
    have H9 := Hid.mk hb9
    obtain ⟨_, y0, z0, t0, t1⟩ := HF.out _ H9.out
    clear hb9
    go_wp2_with fail
    refine (HUa.out _).mono ?_
    rintro e w10 ⟨rfl, hb10⟩
    clear y0 z0 t0 t1
    have H10 := Hid.mk (H9.out.trans (hb10.mono H9.out.size))
    obtain ⟨k10, y0, z0, t0, t1⟩ := HF.out _ H10.out
    have HK10 := Hid.mk k10
    clear hb10 k10
    go_wp2_with fail
    refine (HUX.out _).mono ?_
    rintro e w11 ⟨rfl, hb11⟩
    clear y0 z0 t0 t1
    have H11 := Hid.mk (H10.out.trans (hb11.mono H10.out.size))
    obtain ⟨k11, y0, z0, t0, t1⟩ := HF.out _ H11.out
    have HK11 := Hid.mk k11
    clear hb11 k11
    go_wp2_with fail
    refine (HUY.out _).mono ?_
    rintro e w12 ⟨rfl, hb12⟩
    clear y0 z0 t0 t1
    obtain ⟨k12, y0, z0, t0, t1⟩ := HF.out _ (H11.out.trans (hb12.mono H11.out.size))
    have HK12 := Hid.mk k12
    clear hb12 k12
    go_wp2
    go_ret
    exact ⟨rfl, HK12.out⟩
end
end Go.Proofs.YtdlcldjlfhmlgaaGreatDoor
