/- Texts of this proof, joined: LfQ, LfR, LfC, LfD, LfF. -/
import Derived.Laws.AppendOwn
import Derived.Laws.OwnMore
import Derived.Maps.AppendAt
import Derived.Test.YtdlcldjlfhmlgaaGreatDoorJ23
import Derived.Laws.EntriesVeiled
import Derived.Test.YtdlcldjlfhmlgaaGreatDoorJ24
set_option linter.unusedVariables false
set_option linter.unusedSimpArgs false
/- Rows of any struct: put into a row of their own, with one more behind. -/
namespace Go.Proofs.YtdlcldjlfhmlgaaGreatDoor
open Go.RowKit
section
variable {α : Type}
def RowsAt (sz : Nat) (R : World → α → List Value → Prop) (w : World) (q : Option Addr) (l : List α) : Prop := ∀ j (hj : j < l.length), ∃ b off row, q = some ⟨b, off, none⟩ ∧ b < w.heap.size ∧ R w l[j] row ∧ ∀ i, i < sz → w.cell? ⟨b, off + j * sz + i, none⟩ = row[i]?
structure RowOk (sz M : Nat) (R : World → α → List Value → Prop) : Prop where
 len : ∀ w x row, R w x row → row.length = sz
 one : ∀ w x row, R w x row → ∀ u ∈ row, u.oneCell' = true
 blk : ∀ w w' x row, Below M w w' → R w x row → R w' x row
theorem rowsF_len {sz : Nat} : ∀ {rows : List (List Value)}, (∀ r ∈ rows, r.length = sz) → rows.flatten.length = rows.length * sz
 | [], _ => by simp
 | r :: rows, h => by
  rw [List.flatten_cons, List.length_append, h r (by simp), rowsF_len (fun x hx => h x (by simp [hx])), List.length_cons, Nat.add_mul]
  omega
theorem rowsF_at {sz : Nat} (hz : 0 < sz) : ∀ {rows : List (List Value)}, (∀ r ∈ rows, r.length = sz) → ∀ (j : Nat) (hj : j < rows.length) (i : Nat), i < sz → rows.flatten[j * sz + i]? = rows[j][i]?
 | r :: rows, h, 0, _, i, hi => by
  rw [List.flatten_cons, Nat.zero_mul, Nat.zero_add, List.getElem?_append_left (by rw [h r (by simp)]; exact hi)]
  rfl
 | r :: rows, h, j + 1, hj, i, hi => by
  have hr := h r (by simp)
  have ih := rowsF_at (rows := rows) hz (fun x hx => h x (List.mem_cons_of_mem _ hx)) j (by simpa using hj) i hi
  rw [List.flatten_cons, List.getElem?_append_right (by rw [hr, Nat.add_mul]; omega), hr, show (j + 1) * sz + i - sz = j * sz + i by rw [Nat.add_mul]; omega, ih]
  rfl
theorem rows_cells {sz M : Nat} {R : World → α → List Value → Prop} (hz : 0 < sz) (ok : RowOk sz M R) {W : World} {q : Option Addr} {l : List α} (h : RowsAt sz R W q l) : ∃ rows : List (List Value), rows.length = l.length ∧ (∀ r ∈ rows, r.length = sz) ∧ (∀ j (hj : j < l.length) (hj' : j < rows.length), R W l[j] rows[j]) ∧ (∀ a, q = some a → ∀ j u, rows.flatten[j]? = some u → W.cell? (a.add j) = some u) := by
 have key : ∀ j, j < l.length → ∃ row : List Value, ∃ hj : j < l.length, ∃ b off, q = some ⟨b, off, none⟩ ∧ R W l[j] row ∧ ∀ i, i < sz → W.cell? ⟨b, off + j * sz + i, none⟩ = row[i]? := fun j hj => by
  obtain ⟨b, off, row, e, _, hR, hc⟩ := h j hj
  exact ⟨row, hj, b, off, e, hR, hc⟩
 obtain ⟨rows, hlen, hr⟩ := llist_of l.length key
 have hall : ∀ r ∈ rows, r.length = sz := fun r hr' => by
  obtain ⟨j, hj, rfl⟩ := List.getElem_of_mem hr'
  obtain ⟨_, _, _, _, hR, _⟩ := hr j hj
  exact ok.len _ _ _ hR
 refine ⟨rows, hlen, hall, fun j hj hj' => ?_, fun a ha k u hu => ?_⟩
 ·obtain ⟨_, _, _, _, hR, _⟩ := hr j hj'
  exact hR
 ·have hk : k < rows.flatten.length := (List.getElem?_eq_some_iff.1 hu).1
  rw [rowsF_len hall] at hk
  have hj : k / sz < rows.length := Nat.div_lt_of_lt_mul (by rw [Nat.mul_comm]; exact hk)
  have hi : k % sz < sz := Nat.mod_lt _ hz
  have he : k / sz * sz + k % sz = k := Nat.div_add_mod' k sz
  have e := rowsF_at hz hall (k / sz) hj (k % sz) hi
  rw [he, hu] at e
  obtain ⟨_, b, off, eq, _, hc⟩ := hr (k / sz) hj
  rw [ha] at eq
  cases eq
  have := hc (k % sz) hi
  rw [← e, Nat.add_assoc, he] at this
  rw [So.add_of]
  exact this
theorem rows_own {sz : Nat} {R : World → α → List Value → Prop} (hz : 0 < sz) {w : World} {M n : Nat} {e : TypeId} {v : Value} {rows : List (List Value)} {l : List α} (hall : ∀ r ∈ rows, r.length = sz) (hn : rows.length = n) (hl : l.length = n) (h0 : 0 < n) (hR : ∀ j (hj : j < l.length) (hj' : j < rows.length), R w l[j] rows[j]) (ho : w.ownsRow M e sz v n rows.flatten) :
  ∃ g cap, v = .slice (some ⟨g, 0, none⟩) n cap ∧ M ≤ g ∧ g < w.heap.size ∧ RowsAt sz R w (some ⟨g, 0, none⟩) l ∧ ShC n cap (some ⟨g, 0, none⟩) := by
 have ho2 := ho
 obtain ⟨hlen, ⟨_, h1⟩ | ⟨g, cap, cur, rfl, hM, hg, hnc, hcm, hcs, ht⟩⟩ := ho
 ·omega
 ·refine ⟨g, cap, rfl, hM, (Array.getElem?_eq_some_iff.1 hg).1, fun j hj => ?_, hnc, hcm, fun h => by cases h⟩
  have hj' : j < rows.length := by omega
  refine ⟨g, 0, rows[j], rfl, (Array.getElem?_eq_some_iff.1 hg).1, hR j hj hj', fun i hi => ?_⟩
  rw [Nat.zero_add, ← rowsF_at hz hall j hj' i hi]
  refine World.ownsRow.cellAt ho2 (j * sz + i) ?_
  have : (j + 1) * sz ≤ n * sz := Nat.mul_le_mul_right _ (by omega)
  rw [Nat.add_mul] at this
  omega
theorem rows_copy {sz bytes M : Nat} {R : World → α → List Value → Prop} {t e : TypeId} {z : Value} (hz : 0 < sz) (ok : RowOk sz M R) (ht : Tryz.prog.underlying t = some (.slice e)) (info : (Tryz.prog.info? e).map (fun i => (i.zero, i.size, i.bytes)) = some (some z, sz, bytes)) (hzs : z.cells.size = sz) {W : World} (hM : M ≤ W.heap.size) {q : Option Addr} {cap : Nat} {l : List α} (h : RowsAt sz R W q l) (hsh : ShC l.length cap q) (hb : l.length * bytes ≤ 140737488355328) (hm : l.length ≤ maxLen) :
  ∃ v1 w1, (Builtin.append_ #[t, t] t #[.slice none 0 0, .slice q l.length cap]).run Tryz.prog W = .ok v1 w1 ∧ Below W.heap.size W w1 ∧ ∃ rows : List (List Value), rows.length = l.length ∧ (∀ r ∈ rows, r.length = sz) ∧ (∀ j (hj : j < l.length) (hj' : j < rows.length), R w1 l[j] rows[j]) ∧ (∀ u ∈ rows.flatten, u.oneCell' = true) ∧ w1.ownsRow W.heap.size e sz v1 l.length rows.flatten := by
 obtain ⟨i0, hi0, hz0, hz1, hz2⟩ := info_parts' info
 obtain ⟨rows, hlen, hall, hR, hc⟩ := rows_cells hz ok h
 have hone : ∀ u ∈ rows.flatten, u.oneCell' = true := fun u hu => by
  obtain ⟨r, hr, hur⟩ := List.mem_flatten.1 hu
  obtain ⟨j, hj, rfl⟩ := List.getElem_of_mem hr
  exact ok.one _ _ _ (hR j (by omega) hj) u hur
 have hnil : W.ownsRow W.heap.size e sz (.slice none 0 0) 0 [] := World.ownsRow_nil ..
 cases q with
 | none =>
  have hc0 := hsh.2.2 rfl
  have hl0 : l.length = 0 := by have := hsh.1; omega
  obtain rfl : rows = [] := List.eq_nil_of_length_eq_zero (by omega)
  refine ⟨.slice none 0 0, W, ?_, Below.refl _ _, [], hlen, hall, hR, hone, ?_⟩
  ·rw [hc0, hl0]
   exact run_append_owned_none (P := Tryz.prog) W W.heap.size t t e i0 sz ht hi0 _ _ _ hnil
  ·rw [hl0]; exact hnil
 | some a =>
  obtain ⟨v', w', hrun, hown, hgr, _, _⟩ := run_append_own_at (P := Tryz.prog) W W.heap.size t t e i0 _ sz bytes ht hi0 hz0 hz1 hz2 hzs hz (.slice none 0 0) 0 [] hnil a l.length cap rows.flatten (by rw [rowsF_len hall, hlen]) (hc a rfl) hone (by omega) (by rw [Nat.zero_add]; exact hb) (Nat.le_refl _)
  have hbel : Below W.heap.size W w' := (Below.refl _ _).grown hgr (Nat.le_refl _) (fun b hb' => by simp [Value.ownBlock] at hb')
  refine ⟨v', w', hrun, hbel, rows, hlen, hall, fun j hj hj' => ok.blk _ _ _ _ (hbel.mono hM) (hR j hj hj'), hone, ?_⟩
  simpa using hown
theorem rows_snoc {sz bytes M : Nat} {R : World → α → List Value → Prop} {t e : TypeId} {z : Value} (hz : 0 < sz) (ok : RowOk sz M R) (ht : Tryz.prog.underlying t = some (.slice e)) (info : (Tryz.prog.info? e).map (fun i => (i.zero, i.size, i.bytes)) = some (some z, sz, bytes)) (hzs : z.cells.size = sz) {w : World} {B : Nat} (hMB : M ≤ B) {v : Value} {l : List α} {rows : List (List Value)} (hlen : rows.length = l.length) (hall : ∀ r ∈ rows, r.length = sz) (hR : ∀ j (hj : j < l.length) (hj' : j < rows.length), R w l[j] rows[j]) (ho : w.ownsRow B e sz v l.length rows.flatten) (hM : B ≤ w.heap.size) {x : α} {row : List Value} (hx : R w x row) {X : Nat} (hX : ∀ j u, row[j]? = some u → w.cell? ⟨X, j, none⟩ = some u) (hb : (l.length + 1) * bytes ≤ 140737488355328) (hm : l.length + 1 ≤ maxLen) :
  ∃ v2 w2, (Builtin.append_ #[t, t] t #[v, .slice (some ⟨X, 0, none⟩) 1 1]).run Tryz.prog w = .ok v2 w2 ∧ Below B w w2 ∧ (∀ j (hj : j < (l ++ [x]).length) (hj' : j < (rows ++ [row]).length), R w2 (l ++ [x])[j] (rows ++ [row])[j]) ∧ (∀ r ∈ rows ++ [row], r.length = sz) ∧ w2.ownsRow B e sz v2 (l.length + 1) (rows ++ [row]).flatten ∧ w.grownBy w2 v.ownBlock := by
 obtain ⟨i0, hi0, hz0, hz1, hz2⟩ := info_parts' info
 have hrl := ok.len _ _ _ hx
 obtain ⟨v', w', hrun, hown, hgr, _, _⟩ := run_append_own_at (P := Tryz.prog) w B t t e i0 _ sz bytes ht hi0 hz0 hz1 hz2 hzs hz v l.length rows.flatten ho ⟨X, 0, none⟩ 1 1 row (by rw [hrl, Nat.one_mul]) (fun j u hu => by
  rw [So.add_of, Nat.zero_add]
  exact hX j u hu) (ok.one _ _ _ hx) (by omega) hb hM
 have hb2 : Below B w w' := (Below.refl _ _).grown hgr hM fun b hb' => (own_lt ho hb').2.1
 have hallR : ∀ y r, R w y r → R w' y r := fun y r hr => ok.blk _ _ _ _ (hb2.mono hMB) hr
 refine ⟨v', w', hrun, hb2, fun j hj hj' => hallR _ _ ?_, fun r hr => ?_, ?_, hgr⟩
 ·rw [List.getElem_append, List.getElem_append]
  by_cases h : j < l.length
  ·rw [dif_pos h, dif_pos (by omega)]
   exact hR j h (by omega)
  ·rw [dif_neg h, dif_neg (by omega)]
   simpa using hx
 ·rcases List.mem_append.1 hr with h | h
  ·exact hall r h
  ·obtain rfl := List.mem_singleton.1 h
   exact hrl
 ·rw [List.flatten_append]
  simpa using hown
end
end Go.Proofs.YtdlcldjlfhmlgaaGreatDoor
/- Layer 15: rules, local zones, upstreams, anchors as rows. -/
namespace Go.Proofs.YtdlcldjlfhmlgaaGreatDoor
open Go.RowKit
def RlRow (w : World) (r : A.Rl) (row : List Value) : Prop := row = [.bool r.p.v6, .int .u64 (r.p.hi : Int), .int .u64 (r.p.lo : Int), .int .i64 r.n, .int .i64 r.act]
def LcRow (M : Nat) (w : World) (z : Lc) (row : List Value) : Prop := ∃ qr cr, row = [.string z.nm, .int .i64 z.kd, .slice qr z.rs.length cr] ∧ RcsAt w qr z.rs ∧ (0 < z.rs.length → ∀ a, qr = some a → a.block < M)
def UpRow (M : Nat) (w : World) (u : Up) (row : List Value) : Prop := ∃ qs cs, row = [.string u.nm, .slice qs u.sv.length cs, .bool u.fw] ∧ A.AdsAt w qs u.sv ∧ ShC u.sv.length cs qs ∧ (0 < u.sv.length → ∀ a, qs = some a → a.block < M)
def AnRow (w : World) (a : An) (row : List Value) : Prop := row = [.string a.nm, .int .i64 a.tg, .int .i64 a.al, .int .i64 a.kd, .string a.dg]
theorem ads_below {w w' : World} {q : Option Addr} {l : List A.Ad} {M : Nat} (h : A.AdsAt w q l) (hb : Below M w w') (hM : 0 < l.length → ∀ a, q = some a → a.block < M) : A.AdsAt w' q l := fun j hj => by
 obtain ⟨b, off, e, hlt, c0, c1, c2⟩ := h j hj
 have hbM : b < M := hM (by omega) _ e
 have key : ∀ k, w'.cell? ⟨b, k, none⟩ = w.cell? ⟨b, k, none⟩ := fun k => hb.cell (p := ⟨b, k, none⟩) hbM
 exact ⟨b, off, e, Nat.lt_of_lt_of_le hlt hb.size, (key _).trans c0, (key _).trans c1, (key _).trans c2⟩
theorem ads_block {w : World} {q : Option Addr} {l : List A.Ad} (h : A.AdsAt w q l) : 0 < l.length → ∀ a, q = some a → a.block < w.heap.size := fun h0 a ha => by
 obtain ⟨b, off, e, hlt, _⟩ := h 0 h0
 rw [ha] at e
 cases e
 exact hlt
theorem rcs_block {w : World} {q : Option Addr} {l : List Rc} (h : RcsAt w q l) : 0 < l.length → ∀ a, q = some a → a.block < w.heap.size := fun h0 a ha => by
 obtain ⟨b, off, e, hlt, _⟩ := h 0 h0
 rw [ha] at e
 cases e
 exact hlt
theorem anOkR (M : Nat) : RowOk 5 M AnRow := ⟨fun w x row h => by rw [h]; rfl, fun w x row h u hu => by
 rw [h] at hu
 simp at hu
 rcases hu with rfl | rfl | rfl | rfl | rfl <;> rfl, fun w w' x row hb h => h⟩
theorem upOkR (M : Nat) : RowOk 3 M (UpRow M) := ⟨fun w x row ⟨qr, cr, h, _⟩ => by rw [h]; rfl, fun w x row ⟨qr, cr, h, _⟩ u hu => by
 rw [h] at hu
 simp at hu
 rcases hu with rfl | rfl | rfl <;> rfl, fun w w' x row hb ⟨qr, cr, h, hr, hs, hM⟩ => ⟨qr, cr, h, ads_below hr hb hM, hs, hM⟩⟩
theorem rl_rows {w : World} {q : Option Addr} {l : List A.Rl} (h : A.RlsAt w q l) : RowsAt 5 RlRow w q l := fun j hj => by
 obtain ⟨b, off, e, hlt, c0, c1, c2, c3, c4⟩ := h j hj
 refine ⟨b, off, _, e, hlt, rfl, fun i hi => ?_⟩
 match i, hi with
 | 0, _ => exact c0
 | 1, _ => exact c1
 | 2, _ => exact c2
 | 3, _ => exact c3
 | 4, _ => exact c4
theorem an_rows {w : World} {q : Option Addr} {l : List An} (h : AnsAt w q l) : RowsAt 5 AnRow w q l := fun j hj => by
 obtain ⟨b, off, e, hlt, c0, c1, c2, c3, c4⟩ := h j hj
 refine ⟨b, off, _, e, hlt, rfl, fun i hi => ?_⟩
 match i, hi with
 | 0, _ => exact c0
 | 1, _ => exact c1
 | 2, _ => exact c2
 | 3, _ => exact c3
 | 4, _ => exact c4
theorem an_back {w : World} {q : Option Addr} {l : List An} (h : RowsAt 5 AnRow w q l) : AnsAt w q l := fun j hj => by
 obtain ⟨b, off, row, e, hlt, hR, hc⟩ := h j hj
 rw [hR] at hc
 exact ⟨b, off, e, hlt, hc 0 (by omega), hc 1 (by omega), hc 2 (by omega), hc 3 (by omega), hc 4 (by omega)⟩
theorem lc_rows {w : World} {q : Option Addr} {l : List Lc} (h : LcsAt w q l) : RowsAt 3 (LcRow w.heap.size) w q l := fun j hj => by
 obtain ⟨b, off, qr, cr, e, hlt, c0, c1, c2, hr⟩ := h j hj
 refine ⟨b, off, _, e, hlt, ⟨qr, cr, rfl, hr, rcs_block hr⟩, fun i hi => ?_⟩
 match i, hi with
 | 0, _ => exact c0
 | 1, _ => exact c1
 | 2, _ => exact c2
theorem up_rows {w : World} {q : Option Addr} {l : List Up} (h : UpsAt w q l) : RowsAt 3 (UpRow w.heap.size) w q l := fun j hj => by
 obtain ⟨b, off, qr, cr, e, hlt, c0, c1, c2, hr, hs⟩ := h j hj
 refine ⟨b, off, _, e, hlt, ⟨qr, cr, rfl, hr, hs, ads_block hr⟩, fun i hi => ?_⟩
 match i, hi with
 | 0, _ => exact c0
 | 1, _ => exact c1
 | 2, _ => exact c2
theorem up_back {M : Nat} {w : World} {q : Option Addr} {l : List Up} (h : RowsAt 3 (UpRow M) w q l) : UpsAt w q l := fun j hj => by
 obtain ⟨b, off, row, e, hlt, ⟨qr, cr, hR, hr, hs, _⟩, hc⟩ := h j hj
 rw [hR] at hc
 exact ⟨b, off, qr, cr, e, hlt, hc 0 (by omega), hc 1 (by omega), hc 2 (by omega), hr, hs⟩
theorem infoUp15 : (Tryz.prog.info? 61).map (fun i => (i.zero, i.size, i.bytes)) = some (some (.agg #[.string ⟨#[]⟩, .slice none 0 0, .bool false]), 3, 48) := by kernel_rfl
theorem infoAn15 : (Tryz.prog.info? 71).map (fun i => (i.zero, i.size, i.bytes)) = some (some (.agg #[.string ⟨#[]⟩, .int .i64 0, .int .i64 0, .int .i64 0, .string ⟨#[]⟩]), 5, 56) := by kernel_rfl
def aUp (a : Array Value) : Sem Value := Builtin.append_ #[48, 48] 48 a
theorem app_aUp (a : Array Value) : Builtin.append_ #[48, 48] 48 a = aUp a := rfl
def aAn (a : Array Value) : Sem Value := Builtin.append_ #[49, 49] 49 a
theorem app_aAn (a : Array Value) : Builtin.append_ #[49, 49] 49 a = aAn a := rfl
end Go.Proofs.YtdlcldjlfhmlgaaGreatDoor
/- Layer 15: rightRoots, rightRules, rightLocals, rightNumbers. -/
namespace Go.Proofs.YtdlcldjlfhmlgaaGreatDoor
open Go.RowKit
set_option maxRecDepth 100000 in
set_option maxHeartbeats 2000000 in
theorem roots_in (W : World) (k : Cq) (c : Cf) (hat : CfAt W k c) : Calls Tryz.prog 72 #[cfV k c] W fun e w' => e = .returned (.bool (prtR c 0)) ∧ Below W.heap.size W w' := by
 have HS : Hid (∀ w, Below W.heap.size W w → Calls Tryz.prog 105 #[.slice k.q0 c.rt.length k.c0] w fun e w' => e = .returned (.bool (srvR c.rt)) ∧ Below w.heap.size w w') := fun w hb => srv_in w k.q0 k.c0 c.rt (hat.blk hb).rt
 have HB : Hid (∀ o : Obj, Below W.heap.size W (W.alloc o)) := fun o => (Below.refl _ _).alloc (Nat.le_refl _) _
 show Calls _ _ _ _ fun e w' => e = .returned (.bool (srvR c.rt)) ∧ _
 obtain ⟨R, hR⟩ : ∃ R, srvR c.rt = R := ⟨_, rfl⟩
 rw [hR] at HS ⊢
 obtain ⟨q0, c0, q1, c1, q2, c2, q3, c3, q4, c4⟩ := k
 simp only [cfV, cfC] at HS ⊢
 clear hat hR
 go_enter Tryz.func72, Tryz.ntmps72
 go_wp2_with fail
 refine (HS.out _ (HB.out _)).mono ?_
 rintro e w1 ⟨rfl, hb1⟩
 have HB1 := Hid.mk ((HB.out _).trans (hb1.mono (HB.out _).size))
 clear hb1
 go_wp2
 go_ret
 exact ⟨rfl, HB1.out⟩
set_option maxRecDepth 100000 in
set_option maxHeartbeats 2000000 in
theorem rules_in (W : World) (k : Cq) (c : Cf) (hat : CfAt W k c) (hin : CfIn c) : Calls Tryz.prog 73 #[cfV k c] W fun e w' => e = .returned (.bool (prtR c 1)) ∧ Below W.heap.size W w' := by
 classical
 have HS : Hid (∀ w, Below W.heap.size W w → Calls Tryz.prog 106 #[.slice k.q1 c.ru.length k.c1] w fun e w' => A.NwPost w c.ru e w') := fun w hb => A.new_in w k.q1 k.c1 c.ru (hat.blk hb).ru hin.ru hat.s1.1 hat.s1.2.1
 have HB : Hid (∀ o : Obj, Below W.heap.size W (W.alloc o)) := fun o => (Below.refl _ _).alloc (Nat.le_refl _) _
 obtain ⟨R, hR⟩ : ∃ R, prtR c 1 = R := ⟨_, rfl⟩
 have HYes : Hid (A.OkRs c.ru → R = true) := fun h => by rw [← hR]; exact decide_eq_true h
 have HNo : Hid (¬ A.OkRs c.ru → R = false) := fun h => by rw [← hR]; exact decide_eq_false h
 rw [hR]
 obtain ⟨q0, c0, q1, c1, q2, c2, q3, c3, q4, c4⟩ := k
 simp only [cfV, cfC] at HS ⊢
 clear hat hR hin
 go_enter Tryz.func73, Tryz.ntmps73
 go_wp2_with fail
 refine (HS.out _ (HB.out _)).mono ?_
 rintro e w1 ⟨hb1, ⟨ho, D, rfl, _⟩ | ⟨ho, rfl⟩⟩
 ·have HB1 := Hid.mk ((HB.out _).trans (hb1.mono (HB.out _).size))
  have hR := HYes.out ho
  subst hR
  clear hb1 ho
  go_wp2
  go_ret
  exact ⟨rfl, HB1.out⟩
 ·have HB1 := Hid.mk ((HB.out _).trans (hb1.mono (HB.out _).size))
  have hR := HNo.out ho
  subst hR
  clear hb1 ho
  go_wp2
  go_ret
  exact ⟨rfl, HB1.out⟩
set_option maxRecDepth 100000 in
set_option maxHeartbeats 2000000 in
theorem locals_in (W : World) (k : Cq) (c : Cf) (hat : CfAt W k c) (hin : CfIn c) (hl : c.lc.length ≤ 9223372036854775806) : Calls Tryz.prog 74 #[cfV k c] W fun e w' => e = .returned (.bool (prtR c 2)) ∧ Below W.heap.size W w' := by
 classical
 have HS : Hid (∀ w, Below W.heap.size W w → Calls Tryz.prog 9 #[.slice k.q2 c.lc.length k.c2] w fun e w' => NewP w.heap.size w c.lc e w') := fun w hb => new14_in w k.q2 k.c2 c.lc (hat.blk hb).lc hin.lc hl
 have HB : Hid (∀ o : Obj, Below W.heap.size W (W.alloc o)) := fun o => (Below.refl _ _).alloc (Nat.le_refl _) _
 obtain ⟨R, hR⟩ : ∃ R, prtR c 2 = R := ⟨_, rfl⟩
 have HYes : Hid (okL c.lc → R = true) := fun h => by rw [← hR]; exact decide_eq_true h
 have HNo : Hid (¬ okL c.lc → R = false) := fun h => by rw [← hR]; exact decide_eq_false h
 rw [hR]
 obtain ⟨q0, c0, q1, c1, q2, c2, q3, c3, q4, c4⟩ := k
 simp only [cfV, cfC] at HS ⊢
 clear hat hR hin
 go_enter Tryz.func74, Tryz.ntmps74
 go_wp2_with fail
 refine (HS.out _ (HB.out _)).mono ?_
 rintro e w1 ⟨⟨ho, X, M, rfl, _⟩ | ⟨ho, rfl⟩, hb1⟩
 ·have HB1 := Hid.mk ((HB.out _).trans (hb1.mono (HB.out _).size))
  have hR := HYes.out ho
  subst hR
  clear hb1 ho
  go_wp2
  go_ret
  exact ⟨rfl, HB1.out⟩
 ·have HB1 := Hid.mk ((HB.out _).trans (hb1.mono (HB.out _).size))
  have hR := HNo.out ho
  subst hR
  clear hb1 ho
  go_wp2
  go_ret
  exact ⟨rfl, HB1.out⟩
def cfN (c : Cf) : Nat → Int
 | 0 => c.n0
 | 1 => c.n1
 | 2 => c.n2
 | _ => c.n3
theorem numsR_no {c : Cf} {i : Nat} (hi : i < 4) (h : numR (cfN c i) = false) : numsR c = false := by
 unfold numsR
 match i, hi, h with
 | 0, _, h => rw [show numR c.n0 = false from h]; rfl
 | 1, _, h => rw [show numR c.n1 = false from h]; simp
 | 2, _, h => rw [show numR c.n2 = false from h]; simp
 | 3, _, h => rw [show numR c.n3 = false from h]; simp
theorem numsR_yes {c : Cf} (h : ∀ i, i < 4 → numR (cfN c i) = true) : numsR c = true := by
 unfold numsR
 rw [show numR c.n0 = true from h 0 (by omega), show numR c.n1 = true from h 1 (by omega), show numR c.n2 = true from h 2 (by omega), show numR c.n3 = true from h 3 (by omega)]
 rfl
set_option maxRecDepth 100000 in
set_option maxHeartbeats 2000000 in
theorem numbers_in15 (W : World) (k : Cq) (c : Cf) : Calls Tryz.prog 77 #[cfV k c] W fun e w' => e = .returned (.bool (prtR c 5)) ∧ Below W.heap.size W w' := by
 show Calls _ _ _ _ fun e w' => e = .returned (.bool (numsR c)) ∧ _
 obtain ⟨R, hR⟩ : ∃ R, numsR c = R := ⟨_, rfl⟩
 have HBad : Hid (∀ i, i < 4 → numR (cfN c i) = false → R = false) := fun i hi h => hR ▸ numsR_no hi h
 have HYes : Hid ((∀ i, i < 4 → numR (cfN c i) = true) → R = true) := fun h => hR ▸ numsR_yes h
 rw [hR]
 obtain ⟨N, hN⟩ : ∃ N, W.heap.size = N := ⟨_, rfl⟩
 have HNN := Hid.mk hN
 have HC : Hid (∃ w0, (W.alloc (.cells (cfC k c) 51)).alloc (.cells #[.int .i64 c.n0, .int .i64 c.n1, .int .i64 c.n2, .int .i64 c.n3] 3) = w0 ∧ Below N W w0 ∧ N + 1 < w0.heap.size ∧ ∀ i, i < 4 → w0.cell? ⟨N + 1, i, none⟩ = some (.int .i64 (cfN c i))) := by
  have b1 : Below W.heap.size W (W.alloc (.cells (cfC k c) 51)) := (Below.refl _ _).alloc (Nat.le_refl _) _
  have X := Bx.new (W.alloc (.cells (cfC k c) 51)) [.int .i64 c.n0, .int .i64 c.n1, .int .i64 c.n2, .int .i64 c.n3] 3
  rw [World.size_alloc, hN] at X
  refine ⟨_, rfl, ?_, ?_, fun i hi => ?_⟩
  ·rw [← hN]; exact b1.trans (X.bel.mono b1.size)
  ·have := X.lt; exact this
  ·match i, hi with
   | 0, _ => exact X.cell 0 _ rfl
   | 1, _ => exact X.cell 1 _ rfl
   | 2, _ => exact X.cell 2 _ rfl
   | 3, _ => exact X.cell 3 _ rfl
 obtain ⟨q0, c0, q1, c1, q2, c2, q3, c3, q4, c4⟩ := k
 obtain ⟨w0, hw0, hbel, hlt0, hcell⟩ := HC.out
 have HW0 := Hid.mk hw0
 have HCell := Hid.mk hcell
 have HBel := Hid.mk hbel
 simp only [cfV, cfC] at HW0 ⊢
 rw [hN]
 clear hR HC hw0 hcell hbel
 go_enter Tryz.func77, Tryz.ntmps77
 go_upto_region 2 with fail
 rw [HW0.out]
 clear hN
 go_loopw [15] (fun iv wr => ∃ i : Nat, wr = w0 ∧ i ≤ 4 ∧ iv = .int .i64 (i : Int) ∧ Hid (∀ j, j < i → numR (cfN c j) = true)) (fun iv _ => 4 - (intOf iv).toNat)
 case atStart => exact ⟨0, rfl, by omega, rfl, fun j h => absurd h (Nat.not_lt_zero _)⟩
 case round =>
  obtain ⟨i, rfl, hi, rfl, HA⟩ := hrel
  by_cases hlt : i < 4
  ·have hlz : (i : Int) < 4 := by omega
   have wi : IntKind.i64.wrap ((i : Int) + 1) = ((i + 1 : Nat) : Int) := by rw [IntKind.wrap_i64]; omega
   have cc := HCell.out i hlt
   obtain ⟨x, hx⟩ : ∃ x, cfN c i = x := ⟨_, rfl⟩
   rw [hx] at cc
   by_cases h1 : x < 1
   ·have hR : R = false := HBad.out i hlt (by rw [hx]; unfold numR; rw [show decide (1 ≤ x) = false from decide_eq_false (by omega)]; rfl)
    subst hR
    have h2 : ¬ 10000 < x := by omega
    clear hx
    go_wp2
    go_ret
    exact ⟨rfl, HBel.out⟩
   by_cases h2 : 10000 < x
   ·have hR : R = false := HBad.out i hlt (by rw [hx]; unfold numR; rw [show decide (x ≤ 10000) = false from decide_eq_false (by omega), Bool.and_false])
    subst hR
    clear hx
    go_wp2
    go_ret
    exact ⟨rfl, HBel.out⟩
   have HA2 : Hid (∀ j, j < i + 1 → numR (cfN c j) = true) := fun j hji => by
    rcases Nat.lt_succ_iff_lt_or_eq.1 hji with h5 | h5
    ·exact HA.out j h5
    ·subst h5
     rw [hx]; unfold numR
     rw [show decide (1 ≤ x) = true from decide_eq_true (by omega), show decide (x ≤ 10000) = true from decide_eq_true (by omega)]
     rfl
   clear hx HA
   go_wp2
   go_roundw
   case rel => first | exact ⟨i + 1, rfl, by omega, by first | rfl | go_num, HA2⟩ | exact ⟨i + 1, trivial, by omega, by first | rfl | go_num, HA2⟩
   case measure => simp [intOf]; omega
  ·have hlz : ¬ (i : Int) < 4 := by omega
   have hR : R = true := HYes.out fun j hj => HA.out j (by omega)
   subst hR
   go_wp2
   go_ret
   exact ⟨rfl, HBel.out⟩
end Go.Proofs.YtdlcldjlfhmlgaaGreatDoor
/- Layer 15: rightUpstreams, rightAnchors. -/
namespace Go.Proofs.YtdlcldjlfhmlgaaGreatDoor
open Go.RowKit
open Go.MapKept Go.WideMaps
def cnR : Rdr
 | .int k n => some (.lit (.int k n), [])
 | _ => none
theorem cnR_int {v : Value} {ps : List MemPlace} {n : Int} (h : cnR v = some (.lit (.int .i64 n), ps)) : v = .int .i64 n := by
 unfold cnR at h
 split at h
 ·simp at h
  obtain ⟨⟨rfl, rfl⟩, _⟩ := h
  rfl
 ·simp at h
theorem cnZero (w : World) : (zeroValue 3).run Tryz.prog w = .ok (.int .i64 0) w := by kernel_rfl
theorem lowF_size {s : ByteArray} (h : s.size ≤ maxLen) : (lowF s).size ≤ maxLen := by
 by_cases hn : IsName s
 ·obtain ⟨a, ha, rfl⟩ := hn
  rw [lowF_nm ha]
  exact low_size ha
 ·rw [lowF_no hn]; exact h
def dupAt (l : List Up) (i : Nat) (s : List UInt8) : Prop := ∃ j, ∃ hj : j < l.length, j < i ∧ (lowF l[j].nm).data.toList = s
open Classical in
noncomputable def cntF (l : List Up) (i : Nat) (s : List UInt8) : Option (DataW Unit) := if dupAt l i s then some (.lit (.int .i64 1)) else none
theorem cntF_zero (l : List Up) (s : List UInt8) : cntF l 0 s = none := by
 classical
 unfold cntF
 rw [if_neg]
 rintro ⟨j, hj, h, _⟩
 omega
theorem dup_snoc {l : List Up} {i : Nat} (hi : i < l.length) (s : List UInt8) : dupAt l (i + 1) s ↔ (s = (lowF l[i].nm).data.toList ∨ dupAt l i s) := by
 constructor
 ·rintro ⟨j, hj, h, e⟩
  rcases Nat.lt_succ_iff_lt_or_eq.1 h with h1 | h1
  ·exact .inr ⟨j, hj, h1, e⟩
  ·subst h1; exact .inl e.symm
 ·rintro (e | ⟨j, hj, h, e⟩)
  ·exact ⟨i, hi, by omega, e.symm⟩
  ·exact ⟨j, hj, by omega, e⟩
theorem cnt_look {w : World} {M n : Nat} {f : List UInt8 → Option (DataW Unit)} (h : MapF 9 cnR w M n f) {k : ByteArray} (hk : k.size ≤ maxLen) {x : Int} (hx : (f k.data.toList).getD (.lit (.int .i64 0)) = .lit (.int .i64 x)) : (Instr.lookup 157 (.map (some M)) (.string k) false).run Tryz.prog w = .ok (.int .i64 x) w := by
 obtain ⟨v, ps, hr, hv⟩ := h.look1 keyedZ Tryz.underlying157 (cnZero _) (zd := .lit (.int .i64 0)) (zp := []) rfl (keyOf_string_mk Tryz.underlying9 hk)
 rw [hx] at hv
 rw [hr, cnR_int hv]
theorem low_eqF {a b : ByteArray} (ha : isN a = true) (h : (lowF a).data.toList = (lowF b).data.toList) : isN b = false ∨ eqF a b = true := by
 by_cases hb : IsName b
 ·right
  obtain ⟨x, hx, rfl⟩ := isN_iff.1 ha
  obtain ⟨y, hy, rfl⟩ := hb
  rw [lowF_nm hx, lowF_nm hy] at h
  rw [eqF_nm hx hy]
  unfold eqB
  exact decide_eq_true (nm_inj hx.low hy.low (ba_ext h))
 ·exact .inl (isN_no hb)
theorem eqF_low {a b : ByteArray} (h : eqF a b = true) : (lowF a).data.toList = (lowF b).data.toList := by
 classical
 obtain ⟨x, y, hx, hy, rfl, rfl, e⟩ := of_decide_eq_true h
 rw [lowF_nm hx, lowF_nm hy]
 unfold eqB at e
 rw [of_decide_eq_true e]
structure UpS (N : Nat) (W : World) (M : Nat) (l : List Up) (i : Nat) (w : World) : Prop where
 bel : Below N W w
 mp : ∃ m, m ≤ i ∧ MapF 9 cnR w M m (cntF l i)
 ok : ∀ j (hj : j < l.length), j < i → upOk l[j] = true
 ap : ∀ a b (ha : a < l.length) (hb : b < l.length), a < b → b < i → eqF l[a].nm l[b].nm = false
set_option maxRecDepth 100000 in
set_option maxHeartbeats 4000000 in
theorem ups_in (W : World) (k : Cq) (c : Cf) (hat : CfAt W k c) (hin : CfIn c) : Calls Tryz.prog 75 #[cfV k c] W fun e w' => e = .returned (.bool (prtR c 3)) ∧ Below W.heap.size W w' := by
 show Calls _ _ _ _ fun e w' => e = .returned (.bool (upsR c.up)) ∧ _
 obtain ⟨l, hl⟩ : ∃ l, c.up = l := ⟨_, rfl⟩
 have hup := hat.up
 have hs3 := hat.s3
 have hui := hin.up
 rw [hl] at hup hs3 hui
 obtain ⟨N, hN⟩ : ∃ N, W.heap.size = N := ⟨_, rfl⟩
 have HNN := Hid.mk hN
 have HBL0 : Hid (∀ n, l.length = n → ∀ i, i < n → ∃ b off, k.q3 = some ⟨b, off, none⟩ ∧ ∃ (u : Up) (qs : Option Addr) (cs : Nat), Hid ((∃ hi : i < l.length, l[i] = u) ∧ u ∈ l ∧ UpIn u) ∧ Hid (∀ w, Below N W w → A.AdsAt w qs u.sv) ∧ Hid (∀ w, Below N W w → w.cell? ⟨b, off + i * 3, none⟩ = some (.string u.nm) ∧ w.cell? ⟨b, off + i * 3 + 1, none⟩ = some (.slice qs u.sv.length cs) ∧ w.cell? ⟨b, off + i * 3 + 2, none⟩ = some (.bool u.fw))) := by
  intro n hn i hi0
  have hi : i < l.length := by omega
  obtain ⟨b, off, qs, cs, e, hlt, c0, c1, c2, hr, hs⟩ := hup i hi
  have key : ∀ w, Below N W w → ∀ j, w.cell? ⟨b, j, none⟩ = W.cell? ⟨b, j, none⟩ := fun w hb j => by rw [← hN] at hb; exact hb.cell (p := ⟨b, j, none⟩) hlt
  exact ⟨b, off, e, l[i], qs, cs, ⟨⟨hi, rfl⟩, List.getElem_mem hi, hui _ (List.getElem_mem hi)⟩, fun w hb => by rw [← hN] at hb; exact hr.blk hb, fun w hb => ⟨(key w hb _).trans c0, (key w hb _).trans c1, (key w hb _).trans c2⟩⟩
 have HBad : Hid (∀ u ∈ l, upOk u = false → upsR l = false) := fun u hu h => upsR_no hu h
 have HTwo : Hid (∀ i (hi : i < l.length), dupAt l i (lowF l[i].nm).data.toList → (∀ j (hj : j < l.length), j < i → upOk l[j] = true) → upsR l = false) := by
  rintro i hi ⟨j, hj, hji, e⟩ hok
  have h1 := hok j hj hji
  unfold upOk at h1
  rw [Bool.and_eq_true] at h1
  rcases low_eqF h1.1 e with h2 | h2
  ·exact upsR_no (List.getElem_mem hi) (by unfold upOk; rw [h2]; rfl)
  ·exact upsR_two hi hji h2
 have HYes : Hid ((∀ j (hj : j < l.length), upOk l[j] = true) → (∀ a b (ha : a < l.length) (hb : b < l.length), a < b → eqF l[a].nm l[b].nm = false) → upsR l = true) := fun h1 h2 => upsR_yes (fun u hu => by
  obtain ⟨j, hj, rfl⟩ := List.getElem_of_mem hu
  exact h1 j hj) (List.pairwise_iff_getElem.2 fun a b ha hb hab => h2 a b ha hb hab)
 have m1 := (MapF.made 9 cnR (W.alloc (.cells (cfC k c) 51))).congr (g := cntF l 0) (fun s => (cntF_zero l s).symm)
 have b1 : Below W.heap.size W (W.alloc (.cells (cfC k c) 51)) := (Below.refl _ _).alloc (Nat.le_refl _) _
 have b2 : Below (W.alloc (.cells (cfC k c) 51)).heap.size (W.alloc (.cells (cfC k c) 51)) ((W.alloc (.cells (cfC k c) 51)).alloc (.map #[] 0)) := (Below.refl _ _).alloc (Nat.le_refl _) _
 have HM0 : Hid (UpS N W (N + 1) l 0 ((W.alloc (.cells (cfC k c) 51)).alloc (.map #[] 0))) := by
  rw [World.size_alloc, hN] at m1
  refine ⟨by rw [← hN]; exact b1.trans (b2.mono b1.size), ⟨0, Nat.le_refl _, m1⟩, fun j hj h => by omega, fun a b ha hb h1 h2 => by omega⟩
 have hmm := @run_makeMap Tryz.prog
 obtain ⟨R, hR⟩ : ∃ R, upsR l = R := ⟨_, rfl⟩
 rw [hl, hR]
 rw [hR] at HBad HTwo HYes
 obtain ⟨n, hn⟩ : ∃ n, l.length = n := ⟨_, rfl⟩
 have HNL := Hid.mk hn
 have HBL := Hid.mk (HBL0.out n hn)
 clear HBL0
 rw [hn] at hs3
 obtain ⟨X, hX⟩ : ∃ X, N + 1 = X := ⟨_, rfl⟩
 have hNX : N ≤ X := by omega
 rw [hX] at HM0
 have HX := Hid.mk hX
 obtain ⟨q0, c0, q1, c1, q2, c2, q3, c3, q4, c4⟩ := k
 have hnm : n < maxLen ∨ n = 0 ∨ n = maxLen := by
  have h1 := hs3.1
  have h2 := hs3.2.1
  simp only at h1 h2
  omega
 have hnx : n ≤ maxLen := by
  have h1 := hs3.1
  have h2 := hs3.2.1
  simp only at h1 h2
  omega
 simp only [cfV, cfC] at HM0 HBL ⊢
 rw [hl, hn] at HM0 ⊢
 obtain ⟨V, hV⟩ : ∃ V, (W.alloc (.cells #[.slice q0 c.rt.length c0, .slice q1 c.ru.length c1, .slice q2 c.lc.length c2, .slice q3 n c3, .slice q4 c.an.length c4, .int .i64 c.n0, .int .i64 c.n1, .int .i64 c.n2, .int .i64 c.n3] 51)).alloc (.map #[] 0) = V := ⟨_, rfl⟩
 rw [hV] at HM0
 have HV := Hid.mk hV
 rw [hN]
 clear hat hin hup hui hl hR hn m1 b1 b2 hV hs3 hX
 go_enter Tryz.func75, Tryz.ntmps75
 go_upto_region 3 with fail
 rw [HX.out, HV.out]
 clear hN hmm
 go_loopw [11] (fun iv wr => ∃ (i : Nat) (u : World), u = wr ∧ i ≤ n ∧ iv = .int .i64 (i : Int) ∧ Hid (UpS N W X l i u)) (fun iv _ => n - (intOf iv).toNat)
 case atStart => exact ⟨0, _, rfl, Nat.zero_le _, rfl, HM0.out⟩
 case round =>
  obtain ⟨i, wq, rfl, hi, rfl, HM⟩ := hrel
  by_cases hlt : i < n
  ·have hlz : (i : Int) < (n : Int) := by omega
   have hNr : N ≤ wq.heap.size := by rw [← HNN.out]; exact HM.out.bel.size
   have wi : IntKind.i64.wrap ((i : Int) + 1) = ((i + 1 : Nat) : Int) := by rw [IntKind.wrap_i64]; unfold maxLen at hnx; omega
   obtain ⟨b, off, rfl, ⟨nm0, sv, fw⟩, qs, cs, HI, HSv, HX0⟩ := HBL.out i hlt
   obtain ⟨d0, d1, d2⟩ := HX0.out _ HM.out.bel
   have hns : nm0.size ≤ maxLen := HI.out.2.2.1
   simp only at d0 d1 d2
   have HLow := Hid.mk (nlower_in nm0 hns)
   have HRi := Hid.mk (nright_in nm0 hns)
   have HSr : Hid (∀ w, Below N W w → Calls Tryz.prog 105 #[.slice qs sv.length cs] w fun e w' => e = .returned (.bool (srvR sv)) ∧ Below w.heap.size w w') := fun w hb => srv_in w qs cs sv (HSv.out w hb)
   have hlws := lowF_size hns
   have hili : i < l.length := by have := HNL.out; omega
   have HDup : Hid (∀ s, dupAt l (i + 1) s ↔ (s = (lowF nm0).data.toList ∨ dupAt l i s)) := fun s => by
    obtain ⟨⟨hi', e⟩, _⟩ := HI.out
    have := dup_snoc hi' s
    rw [e] at this
    exact this
   have HTw : Hid (dupAt l i (lowF nm0).data.toList → R = false) := fun h => by
    obtain ⟨⟨hi', e⟩, _⟩ := HI.out
    have := HTwo.out i hi'
    rw [e] at this
    exact this h HM.out.ok
   have HNew : Hid (¬ dupAt l i (lowF nm0).data.toList → ∀ a (ha : a < l.length), a < i → eqF l[a].nm nm0 = false) := fun h a ha hai => by
    cases he : eqF l[a].nm nm0 with
    | false => rfl
    | true => exact absurd ⟨a, ha, hai, eqF_low he⟩ h
   obtain ⟨low, hlow⟩ : ∃ low, lowF nm0 = low := ⟨_, rfl⟩
   rw [hlow] at HLow hlws HDup HTw HNew
   obtain ⟨V1, hV1⟩ : ∃ V1, wq.alloc (.cells #[.string nm0, .slice qs sv.length cs, .bool fw] 61) = V1 := ⟨_, rfl⟩
   have X0 : Bx wq wq.heap.size [.string nm0, .slice qs sv.length cs, .bool fw] 61 V1 := hV1 ▸ Bx.new wq _ _
   have HV1 := Hid.mk hV1
   obtain ⟨B, hBe⟩ : ∃ B, wq.heap.size = B := ⟨_, rfl⟩
   have HB := Hid.mk hBe
   have x0 := X0.cells3
   rw [hBe] at x0
   obtain ⟨mm, hmi, hmp⟩ := HM.out.mp
   have hmlt : mm < maxLen := by omega
   have HM1 : Hid (∀ w, Below V1.heap.size V1 w → MapF 9 cnR w X mm (cntF l i) ∧ Below N W w ∧ w.heap[B]? = some (.cells #[.string nm0, .slice qs sv.length cs, .bool fw] 61 (0, 0))) := fun w hb => ⟨(hmp.blk X0.bel).blk hb, HM.out.bel.trans ((X0.bel.mono hNr).trans (hb.mono (Nat.le_trans hNr X0.bel.size))), by rw [← hBe]; exact (X0.blk hb).hb⟩
   have HOk : Hid (isN nm0 = true → srvR sv = true → ∀ j (hj : j < l.length), j < i + 1 → upOk l[j] = true) := fun h1 h2 j hj hji => by
    rcases Nat.lt_succ_iff_lt_or_eq.1 hji with h5 | h5
    ·exact HM.out.ok j hj h5
    ·subst h5
     obtain ⟨⟨hi', e⟩, _⟩ := HI.out
     rw [e]; unfold upOk
     simp only
     rw [h1, h2]; rfl
   have HAp : Hid ((∀ a (ha : a < l.length), a < i → eqF l[a].nm nm0 = false) → ∀ a b (ha : a < l.length) (hb : b < l.length), a < b → b < i + 1 → eqF l[a].nm l[b].nm = false) := fun h a b ha hb hab hbi => by
    rcases Nat.lt_succ_iff_lt_or_eq.1 hbi with h5 | h5
    ·exact HM.out.ap a b ha hb hab h5
    ·subst h5
     obtain ⟨⟨hi', e⟩, _⟩ := HI.out
     rw [e]
     exact h a ha hab
   have HNk : Hid (isN nm0 = false ∨ srvR sv = false → R = false) := fun h => HBad.out _ HI.out.2.1 (by
    unfold upOk
    simp only
    rcases h with h | h
    ·rw [h]; rfl
    ·rw [h, Bool.and_false])
   have hnV : V1.heap.size = B + 1 := by rw [← hV1, World.size_alloc, hBe]
   clear hV1 hBe X0 hlow hmp HTwo HBad
   go_upto_region 5 with fail
   rw [HV1.out, HB.out]
   go_wp2_with fail
   refine (HLow.out _).mono ?_
   rintro e w2 ⟨rfl, hb2⟩
   obtain ⟨m2, hbel2, hbx2⟩ := HM1.out _ hb2
   have hsz2 : V1.heap.size ≤ w2.heap.size := hb2.size
   clear hb2 x0
   by_cases hdup : dupAt l i low.data.toList
   ·have hR : R = false := HTw.out hdup
    subst hR
    have hlk := cnt_look m2 hlws (x := 1) (by classical unfold cntF; rw [if_pos hdup]; rfl)
    obtain ⟨w3, hu, m3, ht⟩ := m2.put keyedZ Tryz.underlying157 hmlt (keyOf_string_mk Tryz.underlying9 hlws) (val := .int .i64 2) (d := .lit (.int .i64 2)) (ps := []) rfl
    have hbx3 := turned_cells ht m2.isMap hbx2
    have hbel3 := hbel2.trans (turned_below ht hNX)
    have hsz3 : w2.heap.size ≤ w3.heap.size := ht.grown.size
    have x3 : w3.cell? ⟨B, 0, none⟩ = some (.string nm0) := by rw [So.cell_blk hbx3]; rfl
    have HK : Hid (∀ w, Below w3.heap.size w3 w → Below N W w ∧ w.cell? ⟨B, 1, none⟩ = some (.slice qs sv.length cs) ∧ (Instr.lookup 157 (.map (some X)) (.string low) false).run Tryz.prog w = .ok (.int .i64 2) w) := fun w hb => by
     have hB3 : B < w3.heap.size := (Array.getElem?_eq_some_iff.1 hbx3).1
     refine ⟨hbel3.trans (hb.mono (by rw [← HNN.out]; exact hbel3.size)), ?_, cnt_look (m3.blk hb) hlws (by simp)⟩
     rw [So.cell_blk ((hb.block B hB3).trans hbx3)]
     rfl
    clear m2 m3 ht hbx2 hbx3 hbel2 hdup
    cases hi1 : isN nm0 with
    | false =>
     rw [hi1] at HRi
     have w2i : IntKind.i64.wrap ((1 : Int) + 1) = 2 := by decide
     go_wp2_with fail
     refine (HRi.out _).mono ?_
     rintro e w4 ⟨rfl, hb4⟩
     have HE := HK.out _ hb4
     have HE1 := Hid.mk HE.1
     clear HE hb4
     go_wp2
     go_ret
     exact ⟨rfl, HE1.out⟩
    | true =>
     rw [hi1] at HRi
     go_wp2_with fail
     refine (HRi.out _).mono ?_
     rintro e w4 ⟨rfl, hb4⟩
     obtain ⟨hb4N, x4, _⟩ := HK.out _ hb4
     have HS4 := Hid.mk (HSr.out _ hb4N)
     have HK4 : Hid (∀ w, Below w4.heap.size w4 w → Below N W w ∧ (Instr.lookup 157 (.map (some X)) (.string low) false).run Tryz.prog w = .ok (.int .i64 2) w) := fun w hb => by
      obtain ⟨h1, _, h3⟩ := HK.out w (hb4.trans (hb.mono hb4.size))
      exact ⟨h1, h3⟩
     clear hb4 hb4N
     cases hs1 : srvR sv with
     | false =>
      rw [hs1] at HS4
      go_wp2_with fail
      refine HS4.out.mono ?_
      rintro e w5 ⟨rfl, hb5⟩
      have HE := Hid.mk (HK4.out _ hb5).1
      clear hb5
      go_wp2
      go_ret
      exact ⟨rfl, HE.out⟩
     | true =>
      rw [hs1] at HS4
      go_wp2_with fail
      refine HS4.out.mono ?_
      rintro e w5 ⟨rfl, hb5⟩
      obtain ⟨hE, l5⟩ := HK4.out _ hb5
      have HE := Hid.mk hE
      clear hb5 hE
      go_wp2
      go_ret
      exact ⟨rfl, HE.out⟩
   ·have hlk := cnt_look m2 hlws (x := 0) (by classical unfold cntF; rw [if_neg hdup]; rfl)
    obtain ⟨w3, hu, m3', ht⟩ := m2.put keyedZ Tryz.underlying157 hmlt (keyOf_string_mk Tryz.underlying9 hlws) (val := .int .i64 1) (d := .lit (.int .i64 1)) (ps := []) rfl
    have m3 : MapF 9 cnR w3 X (mm + 1) (cntF l (i + 1)) := m3'.congr fun s => by
     classical
     unfold cntF
     by_cases hs : s = low.data.toList
     ·rw [if_pos hs, if_pos ((HDup.out s).2 (.inl hs))]
     ·rw [if_neg hs]
      by_cases hd : dupAt l i s
      ·rw [if_pos hd, if_pos ((HDup.out s).2 (.inr hd))]
      ·rw [if_neg hd, if_neg (fun h => ((HDup.out s).1 h).elim hs hd)]
    have hself : (cntF l (i + 1) low.data.toList).getD (.lit (.int .i64 0)) = .lit (.int .i64 1) := by
     classical
     unfold cntF
     rw [if_pos ((HDup.out _).2 (.inl rfl))]
     rfl
    have hbx3 := turned_cells ht m2.isMap hbx2
    have hbel3 := hbel2.trans (turned_below ht hNX)
    have x3 : w3.cell? ⟨B, 0, none⟩ = some (.string nm0) := by rw [So.cell_blk hbx3]; rfl
    have HK : Hid (∀ w, Below w3.heap.size w3 w → Below N W w ∧ w.cell? ⟨B, 1, none⟩ = some (.slice qs sv.length cs) ∧ (Instr.lookup 157 (.map (some X)) (.string low) false).run Tryz.prog w = .ok (.int .i64 1) w ∧ MapF 9 cnR w X (mm + 1) (cntF l (i + 1))) := fun w hb => by
     have hB3 : B < w3.heap.size := (Array.getElem?_eq_some_iff.1 hbx3).1
     refine ⟨hbel3.trans (hb.mono (by rw [← HNN.out]; exact hbel3.size)), ?_, cnt_look (m3.blk hb) hlws hself, m3.blk hb⟩
     rw [So.cell_blk ((hb.block B hB3).trans hbx3)]
     rfl
    have HAp2 := Hid.mk (HAp.out (HNew.out hdup))
    clear m2 m3 m3' ht hbx2 hbx3 hbel2 hdup
    cases hi1 : isN nm0 with
    | false =>
     have hR : R = false := HNk.out (.inl hi1)
     subst hR
     rw [hi1] at HRi
     go_wp2_with fail
     refine (HRi.out _).mono ?_
     rintro e w4 ⟨rfl, hb4⟩
     have HE1 := Hid.mk (HK.out _ hb4).1
     clear hb4
     go_wp2
     go_ret
     exact ⟨rfl, HE1.out⟩
    | true =>
     rw [hi1] at HRi
     go_wp2_with fail
     refine (HRi.out _).mono ?_
     rintro e w4 ⟨rfl, hb4⟩
     obtain ⟨hb4N, x4, _⟩ := HK.out _ hb4
     have HS4 := Hid.mk (HSr.out _ hb4N)
     have HK4 : Hid (∀ w, Below w4.heap.size w4 w → Below N W w ∧ (Instr.lookup 157 (.map (some X)) (.string low) false).run Tryz.prog w = .ok (.int .i64 1) w ∧ MapF 9 cnR w X (mm + 1) (cntF l (i + 1))) := fun w hb => by
      obtain ⟨h1, _, h3⟩ := HK.out w (hb4.trans (hb.mono hb4.size))
      exact ⟨h1, h3⟩
     clear hb4 hb4N
     cases hs1 : srvR sv with
     | false =>
      have hR : R = false := HNk.out (.inr hs1)
      subst hR
      rw [hs1] at HS4
      go_wp2_with fail
      refine HS4.out.mono ?_
      rintro e w5 ⟨rfl, hb5⟩
      have HE := Hid.mk (HK4.out _ hb5).1
      clear hb5
      go_wp2
      go_ret
      exact ⟨rfl, HE.out⟩
     | true =>
      have HOk2 := Hid.mk (HOk.out hi1 hs1)
      rw [hs1] at HS4
      go_wp2_with fail
      refine HS4.out.mono ?_
      rintro e w5 ⟨rfl, hb5⟩
      obtain ⟨hE, l5, m5⟩ := HK4.out _ hb5
      have HE : Hid (UpS N W X l (i + 1) w5) := ⟨hE, ⟨mm + 1, by omega, m5⟩, HOk2.out, HAp2.out⟩
      clear hb5 hE m5
      go_wp2
      go_roundw
      case rel => exact ⟨i + 1, _, rfl, by omega, by first | rfl | go_num, HE⟩
      case measure => simp [intOf]; omega
  ·have hlz : ¬ (i : Int) < (n : Int) := by omega
   have hR : R = true := HYes.out (fun j hj => HM.out.ok j hj (by have := HNL.out; omega)) (fun a b ha hb hab => HM.out.ap a b ha hb hab (by have := HNL.out; omega))
   subst hR
   have HE := Hid.mk HM.out.bel
   go_wp2
   go_ret
   exact ⟨rfl, HE.out⟩
end Go.Proofs.YtdlcldjlfhmlgaaGreatDoor
/- Layer 15: parts, Check. -/
namespace Go.Proofs.YtdlcldjlfhmlgaaGreatDoor
open Go.RowKit
def fnP : Nat → Nat
 | 0 => 72
 | 1 => 73
 | 2 => 74
 | 3 => 75
 | 4 => 76
 | _ => 77
abbrev fnQ (f : Nat) : Value := .func (.func f) #[] #[]
def ptC : List Value := [.string (prtN 0), fnQ (fnP 0), .string (prtN 1), fnQ (fnP 1), .string (prtN 2), fnQ (fnP 2), .string (prtN 3), fnQ (fnP 3), .string (prtN 4), fnQ (fnP 4), .string (prtN 5), fnQ (fnP 5)]
theorem ptC_at (i : Nat) (hi : i < 6) : ptC[i * 2]? = some (.string (prtN i)) ∧ ptC[i * 2 + 1]? = some (fnQ (fnP i)) := by
 match i, hi with
 | 0, _ => exact ⟨rfl, rfl⟩
 | 1, _ => exact ⟨rfl, rfl⟩
 | 2, _ => exact ⟨rfl, rfl⟩
 | 3, _ => exact ⟨rfl, rfl⟩
 | 4, _ => exact ⟨rfl, rfl⟩
 | 5, _ => exact ⟨rfl, rfl⟩
theorem fnP_enters (i : Nat) (hi : i < 6) (args : Array Value) (w : World) : (callFunc (fnP i) args).run Tryz.prog w = .ok (.enter (fnP i) args) w := by
 match i, hi with
 | 0, _ => exact enters_by Tryz.func72 (by kernel_rfl) rfl args w
 | 1, _ => exact enters_by Tryz.func73 (by kernel_rfl) rfl args w
 | 2, _ => exact enters_by Tryz.func74 (by kernel_rfl) rfl args w
 | 3, _ => exact enters_by Tryz.func75 (by kernel_rfl) rfl args w
 | 4, _ => exact enters_by Tryz.func76 (by kernel_rfl) rfl args w
 | 5, _ => exact enters_by Tryz.func77 (by kernel_rfl) rfl args w
set_option maxRecDepth 100000 in
set_option maxHeartbeats 2000000 in
theorem cparts_in (W : World) : Calls Tryz.prog 35 #[] W fun e w' => e = .returned (.slice (some ⟨W.heap.size, 0, none⟩) 6 6) ∧ w' = W.alloc (.cells ptC.toArray 97) := by
 go_enter Tryz.func35, Tryz.ntmps35
 go_wp2
 go_ret
 exact ⟨rfl, rfl⟩
structure ChS (N : Nat) (W : World) (k : Cq) (c : Cf) (w : World) : Prop where
 bel : Below N W w
 nN : N = W.heap.size
 cb : w.heap[N]? = some (.cells (cfC k c) 51 (0, 0))
 pb : w.heap[N + 1]? = some (.cells ptC.toArray 97 (0, 0))
theorem ChS.size {N : Nat} {W : World} {k : Cq} {c : Cf} {w : World} (h : ChS N W k c w) : N ≤ w.heap.size := by rw [h.nN]; exact h.bel.size
theorem ChS.blk {N : Nat} {W : World} {k : Cq} {c : Cf} {w w' : World} (h : ChS N W k c w) (hb : Below w.heap.size w w') : ChS N W k c w' :=
 ⟨h.bel.trans (hb.mono h.size), h.nN, (hb.block _ (Array.getElem?_eq_some_iff.1 h.cb).1).trans h.cb, (hb.block _ (Array.getElem?_eq_some_iff.1 h.pb).1).trans h.pb⟩
noncomputable def chkE (c : Cf) : Int := if chkR c = 6 then 0 else 12
set_option maxRecDepth 100000 in
set_option maxHeartbeats 8000000 in
theorem check_in (W : World) (k : Cq) (c : Cf) (hat : CfAt W k c) (hin : CfIn c) (hl : c.lc.length ≤ 9223372036854775806) : Calls Tryz.prog 17 #[cfV k c] W fun e w' => e = .returned (.tuple #[.string (prtN (chkR c)), .int .i64 (chkE c)]) ∧ Below W.heap.size W w' := by
 have HF : Hid (∀ i, i < 6 → ∀ w, Below W.heap.size W w → Calls Tryz.prog (fnP i) #[cfV k c] w fun e w' => e = .returned (.bool (prtR c i)) ∧ Below w.heap.size w w') := fun i hi w hb => by
  have hw := hat.blk hb
  match i, hi with
  | 0, _ => exact roots_in w k c hw
  | 1, _ => exact rules_in w k c hw hin
  | 2, _ => exact locals_in w k c hw hin hl
  | 3, _ => exact ups_in w k c hw hin
  | 4, _ => exact anchors_in w k c hw hin
  | 5, _ => exact numbers_in15 w k c
 obtain ⟨N, hN⟩ : ∃ N, W.heap.size = N := ⟨_, rfl⟩
 have HNN := Hid.mk hN
 rw [hN] at HF ⊢
 have HPt := Hid.mk (cparts_in (W.alloc (.cells (cfC k c) 51)))
 have H0 : Hid (ChS N W k c ((W.alloc (.cells (cfC k c) 51)).alloc (.cells ptC.toArray 97))) := by
  have b1 : Below W.heap.size W (W.alloc (.cells (cfC k c) 51)) := (Below.refl _ _).alloc (Nat.le_refl _) _
  have b2 : Below (W.alloc (.cells (cfC k c) 51)).heap.size (W.alloc (.cells (cfC k c) 51)) ((W.alloc (.cells (cfC k c) 51)).alloc (.cells ptC.toArray 97)) := (Below.refl _ _).alloc (Nat.le_refl _) _
  have e1 := heap_alloc_new W (.cells (cfC k c) 51)
  have e2 := heap_alloc_new (W.alloc (.cells (cfC k c) 51)) (.cells ptC.toArray 97)
  rw [World.size_alloc, hN] at e2
  refine ⟨by rw [← hN]; exact b1.trans (b2.mono b1.size), hN.symm, ?_, e2⟩
  rw [← hN]
  exact (b2.block _ (Array.getElem?_eq_some_iff.1 e1).1).trans e1
 rw [World.size_alloc, hN] at HPt
 have HWrong : Hid (∀ i, i < 6 → prtR c i = false → (∀ j, j < i → prtR c j = true) → (.returned (.tuple #[.string (prtN i), .int .i64 12]) : Ending) = .returned (.tuple #[.string (prtN (chkR c)), .int .i64 (chkE c)])) := fun i hi h1 h2 => by
  have e := chkR_at c i hi h1 h2
  unfold chkE
  rw [e, if_neg (by omega)]
 have HRight : Hid ((∀ j, j < 6 → prtR c j = true) → (.returned (.tuple #[.string ⟨#[]⟩, .int .i64 0]) : Ending) = .returned (.tuple #[.string (prtN (chkR c)), .int .i64 (chkE c)])) := fun h => by
  have e := chkR_none c h
  unfold chkE
  rw [e, if_pos rfl]
  rfl
 obtain ⟨RR, hRR⟩ : ∃ RR, (.returned (.tuple #[.string (prtN (chkR c)), .int .i64 (chkE c)]) : Ending) = RR := ⟨_, rfl⟩
 rw [hRR] at HWrong HRight ⊢
 obtain ⟨pR, hpR⟩ : ∃ pR, prtR c = pR := ⟨_, rfl⟩
 rw [hpR] at HWrong HRight HF
 have HBox : Hid (∀ w, ChS N W k c w → ∀ i, i < 6 → w.cell? ⟨N + 1, i * 2, none⟩ = some (.string (prtN i)) ∧ w.cell? ⟨N + 1, i * 2 + 1, none⟩ = some (fnQ (fnP i))) := fun w h i hi => by
  obtain ⟨e1, e2⟩ := ptC_at i hi
  exact ⟨by rw [So.cell_blk h.pb, List.getElem?_toArray, e1], by rw [So.cell_blk h.pb, List.getElem?_toArray, e2]⟩
 have HCb : Hid (∀ w, ChS N W k c w → ∀ j v, (cfC k c)[j]? = some v → w.cell? ⟨N, j, none⟩ = some v) := fun w h j v hv => by rw [So.cell_blk h.cb, hv]
 have HEn := Hid.mk fnP_enters
 obtain ⟨V, hV⟩ : ∃ V, (W.alloc (.cells (cfC k c) 51)).alloc (.cells ptC.toArray 97) = V := ⟨_, rfl⟩
 rw [hV] at H0 HPt
 obtain ⟨k0, hk0⟩ : ∃ k0, k = k0 := ⟨_, rfl⟩
 have HKq := Hid.mk hk0
 obtain ⟨q0, c0, q1, c1, q2, c2, q3, c3, q4, c4⟩ := k
 have HCc : Hid (∀ w, ChS N W k0 c w → w.cell? ⟨N, 0, none⟩ = some (.slice q0 c.rt.length c0) ∧ w.cell? ⟨N, 1, none⟩ = some (.slice q1 c.ru.length c1) ∧ w.cell? ⟨N, 2, none⟩ = some (.slice q2 c.lc.length c2) ∧ w.cell? ⟨N, 3, none⟩ = some (.slice q3 c.up.length c3) ∧ w.cell? ⟨N, 4, none⟩ = some (.slice q4 c.an.length c4) ∧ w.cell? ⟨N, 5, none⟩ = some (.int .i64 c.n0) ∧ w.cell? ⟨N, 6, none⟩ = some (.int .i64 c.n1) ∧ w.cell? ⟨N, 7, none⟩ = some (.int .i64 c.n2) ∧ w.cell? ⟨N, 8, none⟩ = some (.int .i64 c.n3)) := fun w h => by
  subst hk0
  exact ⟨HCb.out w h 0 _ rfl, HCb.out w h 1 _ rfl, HCb.out w h 2 _ rfl, HCb.out w h 3 _ rfl, HCb.out w h 4 _ rfl, HCb.out w h 5 _ rfl, HCb.out w h 6 _ rfl, HCb.out w h 7 _ rfl, HCb.out w h 8 _ rfl⟩
 simp only [cfV, cfC] at HF HPt ⊢
 rw [hk0] at H0 HBox
 clear hat hin hl hRR hpR hV hk0 HCb
 go_enter Tryz.func17, Tryz.ntmps17
 go_wp2_with fail
 refine HPt.out.mono ?_
 rintro e w1 ⟨rfl, rfl⟩
 go_wp2
 clear hN
 go_loopw [8] (fun iv wr => ∃ (i : Nat) (u : World), u = wr ∧ i ≤ 6 ∧ iv = .int .i64 (i : Int) ∧ Hid (∀ j, j < i → pR j = true) ∧ Hid (ChS N W k0 c u)) (fun iv _ => 6 - (intOf iv).toNat)
 case atStart => exact ⟨0, _, rfl, Nat.zero_le _, rfl, fun j h => absurd h (Nat.not_lt_zero _), H0.out⟩
 case round =>
  obtain ⟨i, u, rfl, hi, rfl, HA, HU⟩ := hrel
  by_cases hlt : i < 6
  ·have hlz : (i : Int) < 6 := by omega
   have wi : IntKind.i64.wrap ((i : Int) + 1) = ((i + 1 : Nat) : Int) := by rw [IntKind.wrap_i64]; omega
   obtain ⟨p0, p1⟩ := HBox.out _ HU.out i hlt
   have hen := HEn.out i hlt
   obtain ⟨nmv, hnmv⟩ : ∃ nmv, prtN i = nmv := ⟨_, rfl⟩
   obtain ⟨fv, hfv⟩ : ∃ fv, fnP i = fv := ⟨_, rfl⟩
   have HFi : Hid (∀ w, Below N W w → Calls Tryz.prog fv #[.agg #[.slice q0 c.rt.length c0, .slice q1 c.ru.length c1, .slice q2 c.lc.length c2, .slice q3 c.up.length c3, .slice q4 c.an.length c4, .int .i64 c.n0, .int .i64 c.n1, .int .i64 c.n2, .int .i64 c.n3]] w fun e w' => e = .returned (.bool (pR i)) ∧ Below w.heap.size w w') := fun w hb => by rw [← hfv]; exact HF.out i hlt w hb
   have HWr : Hid (pR i = false → (.returned (.tuple #[.string nmv, .int .i64 12]) : Ending) = RR) := fun h => by rw [← hnmv]; exact HWrong.out i hlt h HA.out
   rw [hnmv] at p0
   rw [hfv] at p1 hen
   obtain ⟨V1, hV1⟩ : ∃ V1, u.alloc (.cells #[.string nmv, fnQ fv] 97) = V1 := ⟨_, rfl⟩
   have X0 : Bx u u.heap.size [.string nmv, fnQ fv] 97 V1 := hV1 ▸ Bx.new u _ _
   have HV1 := Hid.mk hV1
   have HU1 := Hid.mk (HU.out.blk X0.bel)
   obtain ⟨B, hBe⟩ : ∃ B, u.heap.size = B := ⟨_, rfl⟩
   have HB := Hid.mk hBe
   rw [hBe] at X0
   have x0 := X0.cell 0 _ rfl
   have x1 := X0.cell 1 _ rfl
   have HXb := Hid.mk (fun w (hb : Below V1.heap.size V1 w) => (X0.blk hb).cell 0 _ rfl)
   clear hV1 hBe hnmv hfv X0
   obtain ⟨y0, y1, y2, y3, y4, y5, y6, y7, y8⟩ := HCc.out _ HU1.out
   go_upto_region 4 with fail
   rw [HV1.out, HB.out]
   cases hp : pR i with
   | false =>
    have HEq := Hid.mk (HWr.out hp)
    rw [hp] at HFi
    go_wp2_with fail
    refine (HFi.out _ HU1.out.bel).mono ?_
    rintro e w2 ⟨rfl, hb2⟩
    have x2 := HXb.out _ hb2
    have HE := Hid.mk (HU1.out.blk hb2).bel
    clear hb2 x0 x1 y0 y1 y2 y3 y4 y5 y6 y7 y8 p0 p1 hp
    go_wp2
    go_ret2
    exact ⟨HEq.out, HE.out⟩
   | true =>
    rw [hp] at HFi
    have HA2 : Hid (∀ j, j < i + 1 → pR j = true) := fun j hji => by
     rcases Nat.lt_succ_iff_lt_or_eq.1 hji with h5 | h5
     ·exact HA.out j h5
     ·rw [h5]; exact hp
    go_wp2_with fail
    refine (HFi.out _ HU1.out.bel).mono ?_
    rintro e w2 ⟨rfl, hb2⟩
    have HE := Hid.mk (HU1.out.blk hb2)
    clear hb2 x0 x1 y0 y1 y2 y3 y4 y5 y6 y7 y8 p0 p1 hp
    go_wp2
    go_roundw
    case rel => exact ⟨i + 1, _, rfl, by omega, by first | rfl | go_num, HA2, HE⟩
    case measure => simp [intOf]; omega
  ·have hlz : ¬ (i : Int) < 6 := by omega
   have HEq := Hid.mk (HRight.out fun j hj => HA.out j (by omega))
   have HE := Hid.mk HU.out.bel
   go_wp2
   go_ret2
   exact ⟨HEq.out, HE.out⟩
end Go.Proofs.YtdlcldjlfhmlgaaGreatDoor
