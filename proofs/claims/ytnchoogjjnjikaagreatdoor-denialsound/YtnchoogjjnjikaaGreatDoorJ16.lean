/- Texts of this proof, joined: GSum1, GSpread2, GStir2, GSum2, GTell, ZHash. -/
import Derived.Test.YtnchoogjjnjikaaGreatDoorJ15
import Derived.Laws.AppendOwn
import Derived.OwnWalk
import Derived.Test.YtnchoogjjnjikaaGreatDoorJ11
/- bytesOf, Sum1. -/
namespace Go.Proofs.YtnchoogjjnjikaaGreatDoor.G
set_option linter.unusedVariables false
open Go.RowKit
theorem put5 {W : World} {b t : Nat} (s r : S5) (h : W.heap[b]? = some (.cells (wc s.l) t (0, 0))) :
    (((((W.setCell ⟨b, 0, none⟩ (.int .u32 (r.a.toNat : Int))).setCell ⟨b, 1, none⟩ (.int .u32 (r.b.toNat : Int))).setCell ⟨b, 2, none⟩ (.int .u32 (r.c.toNat : Int))).setCell ⟨b, 3, none⟩ (.int .u32 (r.d.toNat : Int))).setCell ⟨b, 4, none⟩ (.int .u32 (r.e.toNat : Int))).heap[b]? = some (.cells (wc r.l) t (0, 0)) := by
  rw [cells_put (cells_put (cells_put (cells_put (cells_put h _) _) _) _) _]
  rfl
theorem cells5 {W : World} {b t : Nat} (s : S5) (h : W.heap[b]? = some (.cells (wc s.l) t (0, 0))) :
    (W.cell? ⟨b, 0, none⟩ = some (.int .u32 (s.a.toNat : Int)) ∧ W.cell? ⟨b, 1, none⟩ = some (.int .u32 (s.b.toNat : Int)) ∧ W.cell? ⟨b, 2, none⟩ = some (.int .u32 (s.c.toNat : Int)) ∧ W.cell? ⟨b, 3, none⟩ = some (.int .u32 (s.d.toNat : Int)) ∧ W.cell? ⟨b, 4, none⟩ = some (.int .u32 (s.e.toNat : Int))) ∧
    (W.frozen? ⟨b, 0, none⟩ = false ∧ W.frozen? ⟨b, 1, none⟩ = false ∧ W.frozen? ⟨b, 2, none⟩ = false ∧ W.frozen? ⟨b, 3, none⟩ = false ∧ W.frozen? ⟨b, 4, none⟩ = false) :=
  ⟨s.at h, (cells_at h (j := 0) rfl).2, (cells_at h (j := 1) rfl).2, (cells_at h (j := 2) rfl).2, (cells_at h (j := 3) rfl).2, (cells_at h (j := 4) rfl).2⟩
set_option maxRecDepth 100000 in
set_option maxHeartbeats 2000000 in
theorem sum1_gen (s : ByteArray) (hs : s.size ≤ 140737488355328) (n : Nat) (hn : n = nb s.size) (B : Nat → List UInt8) (hB : ∀ k, (B k).length = 64) (R : Nat → S5) (hR0 : R 0 = ⟨0x67452301#32, 0xefcdab89#32, 0x98badcfe#32, 0x10325476#32, 0xc3d2e1f0#32⟩) (hRs : ∀ k, R (k + 1) = stir1 (R k) (B k))
    (hbk : ∀ k, k < n → ∀ w : World, Calls Tryz.prog 82 #[.string s, .int .i64 (k : Int)] w fun e w' => e = .returned (.agg (bc (B k))) ∧ Below w.heap.size w w')
    (T : List UInt8) (hT : ∀ (W : World) (b : Nat), W.heap[b]? = some (.cells (wc (R n).l) 118 (0, 0)) → Calls Tryz.prog 83 #[.slice (some ⟨b, 0, none⟩) 5 5] W fun e w' => e = .returned (.string ⟨T.toArray⟩) ∧ Below W.heap.size W w') (w : World) :
    Calls Tryz.prog 50 #[.string s] w fun e w' => e = .returned (.string ⟨T.toArray⟩) ∧ Below w.heap.size w w' := by
  have HN : Hid (n = nb s.size) := hn
  have HB := Hid.mk hB
  have HR0 := Hid.mk hR0
  have HRs := Hid.mk hRs
  have HBK := Hid.mk hbk
  have HT := Hid.mk hT
  have hnb : n ≤ 2199023255553 := by rw [hn]; unfold nb; omega
  have HBL := Hid.mk (blocks_in s.size hs)
  rw [← hn] at HBL
  clear hn hB hR0 hRs hbk hT
  go_enter Tryz.func50, Tryz.ntmps50
  go_wp2_with fail
  refine (HBL.out _).mono ?_
  rintro e W1 ⟨rfl, rfl⟩
  go_wp2_with fail
  go_loopw [9] (fun i wr => ∃ m : Nat, m ≤ n ∧ i = .int .i64 m ∧ wr.heap[w.heap.size]? = some (.cells (wc (R m).l) 118 (0, 0)) ∧ Below w.heap.size w wr) (fun i _ => n - (intOf i).toNat)
  case atStart =>
    refine ⟨0, by omega, rfl, ?_, (Below.refl _ _).alloc (Nat.le_refl _) _⟩
    rw [HR0.out, heap_new]
    rfl
  case round =>
    obtain ⟨m, hm, rfl, h1, hbl⟩ := hrel
    have H1 := Hid.mk h1
    by_cases hlt : m < n
    · have HST : Hid (∀ W : World, Calls Tryz.prog 81 #[.agg #[.int .u32 ((R m).a.toNat : Int), .int .u32 ((R m).b.toNat : Int), .int .u32 ((R m).c.toNat : Int), .int .u32 ((R m).d.toNat : Int), .int .u32 ((R m).e.toNat : Int)], .agg (bc (B m))] W fun x w' => x = .returned (.agg #[.int .u32 ((R (m + 1)).a.toNat : Int), .int .u32 ((R (m + 1)).b.toNat : Int), .int .u32 ((R (m + 1)).c.toNat : Int), .int .u32 ((R (m + 1)).d.toNat : Int), .int .u32 ((R (m + 1)).e.toNat : Int)]) ∧ Below W.heap.size W w') := fun W => by
        rw [HRs.out m]
        exact stir1_in (R m) (B m) (HB.out m) W
      have HBM := Hid.mk (HBK.out m hlt)
      obtain ⟨⟨c0, c1, c2, c3, c4⟩, f0, f1', f2, f3, f4⟩ := cells5 (R m) h1
      clear h1
      go_wp2_with fail
      go_region_with (first
        | (have hck := M1; clear hck; go_at_call 81; refine (HST.out _).mono ?_; rintro e w2 ⟨rfl, hb2⟩; have K2 : Hid (w2.heap[w.heap.size]? = _) := (hb2.block _ (box_lt K1.out)).trans K1.out; obtain ⟨⟨e0, e1, e2, e3, e4⟩, g0, g1, g2, g3, g4⟩ := cells5 (R m) K2.out)
        | (go_at_call 82; refine (HBM.out _).mono ?_; rintro e w1 ⟨rfl, hb1⟩; have K1 : Hid (w1.heap[w.heap.size]? = _) := (hb1.block _ (box_lt H1.out)).trans H1.out; obtain ⟨⟨d0, d1, d2, d3, d4⟩, j0, j1, j2, j3, j4⟩ := cells5 (R m) K1.out; have M1 : True := trivial))
      all_goals (
        have hbw : Below w.heap.size w w2 := bthen (bthen hbl.drew hb1) hb2
        clear hb1 hb2 K1 d0 d1 d2 d3 d4 j0 j1 j2 j3 j4 e0 e1 e2 e3 e4 g0 g1 g2 g3 g4 c0 c1 c2 c3 c4 f0 f1' f2 f3 f4
        go_wp2
        go_roundw
        case rel => exact ⟨m + 1, by omega, by go_num, put5 (R m) (R (m + 1)) K2.out, ((((hbw.setCell (Nat.le_refl _) _).setCell (Nat.le_refl _) _).setCell (Nat.le_refl _) _).setCell (Nat.le_refl _) _).setCell (Nat.le_refl _) _⟩
        case measure => simp [intOf]; omega)
    · obtain rfl : m = n := by omega
      have HTT := Hid.mk (HT.out wr w.heap.size H1.out)
      clear h1
      go_wp2_with fail
      refine HTT.out.mono ?_
      rintro e w3 ⟨rfl, hb3⟩
      go_wp2
      go_ret
      exact ⟨rfl, bthen hbl hb3⟩
end Go.Proofs.YtnchoogjjnjikaaGreatDoor.G
/- spread256. -/
namespace Go.Proofs.YtnchoogjjnjikaaGreatDoor.G
set_option linter.unusedVariables false
open Go.RowKit
end Go.Proofs.YtnchoogjjnjikaaGreatDoor.G
/- stir256. -/
namespace Go.Proofs.YtnchoogjjnjikaaGreatDoor.G
set_option linter.unusedVariables false
open Go.RowKit
theorem S8.at (s : S8) {W : World} {b t : Nat} (h : W.heap[b]? = some (.cells (wc s.l) t (0, 0))) :
    W.cell? ⟨b, 0, none⟩ = some (.int .u32 (s.a.toNat : Int)) ∧ W.cell? ⟨b, 1, none⟩ = some (.int .u32 (s.b.toNat : Int)) ∧ W.cell? ⟨b, 2, none⟩ = some (.int .u32 (s.c.toNat : Int)) ∧ W.cell? ⟨b, 3, none⟩ = some (.int .u32 (s.d.toNat : Int)) ∧ W.cell? ⟨b, 4, none⟩ = some (.int .u32 (s.e.toNat : Int)) ∧ W.cell? ⟨b, 5, none⟩ = some (.int .u32 (s.f.toNat : Int)) ∧ W.cell? ⟨b, 6, none⟩ = some (.int .u32 (s.g.toNat : Int)) ∧ W.cell? ⟨b, 7, none⟩ = some (.int .u32 (s.h.toNat : Int)) :=
  ⟨(cells_at h rfl).1, (cells_at h rfl).1, (cells_at h rfl).1, (cells_at h rfl).1, (cells_at h rfl).1, (cells_at h rfl).1, (cells_at h rfl).1, (cells_at h rfl).1⟩
end Go.Proofs.YtnchoogjjnjikaaGreatDoor.G
/- Sum256. -/
namespace Go.Proofs.YtnchoogjjnjikaaGreatDoor.G
set_option linter.unusedVariables false
open Go.RowKit
end Go.Proofs.YtnchoogjjnjikaaGreatDoor.G
/- bytesOf; the document's tell. -/
namespace Go.Proofs.YtnchoogjjnjikaaGreatDoor.G
set_option linter.unusedVariables false
open Go.RowKit
theorem info5 : (Tryz.prog.info? 5).map (fun i => (i.zero, i.size, i.bytes)) = some (some (.int .u8 0), 1, 1) := by kernel_rfl
theorem info_of {t : Nat} {z : Value} {n b : Nat} (h : (Tryz.prog.info? t).map (fun i => (i.zero, i.size, i.bytes)) = some (some z, n, b)) : ∃ i0, Tryz.prog.info? t = some i0 ∧ i0.zero = some z ∧ i0.size = n ∧ i0.bytes = b := by
  cases hq : Tryz.prog.info? t with
  | none => simp [hq] at h
  | some i => exact ⟨i, rfl, by simp [hq] at h; exact h.1, by simp [hq] at h; exact h.2.1, by simp [hq] at h; exact h.2.2⟩
def bcl (l : List UInt8) : List Value := l.map fun c => Value.int .u8 (c.toNat : Int)
theorem bcl_app (a b : List UInt8) : bcl (a ++ b) = bcl a ++ bcl b := by simp [bcl]
theorem addr_at (b j : Nat) : (⟨b, 0, none⟩ : Addr).add j = ⟨b, j, none⟩ := by unfold Addr.add; split <;> simp_all
theorem cells_new (W : World) (cs : Array Value) (t : TypeId) (j : Nat) (u : Value) (h : cs.toList[j]? = some u) : (W.alloc (.cells cs t)).cell? ((⟨W.heap.size, 0, none⟩ : Addr).add j) = some u := by
  rw [addr_at]
  have hh : (W.alloc (.cells cs t)).heap[W.heap.size]? = some (.cells cs t) := heap_new W _
  simp only [World.cell?, hh]
  simpa using h
theorem bt_int (n k : Nat) : ((bt n k).toNat : Int) = (n : Int) / 2 ^ (8 * k) % 256 := by
  rw [bt, UInt8.toNat_ofNat', show (n : Int) / 2 ^ (8 * k) = ((n / 2 ^ (8 * k) : Nat) : Int) by rw [Int.natCast_ediv, Int.natCast_pow]; rfl]
  generalize n / 2 ^ (8 * k) = q
  omega
theorem bcl_b4 (x : BitVec 32) : bcl (b4 x) = [.int .u8 ((x.toNat : Int) / 16777216), .int .u8 ((x.toNat : Int) / 65536 % 256), .int .u8 ((x.toNat : Int) / 256 % 256), .int .u8 ((x.toNat : Int) % 256)] := by
  have hx := bv_lt x
  have e3 : ((bt x.toNat 3).toNat : Int) = (x.toNat : Int) / 16777216 := by rw [bt_int]; simp only [Nat.reduceMul, Int.reducePow]; omega
  have e2 : ((bt x.toNat 2).toNat : Int) = (x.toNat : Int) / 65536 % 256 := by rw [bt_int]; simp only [Nat.reduceMul, Int.reducePow]
  have e1 : ((bt x.toNat 1).toNat : Int) = (x.toNat : Int) / 256 % 256 := by rw [bt_int]; simp only [Nat.reduceMul, Int.reducePow]
  have e0 : ((bt x.toNat 0).toNat : Int) = (x.toNat : Int) % 256 := by rw [bt_int]; simp only [Nat.reduceMul, Int.reducePow]; omega
  simp only [bcl, b4, List.map_cons, List.map_nil, e3, e2, e1, e0]
theorem flat_len : ∀ (p : List (BitVec 32)) (n : Nat), p.length = n → (p.flatMap b4).length = 4 * n
  | [], n, h => by subst h; rfl
  | x :: p, n, h => by
    subst h
    rw [List.flatMap_cons, List.length_append, flat_len p p.length rfl]
    simp only [b4, List.length_cons, List.length_nil]
    omega
theorem own_back {w : World} {base g n cap : Nat} {l : List UInt8} (h : w.ownsRow base 5 1 (.slice (some ⟨g, 0, none⟩) n cap) n (bcl l)) (hl : l.length = n) :
    (convert 58 9 (.slice (some ⟨g, 0, none⟩) n cap)).run Tryz.prog w = .ok (.string ⟨l.toArray⟩) w := by
  subst hl
  refine run_convert_bytes_back (P := Tryz.prog) w 58 9 5 ⟨g, 0, none⟩ cap l Tryz.underlying58 Tryz.underlying5 Tryz.underlying9 (fun j hj => ?_)
  rw [addr_at, h.cellAt j (by omega)]
  simp [bcl, hj]
set_option maxRecDepth 100000 in
theorem bytesOf_in (W : World) (b t : Nat) (p : List (BitVec 32)) (hp : p.length ≤ 100) (h : W.heap[b]? = some (.cells (wc p) t (0, 0))) :
    Calls Tryz.prog 83 #[.slice (some ⟨b, 0, none⟩) p.length p.length] W fun e w' => e = .returned (.string ⟨(p.flatMap b4).toArray⟩) ∧ Below W.heap.size W w' := by
  obtain ⟨i0, hi, hz0, hz1, hz2⟩ := info_of info5
  obtain ⟨n, hn⟩ : ∃ n, p.length = n := ⟨_, rfl⟩
  have HP : Hid (p.length = n) := hn
  have hn2 : n ≤ 100 := by omega
  have H := Hid.mk h
  rw [hn]
  clear hn hp h
  go_enter Tryz.func83, Tryz.ntmps83
  go_wp2_with (at_make; refine wpList_make_own _ rfl _ _ 58 rfl W.heap.size 5 i0 (.int .u8 0) 1 Tryz.underlying58 hi hz0 hz1 _ _ _ (4 * n) rfl rfl (by omega) (by rw [hz2]; omega) (by unfold maxLen; omega) (Nat.le_refl _) ?_; intro w1 hown1 hgrow1)
  have B1 : Below W.heap.size W w1 := (Below.refl _ _).grown hgrow1 (Nat.le_refl _) (by simp)
  have K1 : w1.heap[b]? = some (.cells (wc p) t (0, 0)) := (B1.block b (box_lt H.out)).trans H.out
  have HK1 := Hid.mk K1
  have HO1 := Hid.mk hown1
  clear K1 hown1 hgrow1
  go_loopw [3, 12] (fun v i wr => ∃ m : Nat, m ≤ n ∧ i = .int .i64 m ∧ v = .slice (some ⟨W.heap.size, 0, none⟩) (4 * m) (4 * n) ∧ wr.ownsRow W.heap.size 5 1 (.slice (some ⟨W.heap.size, 0, none⟩) (4 * m) (4 * n)) (4 * m) (bcl ((p.take m).flatMap b4)) ∧ wr.heap[b]? = some (.cells (wc p) t (0, 0)) ∧ Below W.heap.size W wr) (fun _ i _ => n - (intOf i).toNat)
  case atStart => exact ⟨0, by omega, rfl, rfl, HO1.out, HK1.out, B1⟩
  case round =>
    obtain ⟨m, hm, rfl, rfl, hown, hk, hbl⟩ := hrel
    have HO := Hid.mk hown
    have HK := Hid.mk hk
    by_cases hlt : m < n
    · have hc : wr.cell? ⟨b, m, none⟩ = some (.int .u32 ((p[m]?.getD 0).toNat : Int)) := (cells_at hk (by rw [wc_at, List.getElem?_eq_getElem (by have := HP.out; omega)]; rfl)).1
      have HN : Hid ((p.take (m + 1)).flatMap b4 = (p.take m).flatMap b4 ++ b4 (p[m]?.getD 0)) := by
        rw [Hid, List.take_add_one, List.flatMap_append, List.getElem?_eq_getElem (by have := HP.out; omega)]
        simp
      generalize p[m]?.getD 0 = x at hc HN
      have hxl := bv_lt x
      clear hown hk
      have HB4 : Hid (bcl (b4 x) = [.int .u8 ((x.toNat : Int) / 16777216), .int .u8 ((x.toNat : Int) / 65536 % 256), .int .u8 ((x.toNat : Int) / 256 % 256), .int .u8 ((x.toNat : Int) % 256)]) := bcl_b4 x
      have hwb : b < W.heap.size := box_lt H.out
      go_wp2_with (at_builtin; refine wpList_append_fits _ rfl _ _ 58 rfl W.heap.size 5 i0 1 Tryz.underlying58 hi hz1 W.heap.size (4 * m) (4 * n) _ rfl (HO.out.alloc _) ⟨wr.heap.size, 0, none⟩ 4 4 [.int .u8 ((x.toNat : Int) / 16777216), .int .u8 ((x.toNat : Int) / 65536 % 256), .int .u8 ((x.toNat : Int) / 256 % 256), .int .u8 ((x.toNat : Int) % 256)] rfl rfl (fun j u h => cells_new wr _ 5 j u h) (by simp [Value.oneCell']) (by omega) ?_; intro w2 hown2 hgrow2)
      have B2 : Below W.heap.size W w2 := (hbl.alloc hbl.size _).grown hgrow2 (Nat.le_trans hbl.size (by simp)) (by intro k hk; cases hk; exact Nat.le_refl _)
      go_roundw
      case rel =>
        refine ⟨m + 1, by omega, by go_num, rfl, ?_, (B2.block b hwb).trans H.out, B2⟩
        rw [HN.out, bcl_app, HB4.out]
        exact hown2
      case measure => simp [intOf]; omega
    · obtain rfl : m = n := by omega
      have hcv := own_back HO.out (by rw [List.take_of_length_le (Nat.le_of_eq HP.out)]; exact flat_len p m HP.out)
      rw [List.take_of_length_le (Nat.le_of_eq HP.out)] at hcv
      clear hown hk
      go_wp2
      go_ret
      exact ⟨rfl, hbl⟩
theorem sum1_in (s : ByteArray) (hs : s.size ≤ 140737488355328) (w : World) :
    Calls Tryz.prog 50 #[.string s] w fun e w' => e = .returned (.string ⟨(sha1 s.data.toList).toArray⟩) ∧ Below w.heap.size w w' :=
  sum1_gen s hs (nb s.size) rfl (blk s.data.toList) (blk_len _) (go1 s.data.toList) rfl (fun k => rfl) (fun k hk w => blockOf_in s k hs hk w) (sha1 s.data.toList)
    (fun W b h => bytesOf_in W b 118 (go1 s.data.toList (nb s.size)).l (by show 5 ≤ 100; omega) h) w
end Go.Proofs.YtnchoogjjnjikaaGreatDoor.G
/- hashed, Hash. -/
namespace Go.Proofs.YtnchoogjjnjikaaGreatDoor
set_option linter.unusedVariables false
set_option linter.unusedSimpArgs false
open Go.RowKit
attribute [local go_sem ↓] storeAt_lk loadAt_lk
theorem low_yes (ls : List (List UInt8)) (ho : OkN ls) (w : World) :
    Calls Tryz.prog 49 #[.string (nm ls)] w fun e w' => e = .returned (.string (nm (lowN ls))) ∧ Below w.heap.size w w' := by
  go_enter Tryz.func49, Tryz.ntmps49
  go_wp2_with fail
  refine (right_yes ls ho _).mono ?_
  rintro e w1 ⟨rfl, hb1⟩
  go_wp2_with fail
  refine (lowered_nm ls ho _).mono ?_
  rintro e w2 ⟨rfl, hb2⟩
  go_wp2
  go_ret
  exact ⟨rfl, bthen hb1 hb2⟩
def hsh (a salt : List UInt8) : Nat → List UInt8
  | 0 => a
  | i + 1 => G.sha1 (hsh a salt i ++ salt)
theorem hsh_len (a salt : List UInt8) (ha : a.length ≤ 255) : ∀ i, (hsh a salt i).length ≤ 255
  | 0 => ha
  | i + 1 => by rw [hsh]; exact Nat.le_trans (Nat.le_of_eq (G.sha1_len _)) (by decide)
def hashB (ls : List (List UInt8)) (salt : ByteArray) (r : Nat) : ByteArray := ⟨(hsh (nmL (lowN ls)) salt.data.toList (r + 1)).toArray⟩
set_option maxRecDepth 100000 in
set_option maxHeartbeats 1000000 in
theorem hashed_in (ls : List (List UInt8)) (ho : OkN ls) (salt : ByteArray) (hs : salt.size ≤ 255) (r : Nat) (hr : r ≤ 65535) (W : World) : Calls Tryz.prog 26 #[.string (nm ls), .string salt, .int .i64 (r : Int)] W fun e w' => e = .returned (.string (hashB ls salt r)) ∧ Below W.heap.size W w' := by
  have HL := Hid.mk (low_yes ls ho)
  have hlen : (nmL (lowN ls)).length ≤ 255 := by
    have h1 := ho.low.len
    have h2 := nm_size (lowN ls)
    rw [← size_list, nm_list] at h2
    omega
  have HN := Hid.mk (hsh_len (nmL (lowN ls)) salt.data.toList hlen)
  obtain ⟨H, hH⟩ : ∃ H : Nat → ByteArray, H = fun i => ⟨(hsh (nmL (lowN ls)) salt.data.toList i).toArray⟩ := ⟨_, rfl⟩
  have H0 : nm (lowN ls) = H 0 := by rw [hH]; rfl
  have HS : Hid (∀ i w, Calls Tryz.prog 50 #[.string (H i ++ salt)] w fun e w' => e = .returned (.string (H (i + 1))) ∧ Below w.heap.size w w') := fun i w => by
    have hz : (H i ++ salt).size ≤ 140737488355328 := by
      rw [ByteArray.size_append, hH]
      have := HN.out i
      show (hsh (nmL (lowN ls)) salt.data.toList i).toArray.size + salt.size ≤ _
      simp only [List.size_toArray]
      omega
    have := G.sum1_in (H i ++ salt) hz w
    rwa [show (⟨(G.sha1 (H i ++ salt).data.toList).toArray⟩ : ByteArray) = H (i + 1) by
      rw [hH]
      show (⟨(G.sha1 _).toArray⟩ : ByteArray) = ⟨(G.sha1 _).toArray⟩
      rw [ByteArray.data_append, Array.toList_append]] at this
  have HZ : Hid (∀ i, ¬ (9223372036854775807 < (H i).size + salt.size)) := fun i => by
    have := HN.out i
    rw [hH]
    show ¬ (9223372036854775807 < (hsh (nmL (lowN ls)) salt.data.toList i).toArray.size + salt.size)
    simp only [List.size_toArray]
    omega
  have HE : Hid (hashB ls salt r = H (r + 1)) := by rw [Hid, hH]; rfl
  rw [HE.out]
  rw [H0] at HL
  generalize nm ls = sn at HL ⊢
  obtain ⟨R, hR⟩ : ∃ R, H (r + 1) = R := ⟨_, rfl⟩
  have HR := Hid.mk hR
  rw [hR]
  clear hH H0 HE HN hlen hR hs
  have hw : IntKind.i64.wrap ((r : Int) + 1) = ((r + 1 : Nat) : Int) := by rw [IntKind.wrap_i64]; omega
  obtain ⟨n, hn⟩ : ∃ n, r + 1 = n := ⟨_, rfl⟩
  rw [hn] at hw HR
  have hn2 : n ≤ 65536 := by omega
  clear hn
  go_enter Tryz.func26, Tryz.ntmps26
  go_wp2_with fail
  refine (HL.out _).mono ?_
  rintro e w1 ⟨rfl, b1⟩
  go_wp2_with fail
  go_loopw [7, 12] (fun sv iv wr => ∃ i : Nat, i ≤ n ∧ iv = .int .i64 (i : Int) ∧ sv = .string (H i) ∧ Below W.heap.size W wr) (fun _ iv _ => n - (intOf iv).toNat)
  case atStart => exact ⟨0, Nat.zero_le _, rfl, rfl, b1⟩
  case round =>
    obtain ⟨i, hi, rfl, rfl, hbl⟩ := hrel
    by_cases hlt : i < n
    · have hi' : (i : Int) < (n : Int) := by omega
      have hz := HZ.out i
      have HSi := Hid.mk (HS.out i)
      obtain ⟨A, hA⟩ : ∃ A, H i = A := ⟨_, rfl⟩
      obtain ⟨B, hB⟩ : ∃ B, H (i + 1) = B := ⟨_, rfl⟩
      rw [hA, hB] at HSi
      rw [hA] at hz ⊢
      have HB := Hid.mk hB
      clear hA hB
      go_wp2_with fail
      refine (HSi.out _).mono ?_
      rintro e w2 ⟨rfl, b2⟩
      have b3 := bthen hbl b2
      clear b2
      go_wp2
      go_roundw
      case rel => exact ⟨i + 1, by omega, by go_num, by rw [HB.out], b3⟩
      case measure => simp [intOf]; omega
    · obtain rfl : i = n := by omega
      rw [HR.out]
      go_wp2
      go_ret
      exact ⟨rfl, hbl⟩
set_option maxRecDepth 100000 in
set_option maxHeartbeats 1000000 in
theorem hash_ok (ls : List (List UInt8)) (ho : OkN ls) (salt : ByteArray) (hs : salt.size ≤ 255) (r : Nat) (hr : r ≤ 65535) (W : World) : Calls Tryz.prog 14 #[.string (nm ls), .string salt, .int .i64 (r : Int)] W fun e w' => e = .returned (.tuple #[.string (hashB ls salt r), .int .i64 0]) ∧ Below W.heap.size W w' := by
  have HR := Hid.mk (right_yes ls ho)
  have HH := Hid.mk (hashed_in ls ho salt hs r hr)
  have d1 : decide ((r : Int) < 0) = false := decide_eq_false (by omega)
  have d2 : decide ((65535 : Int) < (r : Int)) = false := decide_eq_false (by omega)
  have d3 : decide (255 < salt.size) = false := decide_eq_false (by omega)
  have d4 : decide ((255 : Int) < (salt.size : Int)) = false := decide_eq_false (by omega)
  have d5 : decide (65535 < r) = false := decide_eq_false (by omega)
  have e1 : ¬ 255 < salt.size := by omega
  have e2 : ¬ 65535 < r := by omega
  generalize hashB ls salt r = D at HH ⊢
  generalize nm ls = sn at HR HH ⊢
  clear hs hr
  go_enter Tryz.func14, Tryz.ntmps14
  go_wp2_with fail
  refine (HR.out _).mono ?_
  rintro e w1 ⟨rfl, b1⟩
  go_wp2_with fail
  refine (HH.out _).mono ?_
  rintro e w2 ⟨rfl, b2⟩
  go_wp2
  go_ret2
  exact ⟨rfl, bthen b1 b2⟩
end Go.Proofs.YtnchoogjjnjikaaGreatDoor