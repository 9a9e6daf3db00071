/- Texts of this proof, joined: GSum2, GTell, KDig, KKey, KFacts, KTag. -/
import Derived.Test.YtlcjagkfeakinaaGreatDoorJ5
import Derived.Test.YtlcjagkfeakinaaGreatDoorJ2
import Derived.Laws.AppendOwn
import Derived.OwnWalk
import Derived.Test.YtlcjagkfeakinaaGreatDoorJ4
import Derived.Test.YtlcjagkfeakinaaGreatDoorJ1
import Derived.Test.YtlcjagkfeakinaaGreatDoorJ3
/- Sum256. -/
namespace Go.Proofs.YtlcjagkfeakinaaGreatDoor.G
set_option linter.unusedVariables false
open Go.RowKit

theorem cells8 {W : World} {b t : Nat} (s : S8) (h : W.heap[b]? = some (.cells (wc s.l) t (0, 0))) :
    (W.cell? ⟨b, 0, none⟩ = some (.int .u32 (s.a.toNat : Int)) ∧ W.cell? ⟨b, 1, none⟩ = some (.int .u32 (s.b.toNat : Int)) ∧ W.cell? ⟨b, 2, none⟩ = some (.int .u32 (s.c.toNat : Int)) ∧ W.cell? ⟨b, 3, none⟩ = some (.int .u32 (s.d.toNat : Int)) ∧ W.cell? ⟨b, 4, none⟩ = some (.int .u32 (s.e.toNat : Int)) ∧ W.cell? ⟨b, 5, none⟩ = some (.int .u32 (s.f.toNat : Int)) ∧ W.cell? ⟨b, 6, none⟩ = some (.int .u32 (s.g.toNat : Int)) ∧ W.cell? ⟨b, 7, none⟩ = some (.int .u32 (s.h.toNat : Int))) ∧
    (W.frozen? ⟨b, 0, none⟩ = false ∧ W.frozen? ⟨b, 1, none⟩ = false ∧ W.frozen? ⟨b, 2, none⟩ = false ∧ W.frozen? ⟨b, 3, none⟩ = false ∧ W.frozen? ⟨b, 4, none⟩ = false ∧ W.frozen? ⟨b, 5, none⟩ = false ∧ W.frozen? ⟨b, 6, none⟩ = false ∧ W.frozen? ⟨b, 7, none⟩ = false) :=
  ⟨s.at h, (cells_at h (j := 0) rfl).2, (cells_at h (j := 1) rfl).2, (cells_at h (j := 2) rfl).2, (cells_at h (j := 3) rfl).2, (cells_at h (j := 4) rfl).2, (cells_at h (j := 5) rfl).2, (cells_at h (j := 6) rfl).2, (cells_at h (j := 7) rfl).2⟩

set_option maxRecDepth 100000 in
set_option maxHeartbeats 2000000 in
theorem sum2_gen (s : ByteArray) (hs : s.size ≤ 140737488355328) (n : Nat) (hn : n = nb s.size) (B : Nat → List UInt8) (hB : ∀ k, (B k).length = 64) (R : Nat → S8) (hR0 : R 0 = ⟨0x6a09e667#32, 0xbb67ae85#32, 0x3c6ef372#32, 0xa54ff53a#32, 0x510e527f#32, 0x9b05688c#32, 0x1f83d9ab#32, 0x5be0cd19#32⟩) (hRs : ∀ k, R (k + 1) = stir2 (R k) (B k))
    (hbk : ∀ k, k < n → ∀ w : World, Calls Tryz.prog 80 #[.string s, .int .i64 (k : Int)] w fun e w' => e = .returned (.agg (bc (B k))) ∧ Below w.heap.size w w')
    (T : List UInt8) (hT : ∀ (W : World) (b : Nat), W.heap[b]? = some (.cells (wc (R n).l) 120 (0, 0)) → Calls Tryz.prog 81 #[.slice (some ⟨b, 0, none⟩) 8 8] W fun e w' => e = .returned (.string ⟨T.toArray⟩) ∧ Below W.heap.size W w') (w : World) (hG : Rk w) :
    Calls Tryz.prog 51 #[.string s] w fun e w' => e = .returned (.string ⟨T.toArray⟩) ∧ Below w.heap.size w w' := by
  have HN : Hid (n = nb s.size) := hn
  have HB := Hid.mk hB
  have HR0 := Hid.mk hR0
  have HRs := Hid.mk hRs
  have HBK := Hid.mk hbk
  have HT := Hid.mk hT
  have HG := Hid.mk hG
  have hnb : n ≤ 2199023255553 := by rw [hn]; unfold nb; omega
  have HBL := Hid.mk (blocks_in s.size hs)
  rw [← hn] at HBL
  clear hn hB hR0 hRs hbk hT hG
  go_enter Tryz.func51, Tryz.ntmps51
  go_wp2_with fail
  refine (HBL.out _).mono ?_
  rintro e W1 ⟨rfl, rfl⟩
  go_wp2_with fail
  go_loopw [9] (fun i wr => ∃ m : Nat, m ≤ n ∧ i = .int .i64 m ∧ wr.heap[w.heap.size]? = some (.cells (wc (R m).l) 120 (0, 0)) ∧ Below w.heap.size w wr) (fun i _ => n - (intOf i).toNat)
  case atStart =>
    refine ⟨0, by omega, rfl, ?_, (Below.refl _ _).alloc (Nat.le_refl _) _⟩
    rw [HR0.out, heap_new]
    rfl
  case round =>
    obtain ⟨m, hm, rfl, h1, hbl⟩ := hrel
    have H1 := Hid.mk h1
    by_cases hlt : m < n
    · have HST : Hid (∀ W : World, Rk W → Calls Tryz.prog 79 #[.agg #[.int .u32 ((R m).a.toNat : Int), .int .u32 ((R m).b.toNat : Int), .int .u32 ((R m).c.toNat : Int), .int .u32 ((R m).d.toNat : Int), .int .u32 ((R m).e.toNat : Int), .int .u32 ((R m).f.toNat : Int), .int .u32 ((R m).g.toNat : Int), .int .u32 ((R m).h.toNat : Int)], .agg (bc (B m))] W fun x w' => x = .returned (.agg #[.int .u32 ((R (m + 1)).a.toNat : Int), .int .u32 ((R (m + 1)).b.toNat : Int), .int .u32 ((R (m + 1)).c.toNat : Int), .int .u32 ((R (m + 1)).d.toNat : Int), .int .u32 ((R (m + 1)).e.toNat : Int), .int .u32 ((R (m + 1)).f.toNat : Int), .int .u32 ((R (m + 1)).g.toNat : Int), .int .u32 ((R (m + 1)).h.toNat : Int)]) ∧ Below W.heap.size W w') := fun W hk => by
        rw [HRs.out m]
        exact stir2_in (R m) (B m) (HB.out m) W hk
      have HBM := Hid.mk (HBK.out m hlt)
      obtain ⟨⟨c0, c1, c2, c3, c4, c5, c6, c7⟩, f0, f1', f2, f3, f4, f5, f6, f7⟩ := cells8 (R m) h1
      clear h1
      go_wp2_with fail
      go_region_with (first
        | (have hck := M1; clear hck; go_at_call 79; refine (HST.out _ (HG.out.below (bthen hbl.drew hb1))).mono ?_; rintro e w2 ⟨rfl, hb2⟩; have K2 : Hid (w2.heap[w.heap.size]? = _) := (hb2.block _ (box_lt K1.out)).trans K1.out; obtain ⟨⟨e0, e1, e2, e3, e4, e5, e6, e7⟩, g0, g1, g2, g3, g4, g5, g6, g7⟩ := cells8 (R m) K2.out)
        | (go_at_call 80; refine (HBM.out _).mono ?_; rintro e w1 ⟨rfl, hb1⟩; have K1 : Hid (w1.heap[w.heap.size]? = _) := (hb1.block _ (box_lt H1.out)).trans H1.out; obtain ⟨⟨d0, d1, d2, d3, d4, d5, d6, d7⟩, j0, j1, j2, j3, j4, j5, j6, j7⟩ := cells8 (R m) K1.out; have M1 : True := trivial))
      all_goals (
        have hbw : Below w.heap.size w w2 := bthen (bthen hbl.drew hb1) hb2
        clear hb1 hb2 K1 d0 d1 d2 d3 d4 d5 d6 d7 j0 j1 j2 j3 j4 j5 j6 j7 e0 e1 e2 e3 e4 e5 e6 e7 g0 g1 g2 g3 g4 g5 g6 g7 c0 c1 c2 c3 c4 c5 c6 c7 f0 f1' f2 f3 f4 f5 f6 f7
        go_wp2
        go_roundw
        case rel => exact ⟨m + 1, by omega, by go_num, put8 K2.out rfl, put8_below hbw (Nat.le_refl _)⟩
        case measure => simp [intOf]; omega)
    · obtain rfl : m = n := by omega
      have HTT := Hid.mk (HT.out wr w.heap.size H1.out)
      clear h1
      go_wp2_with fail
      refine HTT.out.mono ?_
      rintro e w3 ⟨rfl, hb3⟩
      go_wp2
      go_ret
      exact ⟨rfl, bthen hbl hb3⟩
end Go.Proofs.YtlcjagkfeakinaaGreatDoor.G

/- bytesOf; the document's tell. -/
namespace Go.Proofs.YtlcjagkfeakinaaGreatDoor.G
set_option linter.unusedVariables false
open Go.RowKit
theorem info5 : (Tryz.prog.info? 5).map (fun i => (i.zero, i.size, i.bytes)) = some (some (.int .u8 0), 1, 1) := by kernel_rfl
theorem info_of {t : Nat} {z : Value} {n b : Nat} (h : (Tryz.prog.info? t).map (fun i => (i.zero, i.size, i.bytes)) = some (some z, n, b)) : ∃ i0, Tryz.prog.info? t = some i0 ∧ i0.zero = some z ∧ i0.size = n ∧ i0.bytes = b := by
  cases hq : Tryz.prog.info? t with
  | none => simp [hq] at h
  | some i => exact ⟨i, rfl, by simp [hq] at h; exact h.1, by simp [hq] at h; exact h.2.1, by simp [hq] at h; exact h.2.2⟩
def bcl (l : List UInt8) : List Value := l.map fun c => Value.int .u8 (c.toNat : Int)
theorem bcl_app (a b : List UInt8) : bcl (a ++ b) = bcl a ++ bcl b := by simp [bcl]
theorem addr_at (b j : Nat) : (⟨b, 0, none⟩ : Addr).add j = ⟨b, j, none⟩ := by unfold Addr.add; split <;> simp_all
theorem cells_new (W : World) (cs : Array Value) (t : TypeId) (j : Nat) (u : Value) (h : cs.toList[j]? = some u) : (W.alloc (.cells cs t)).cell? ((⟨W.heap.size, 0, none⟩ : Addr).add j) = some u := by
  rw [addr_at]
  have hh : (W.alloc (.cells cs t)).heap[W.heap.size]? = some (.cells cs t) := heap_new W _
  simp only [World.cell?, hh]
  simpa using h
theorem bt_int (n k : Nat) : ((bt n k).toNat : Int) = (n : Int) / 2 ^ (8 * k) % 256 := by
  rw [bt, UInt8.toNat_ofNat', show (n : Int) / 2 ^ (8 * k) = ((n / 2 ^ (8 * k) : Nat) : Int) by rw [Int.natCast_ediv, Int.natCast_pow]; rfl]
  generalize n / 2 ^ (8 * k) = q
  omega
theorem bcl_b4 (x : BitVec 32) : bcl (b4 x) = [.int .u8 ((x.toNat : Int) / 16777216), .int .u8 ((x.toNat : Int) / 65536 % 256), .int .u8 ((x.toNat : Int) / 256 % 256), .int .u8 ((x.toNat : Int) % 256)] := by
  have hx := bv_lt x
  have e3 : ((bt x.toNat 3).toNat : Int) = (x.toNat : Int) / 16777216 := by rw [bt_int]; simp only [Nat.reduceMul, Int.reducePow]; omega
  have e2 : ((bt x.toNat 2).toNat : Int) = (x.toNat : Int) / 65536 % 256 := by rw [bt_int]; simp only [Nat.reduceMul, Int.reducePow]
  have e1 : ((bt x.toNat 1).toNat : Int) = (x.toNat : Int) / 256 % 256 := by rw [bt_int]; simp only [Nat.reduceMul, Int.reducePow]
  have e0 : ((bt x.toNat 0).toNat : Int) = (x.toNat : Int) % 256 := by rw [bt_int]; simp only [Nat.reduceMul, Int.reducePow]; omega
  simp only [bcl, b4, List.map_cons, List.map_nil, e3, e2, e1, e0]
theorem flat_len : ∀ (p : List (BitVec 32)) (n : Nat), p.length = n → (p.flatMap b4).length = 4 * n
  | [], n, h => by subst h; rfl
  | x :: p, n, h => by
    subst h
    rw [List.flatMap_cons, List.length_append, flat_len p p.length rfl]
    simp only [b4, List.length_cons, List.length_nil]
    omega
/-- a row of bytes turned into a text. -/
theorem own_back {w : World} {base g n cap : Nat} {l : List UInt8} (h : w.ownsRow base 5 1 (.slice (some ⟨g, 0, none⟩) n cap) n (bcl l)) (hl : l.length = n) :
    (convert 55 9 (.slice (some ⟨g, 0, none⟩) n cap)).run Tryz.prog w = .ok (.string ⟨l.toArray⟩) w := by
  subst hl
  refine run_convert_bytes_back (P := Tryz.prog) w 55 9 5 ⟨g, 0, none⟩ cap l Tryz.underlying55 Tryz.underlying5 Tryz.underlying9 (fun j hj => ?_)
  rw [addr_at, h.cellAt j (by omega)]
  simp [bcl, hj]
set_option maxRecDepth 100000 in
theorem bytesOf_in (W : World) (b t : Nat) (p : List (BitVec 32)) (hp : p.length ≤ 100) (h : W.heap[b]? = some (.cells (wc p) t (0, 0))) :
    Calls Tryz.prog 81 #[.slice (some ⟨b, 0, none⟩) p.length p.length] W fun e w' => e = .returned (.string ⟨(p.flatMap b4).toArray⟩) ∧ Below W.heap.size W w' := by
  obtain ⟨i0, hi, hz0, hz1, hz2⟩ := info_of info5
  obtain ⟨n, hn⟩ : ∃ n, p.length = n := ⟨_, rfl⟩
  have HP : Hid (p.length = n) := hn
  have hn2 : n ≤ 100 := by omega
  have H := Hid.mk h
  rw [hn]
  clear hn hp h
  go_enter Tryz.func81, Tryz.ntmps81
  go_wp2_with (at_make; refine wpList_make_own _ rfl _ _ 55 rfl W.heap.size 5 i0 (.int .u8 0) 1 Tryz.underlying55 hi hz0 hz1 _ _ _ (4 * n) rfl rfl (by omega) (by rw [hz2]; omega) (by unfold maxLen; omega) (Nat.le_refl _) ?_; intro w1 hown1 hgrow1)
  have B1 : Below W.heap.size W w1 := (Below.refl _ _).grown hgrow1 (Nat.le_refl _) (by simp)
  have K1 : w1.heap[b]? = some (.cells (wc p) t (0, 0)) := (B1.block b (box_lt H.out)).trans H.out
  have HK1 := Hid.mk K1
  have HO1 := Hid.mk hown1
  clear K1 hown1 hgrow1
  go_loopw [3, 12] (fun v i wr => ∃ m : Nat, m ≤ n ∧ i = .int .i64 m ∧ v = .slice (some ⟨W.heap.size, 0, none⟩) (4 * m) (4 * n) ∧ wr.ownsRow W.heap.size 5 1 (.slice (some ⟨W.heap.size, 0, none⟩) (4 * m) (4 * n)) (4 * m) (bcl ((p.take m).flatMap b4)) ∧ wr.heap[b]? = some (.cells (wc p) t (0, 0)) ∧ Below W.heap.size W wr) (fun _ i _ => n - (intOf i).toNat)
  case atStart => exact ⟨0, by omega, rfl, rfl, HO1.out, HK1.out, B1⟩
  case round =>
    obtain ⟨m, hm, rfl, rfl, hown, hk, hbl⟩ := hrel
    have HO := Hid.mk hown
    have HK := Hid.mk hk
    by_cases hlt : m < n
    · have hc : wr.cell? ⟨b, m, none⟩ = some (.int .u32 ((p[m]?.getD 0).toNat : Int)) := (cells_at hk (by rw [wc_at, List.getElem?_eq_getElem (by have := HP.out; omega)]; rfl)).1
      have HN : Hid ((p.take (m + 1)).flatMap b4 = (p.take m).flatMap b4 ++ b4 (p[m]?.getD 0)) := by
        rw [Hid, List.take_add_one, List.flatMap_append, List.getElem?_eq_getElem (by have := HP.out; omega)]
        simp
      generalize p[m]?.getD 0 = x at hc HN
      have hxl := bv_lt x
      clear hown hk
      have HB4 : Hid (bcl (b4 x) = [.int .u8 ((x.toNat : Int) / 16777216), .int .u8 ((x.toNat : Int) / 65536 % 256), .int .u8 ((x.toNat : Int) / 256 % 256), .int .u8 ((x.toNat : Int) % 256)]) := bcl_b4 x
      have hwb : b < W.heap.size := box_lt H.out
      go_wp2_with (at_builtin; refine wpList_append_fits _ rfl _ _ 55 rfl W.heap.size 5 i0 1 Tryz.underlying55 hi hz1 W.heap.size (4 * m) (4 * n) _ rfl (HO.out.alloc _) ⟨wr.heap.size, 0, none⟩ 4 4 [.int .u8 ((x.toNat : Int) / 16777216), .int .u8 ((x.toNat : Int) / 65536 % 256), .int .u8 ((x.toNat : Int) / 256 % 256), .int .u8 ((x.toNat : Int) % 256)] rfl rfl (fun j u h => cells_new wr _ 5 j u h) (by simp [Value.oneCell']) (by omega) ?_; intro w2 hown2 hgrow2)
      have B2 : Below W.heap.size W w2 := (hbl.alloc hbl.size _).grown hgrow2 (Nat.le_trans hbl.size (by simp)) (by intro k hk; cases hk; exact Nat.le_refl _)
      go_roundw
      case rel =>
        refine ⟨m + 1, by omega, by go_num, rfl, ?_, (B2.block b hwb).trans H.out, B2⟩
        rw [HN.out, bcl_app, HB4.out]
        exact hown2
      case measure => simp [intOf]; omega
    · obtain rfl : m = n := by omega
      have hcv := own_back HO.out (by rw [List.take_of_length_le (Nat.le_of_eq HP.out)]; exact flat_len p m HP.out)
      rw [List.take_of_length_le (Nat.le_of_eq HP.out)] at hcv
      clear hown hk
      go_wp2
      go_ret
      exact ⟨rfl, hbl⟩

theorem sum1_in (s : ByteArray) (hs : s.size ≤ 140737488355328) (w : World) :
    Calls Tryz.prog 62 #[.string s] w fun e w' => e = .returned (.string ⟨(sha1 s.data.toList).toArray⟩) ∧ Below w.heap.size w w' :=
  sum1_gen s hs (nb s.size) rfl (blk s.data.toList) (blk_len _) (go1 s.data.toList) rfl (fun k => rfl) (fun k hk w => blockOf_in s k hs hk w) (sha1 s.data.toList)
    (fun W b h => bytesOf_in W b 152 (go1 s.data.toList (nb s.size)).l (by show 5 ≤ 100; omega) h) w
theorem sum2_in (s : ByteArray) (hs : s.size ≤ 140737488355328) (w : World) (hG : Rk w) :
    Calls Tryz.prog 51 #[.string s] w fun e w' => e = .returned (.string ⟨(sha2 s.data.toList).toArray⟩) ∧ Below w.heap.size w w' :=
  sum2_gen s hs (nb s.size) rfl (blk s.data.toList) (blk_len _) (go2 s.data.toList) rfl (fun k => rfl) (fun k hk w => blockOf_in s k hs hk w) (sha2 s.data.toList)
    (fun W b h => bytesOf_in W b 120 (go2 s.data.toList (nb s.size)).l (by show 8 ≤ 100; omega) h) w hG
end Go.Proofs.YtlcjagkfeakinaaGreatDoor.G

/- Digest of a key. -/
namespace Go.Proofs.YtlcjagkfeakinaaGreatDoor
set_option linter.unusedVariables false
open Go.RowKit

theorem klower_yes (ls : List (List UInt8)) (ho : OkN ls) (w : World) :
    Calls Tryz.prog 34 #[.string (nm ls)] w fun e w' => e = .returned (.string (nm (lowN ls))) ∧ Below w.heap.size w w' := by
  go_enter Tryz.func34, Tryz.ntmps34
  go_wp2_with fail
  refine (right_yes ls ho _).mono ?_
  rintro e w1 ⟨rfl, hb1⟩
  go_wp2_with fail
  refine (lowered_nm ls ho _).mono ?_
  rintro e w2 ⟨rfl, hb2⟩
  go_wp2
  go_ret
  exact ⟨rfl, bth hb1 hb2 hb1.size⟩

/-- a digest by its kind. -/
def hshd (kind : Int) (l : List UInt8) : ByteArray := if kind = 1 then ⟨(G.sha1 l).toArray⟩ else ⟨(G.sha2 l).toArray⟩
open Classical in
/-- what Digest answers. -/
noncomputable def digR (kind : Int) (owner d : ByteArray) : ByteArray × Int :=
  if ¬ (kind = 1 ∨ kind = 2) then (⟨#[]⟩, 1) else if ¬ IsName owner then (⟨#[]⟩, 2) else if ¬ (5 ≤ d.size ∧ d.size ≤ 2000) then (⟨#[]⟩, 6)
  else (hshd kind (owner.data.toList.map lowB ++ d.data.toList), 0)
theorem knm_size {ls : List (List UInt8)} (ho : OkN ls) : (nm ls).size ≤ 255 := by
  have := ho.len
  show (nmL ls).toArray.size ≤ 255
  simp [nmL]; omega
theorem app_list (a b : ByteArray) : (a ++ b).data.toList = a.data.toList ++ b.data.toList := by simp
/-- the box of a kind of digest, through a call. -/
theorem hbox {q : Prop} {b f : Nat} {k : Int} {A B : World} (hA : A.heap[b]? = some (.cells #[.int .i64 k, fnV f #[]] 72 (0, 0))) (hB : Below A.heap.size A B)
    (h : B.heap[b]? = some (.cells #[.int .i64 k, fnV f #[]] 72 (0, 0)) → B.cell? ⟨b, 1, none⟩ = some (fnV f #[]) → q) : q :=
  have h1 := (hB.block _ (box_lt hA)).trans hA
  h h1 (G.cells_at (v := fnV f #[]) (j := 1) h1 rfl).1

set_option maxRecDepth 100000 in
set_option maxHeartbeats 2000000 in
theorem digest_gen (k : Int) (f : Nat) (hen : Enters f) (hh : ∀ e, HashPost k e → e = .returned (.tuple #[.agg #[.int .i64 k, fnV f #[]], .bool true])) (ow lo d R : ByteArray) (h5 : 5 ≤ d.size) (h2 : d.size ≤ 2000) (hcat : lo.size + d.size ≤ 140737488355328)
    (HR : Hid (∀ w, Calls Tryz.prog 33 #[.string ow] w fun e w' => e = .returned (.bool true) ∧ Below w.heap.size w w')) (HL : Hid (∀ w, Calls Tryz.prog 34 #[.string ow] w fun e w' => e = .returned (.string lo) ∧ Below w.heap.size w w'))
    (HS : Hid (∀ w, G.Rk w → Calls Tryz.prog f #[.string (lo ++ d)] w fun e w' => e = .returned (.string R) ∧ Below w.heap.size w w')) (w : World) (hG : Hid (G.Rk w)) :
    Calls Tryz.prog 12 #[.int .i64 k, .string ow, .string d] w fun e w' => e = .returned (.tuple #[.string R, .int .i64 0]) ∧ Below w.heap.size w w' := by
  have hmo : Tryz.prog.follows Departure.mixedOrders = true := by kernel_rfl
  have HH := Hid.mk (hashOf_in k)
  have HH2 := Hid.mk hh
  have HD := Hid.mk (K48.right48 d (by unfold maxLen; omega))
  rw [show decide (5 ≤ d.size ∧ d.size ≤ 2000) = true by simp [h5, h2]] at HD
  dsimp only [Enters] at hen
  clear hh
  have hnl : ¬ (9223372036854775807 < lo.size + d.size) := by omega
  go_enter Tryz.func12, Tryz.ntmps12
  go_wp2_with fail
  refine (HH.out _).mono ?_
  rintro e w1 ⟨hp, hb1⟩
  obtain rfl := HH2.out e hp
  clear hp
  go_wp2_with fail
  refine (HR.out _).mono ?_
  rintro e w2 ⟨rfl, hb2⟩
  have x2 := Hid.mk ((hb2.block _ (by simp)).trans (heap_new w1 (.cells #[.int .i64 k, fnV f #[]] 72)))
  have B2 := Hid.mk (bth hb1 (((Below.refl _ w1).alloc (Nat.le_refl _) (.cells #[.int .i64 k, fnV f #[]] 72)).trans (hb2.mono (by simp))) hb1.size)
  clear hb1 hb2
  go_wp2_with fail
  refine (HD.out _).mono ?_
  rintro e w3 ⟨rfl, hb3⟩
  have B3 := Hid.mk (bth B2.out hb3 B2.out.size)
  refine hbox x2.out hb3 ?_
  intro x3 c3
  have X3 := Hid.mk x3
  clear x3 hb3
  go_wp2
  go_region_held3 (fun w' => w'.cell? ⟨w1.heap.size, 1, none⟩ = some (fnV f #[])) (first | assumption | go_keep)
    (first | (have hck := B4; clear hck; refine (HS.out _ (hG.out.below B4.out)).mono ?_; rintro e w5 ⟨rfl, hb5⟩; refine hbox (A := w4) X4.out hb5 ?_; intro x5 c5; have B5 := Hid.mk (bth B4.out hb5 B4.out.size)) | (go_at_call 34; refine (HL.out _).mono ?_; rintro e w4 ⟨rfl, hb4⟩; refine hbox (A := w3.drew) X3.out hb4 ?_; intro x4 c4; have X4 := Hid.mk x4; clear x4; have B4 := Hid.mk (bth B3.out.drew hb4 B3.out.drew.size)))
  go_wp2
  exact bodyPost_ret (v := .tuple #[.string R, .int .i64 0]) (by simp [results, Tryz.results12, go_sem]) rfl ⟨rfl, B5.out⟩
theorem enters1 : Enters 62 := enters_by Tryz.func62 (by kernel_rfl) rfl
theorem enters2 : Enters 51 := enters_by Tryz.func51 (by kernel_rfl) rfl
theorem low_bytes {ls : List (List UInt8)} (ho : OkN ls) : (nm (lowN ls)).data.toList = (nm ls).data.toList.map lowB := by
  rw [← nm_low ho]
theorem digest_yes (k : Int) (hk : k = 1 ∨ k = 2) (ls : List (List UInt8)) (ho : OkN ls) (d : ByteArray) (h5 : 5 ≤ d.size) (h2 : d.size ≤ 2000) (w : World) (hG : G.Rk w) :
    Calls Tryz.prog 12 #[.int .i64 k, .string (nm ls), .string d] w fun e w' => e = .returned (.tuple #[.string (hshd k ((nm ls).data.toList.map lowB ++ d.data.toList)), .int .i64 0]) ∧ Below w.heap.size w w' := by
  have hs := knm_size ho.low
  rcases hk with rfl | rfl
  · refine digest_gen 1 62 enters1 (fun e h => h.1 rfl) (nm ls) (nm (lowN ls)) d _ h5 h2 (by omega) (Hid.mk (right_yes ls ho)) (Hid.mk (klower_yes ls ho)) (Hid.mk fun w _ => ?_) w (Hid.mk hG)
    have := G.sum1_in (nm (lowN ls) ++ d) (by rw [ByteArray.size_append]; omega) w
    rw [app_list, low_bytes ho] at this
    unfold hshd
    rw [if_pos rfl]
    exact this
  · refine digest_gen 2 51 enters2 (fun e h => h.2.1 rfl) (nm ls) (nm (lowN ls)) d _ h5 h2 (by omega) (Hid.mk (right_yes ls ho)) (Hid.mk (klower_yes ls ho)) (Hid.mk fun w h => ?_) w (Hid.mk hG)
    have := G.sum2_in (nm (lowN ls) ++ d) (by rw [ByteArray.size_append]; omega) w h
    rw [app_list, low_bytes ho] at this
    unfold hshd
    rw [if_neg (by omega)]
    exact this
theorem digest_kind (k : Int) (hk : ¬ (k = 1 ∨ k = 2)) (ow d : ByteArray) (w : World) :
    Calls Tryz.prog 12 #[.int .i64 k, .string ow, .string d] w fun e w' => e = .returned (.tuple #[.string ⟨#[]⟩, .int .i64 1]) ∧ Below w.heap.size w w' := by
  have HH := Hid.mk (hashOf_in k)
  go_enter Tryz.func12, Tryz.ntmps12
  go_wp2_with fail
  refine (HH.out _).mono ?_
  rintro e w1 ⟨⟨_, _, hp⟩, hb1⟩
  obtain rfl := hp (fun h => hk (.inl h)) (fun h => hk (.inr h))
  go_wp2
  exact bodyPost_ret (v := .tuple #[.string ⟨#[]⟩, .int .i64 1]) (by simp [results, Tryz.results12, go_sem]) rfl ⟨rfl, hb1.alloc hb1.size _⟩
theorem digest_name (k : Int) (hk : k = 1 ∨ k = 2) (ow d : ByteArray) (hm : ow.size ≤ maxLen) (hn : ¬ IsName ow) (w : World) :
    Calls Tryz.prog 12 #[.int .i64 k, .string ow, .string d] w fun e w' => e = .returned (.tuple #[.string ⟨#[]⟩, .int .i64 2]) ∧ Below w.heap.size w w' := by
  have HH := Hid.mk (hashOf_in k)
  have HR := Hid.mk (right_no ow hn hm)
  clear hn
  obtain ⟨f, hf⟩ : ∃ f, ∀ e, HashPost k e → e = .returned (.tuple #[.agg #[.int .i64 k, fnV f #[]], .bool true]) := by
    rcases hk with rfl | rfl
    · exact ⟨_, fun e h => h.1 rfl⟩
    · exact ⟨_, fun e h => h.2.1 rfl⟩
  go_enter Tryz.func12, Tryz.ntmps12
  go_wp2_with fail
  refine (HH.out _).mono ?_
  rintro e w1 ⟨hp, hb1⟩
  obtain rfl := hf e hp
  clear hp hf hk
  go_wp2_with fail
  refine (HR.out _).mono ?_
  rintro e w2 ⟨rfl, hb2⟩
  go_wp2
  exact bodyPost_ret (v := .tuple #[.string ⟨#[]⟩, .int .i64 2]) (by simp [results, Tryz.results12, go_sem]) rfl ⟨rfl, bth hb1 (((Below.refl _ w1).alloc (Nat.le_refl _) (.cells #[.int .i64 k, fnV f #[]] 72)).trans (hb2.mono (by simp))) hb1.size⟩
theorem digest_data (k : Int) (hk : k = 1 ∨ k = 2) (ls : List (List UInt8)) (ho : OkN ls) (d : ByteArray) (hm : d.size ≤ maxLen) (hd : ¬ (5 ≤ d.size ∧ d.size ≤ 2000)) (w : World) :
    Calls Tryz.prog 12 #[.int .i64 k, .string (nm ls), .string d] w fun e w' => e = .returned (.tuple #[.string ⟨#[]⟩, .int .i64 6]) ∧ Below w.heap.size w w' := by
  have HH := Hid.mk (hashOf_in k)
  have HR := Hid.mk (right_yes ls ho)
  have HD := Hid.mk (K48.right48 d hm)
  rw [show decide (5 ≤ d.size ∧ d.size ≤ 2000) = false by simp only [hd, decide_false]] at HD
  clear hd
  obtain ⟨f, hf⟩ : ∃ f, ∀ e, HashPost k e → e = .returned (.tuple #[.agg #[.int .i64 k, fnV f #[]], .bool true]) := by
    rcases hk with rfl | rfl
    · exact ⟨_, fun e h => h.1 rfl⟩
    · exact ⟨_, fun e h => h.2.1 rfl⟩
  go_enter Tryz.func12, Tryz.ntmps12
  go_wp2_with fail
  refine (HH.out _).mono ?_
  rintro e w1 ⟨hp, hb1⟩
  obtain rfl := hf e hp
  clear hp hf hk
  go_wp2_with fail
  refine (HR.out _).mono ?_
  rintro e w2 ⟨rfl, hb2⟩
  go_wp2_with fail
  refine (HD.out _).mono ?_
  rintro e w3 ⟨rfl, hb3⟩
  go_wp2
  have B2 := bth hb1 (((Below.refl _ w1).alloc (Nat.le_refl _) (.cells #[.int .i64 k, fnV f #[]] 72)).trans (hb2.mono (by simp))) hb1.size
  exact bodyPost_ret (v := .tuple #[.string ⟨#[]⟩, .int .i64 6]) (by simp [results, Tryz.results12, go_sem]) rfl ⟨rfl, bth B2 hb3 B2.size⟩
theorem digest_in (k : Int) (ow d : ByteArray) (ho : ow.size ≤ maxLen) (hd : d.size ≤ maxLen) (w : World) (hG : G.Rk w) :
    Calls Tryz.prog 12 #[.int .i64 k, .string ow, .string d] w fun e w' => e = .returned (.tuple #[.string (digR k ow d).1, .int .i64 (digR k ow d).2]) ∧ Below w.heap.size w w' := by
  unfold digR
  by_cases hk : k = 1 ∨ k = 2
  · rw [if_neg (not_not_intro hk)]
    by_cases hn : IsName ow
    · rw [if_neg (not_not_intro hn)]
      obtain ⟨ls, hl, rfl⟩ := hn
      by_cases h5 : 5 ≤ d.size ∧ d.size ≤ 2000
      · rw [if_neg (not_not_intro h5)]
        exact digest_yes k hk ls hl d h5.1 h5.2 w hG
      · rw [if_pos h5]
        exact digest_data k hk ls hl d hd h5 w
    · rw [if_pos hn]
      exact digest_name k hk ow d ho hn w
  · rw [if_pos hk]
    exact digest_kind k hk ow d w
end Go.Proofs.YtlcjagkfeakinaaGreatDoor

/- Key: what right data of DNSKEY have. -/
namespace Go.Proofs.YtlcjagkfeakinaaGreatDoor.K48
set_option linter.unusedVariables false
open Go.RowKit
open G (cells_at cells_put)
theorem row_cell {W : World} {n₀ n c : Nat} {e : TypeId} {q : Option Addr} {ps : List ByteArray} (h : W.ownsRow n₀ e 1 (.slice q n c) n (baV ps)) (j : Nat) (hj : j < ps.length) : ∃ g, q = some ⟨g, 0, none⟩ ∧ g < W.heap.size ∧ W.cell? ⟨g, j, none⟩ = some (.string ps[j]) := by
  have hn : ps.length = n := by have := h.1; simpa [baV] using this
  rcases h.2 with ⟨_, h0⟩ | ⟨g, cap, cur, hv, _, hg, _, _, _, ht⟩
  · omega
  · cases hv
    refine ⟨g, rfl, box_lt hg, ?_⟩
    have := Lib.cells_of_row (w := W) hg n j (.string ps[j]) (by rw [Nat.mul_one] at ht; rw [ht]; simp [baV, hj])
    rwa [add_at] at this
theorem row_frozen {W : World} {base n cap g j : Nat} {e : TypeId} {xs : List Value} (h : W.ownsRow base e 1 (.slice (some ⟨g, 0, none⟩) n cap) n xs) (hn : 0 < n) : W.frozen? ⟨g, j, none⟩ = false ∧ g < W.heap.size ∧ base ≤ g := by
  rcases h.2 with ⟨_, h0⟩ | ⟨g', cap', cur, hv, hb, hg, _⟩
  · omega
  · cases hv
    exact ⟨by simp [World.frozen?, hg], box_lt hg, hb⟩
theorem row_at {W : World} {n₀ n c g : Nat} {e : TypeId} {ps : List ByteArray} (h : W.ownsRow n₀ e 1 (.slice (some ⟨g, 0, none⟩) n c) n (baV ps)) (j : Nat) (x : ByteArray) (hj : ps[j]? = some x) : W.cell? ⟨g, j, none⟩ = some (.string x) := by
  obtain ⟨hl, hx⟩ := List.getElem?_eq_some_iff.1 hj
  obtain ⟨g', hg', _, hc⟩ := row_cell h j hl
  cases hg'
  rw [hc, hx]

set_option maxRecDepth 100000 in
set_option maxHeartbeats 4000000 in
theorem key_walk (d p0 p1 p2 p3 : ByteArray) (m0 m1 m2 : Nat) (HS : Hid (∀ W, Calls Tryz.prog 52 #[.int .i64 48, .string d] W fun e w' => SplitPost (some [p0, p1, p2, p3]) W e w'))
    (HN0 : Hid (∀ w, Calls Tryz.prog 73 #[.string p0] w fun e w' => e = .returned (.int .i64 (m0 : Nat)) ∧ w' = w)) (HN1 : Hid (∀ w, Calls Tryz.prog 73 #[.string p1] w fun e w' => e = .returned (.int .i64 (m1 : Nat)) ∧ w' = w))
    (HN2 : Hid (∀ w, Calls Tryz.prog 73 #[.string p2] w fun e w' => e = .returned (.int .i64 (m2 : Nat)) ∧ w' = w)) (W : World) :
    Calls Tryz.prog 39 #[.string d] W fun e w' => e = .returned (.tuple #[.agg #[.int .i64 ((m0 : Nat) : Int), .int .i64 ((m1 : Nat) : Int), .int .i64 ((m2 : Nat) : Int), .string p3], .int .i64 0]) ∧ Below W.heap.size W w' := by
  have hmo : Tryz.prog.follows Departure.mixedOrders = true := by kernel_rfl
  go_enter Tryz.func39, Tryz.ntmps39
  go_wp2_with fail
  refine (HS.out _).mono ?_
  rintro e w1 ⟨⟨v, rfl, hrow⟩, hb1⟩
  obtain ⟨q, c, hv⟩ := row_as hrow
  subst hv
  obtain ⟨g, hq, _, _⟩ := row_cell hrow 0 (by simp)
  subst hq
  obtain ⟨_, _, hgb⟩ := row_frozen (j := 0) hrow (by simp)
  simp only [World.size_alloc] at hgb
  have hgne : g ≠ W.heap.size := by omega
  have hgne2 : W.heap.size ≠ g := by omega
  have r0 : w1.cell? ⟨g, 0, none⟩ = some (.string p0) := row_at hrow 0 p0 rfl
  have r1 : w1.cell? ⟨g, 1, none⟩ = some (.string p1) := row_at hrow 1 p1 rfl
  have r2 : w1.cell? ⟨g, 2, none⟩ = some (.string p2) := row_at hrow 2 p2 rfl
  have r3 : w1.cell? ⟨g, 3, none⟩ = some (.string p3) := row_at hrow 3 p3 rfl
  have hbx := (hb1.block _ (by simp)).trans (heap_new W (.cells #[.int .i64 0, .int .i64 0, .int .i64 0, .string ⟨#[]⟩] 68))
  obtain ⟨a0, f0⟩ := cells_at (v := .int .i64 0) (j := 0) hbx rfl
  obtain ⟨a1, f1⟩ := cells_at (v := .int .i64 0) (j := 1) hbx rfl
  obtain ⟨a2, f2⟩ := cells_at (v := .int .i64 0) (j := 2) hbx rfl
  obtain ⟨a3, f3⟩ := cells_at (v := .string ⟨#[]⟩) (j := 3) hbx rfl
  have HBX := Hid.mk hbx
  have mk0 : True := trivial
  clear hbx hrow
  go_wp2
  go_region_held3 (fun w' => w'.cell? ⟨g, 0, none⟩ = some (.string p0) ∧ w'.cell? ⟨g, 1, none⟩ = some (.string p1) ∧ w'.cell? ⟨g, 2, none⟩ = some (.string p2) ∧ w'.cell? ⟨g, 3, none⟩ = some (.string p3)) (first | ((repeat' apply And.intro) <;> assumption) | go_keep)
    (first | (have hck := mk2; clear hck; go_at_call 73; refine (HN2.out _).mono ?_; rintro e x3 ⟨rfl, rfl⟩; have mk3 : True := trivial) | (have hck := mk1; clear hck; go_at_call 73; refine (HN1.out _).mono ?_; rintro e x2 ⟨rfl, rfl⟩; have mk2 : True := trivial) | (have hck := mk0; clear hck; go_at_call 73; refine (HN0.out _).mono ?_; rintro e x1 ⟨rfl, rfl⟩; have mk1 : True := trivial))
  go_wp2
  have hfin : (((((w1.setCell ⟨W.heap.size, 0, none⟩ (.int .i64 ((m0 : Nat) : Int))).setCell ⟨W.heap.size, 1, none⟩ (.int .i64 ((m1 : Nat) : Int))).setCell ⟨W.heap.size, 2, none⟩ (.int .i64 ((m2 : Nat) : Int))).setCell ⟨W.heap.size, 3, none⟩ (.string p3))).drew.heap[W.heap.size]? = some (.cells #[.int .i64 ((m0 : Nat) : Int), .int .i64 ((m1 : Nat) : Int), .int .i64 ((m2 : Nat) : Int), .string p3] 68 (0, 0)) := cells_put (j := 3) (cells_put (j := 2) (cells_put (j := 1) (cells_put (j := 0) (HBX.out) (.int .i64 ((m0 : Nat) : Int))) (.int .i64 ((m1 : Nat) : Int))) (.int .i64 ((m2 : Nat) : Int))) (.string p3)
  refine bodyPost_ret (v := .tuple #[.agg #[.int .i64 ((m0 : Nat) : Int), .int .i64 ((m1 : Nat) : Int), .int .i64 ((m2 : Nat) : Int), .string p3], .int .i64 0]) (by simp [results, Tryz.results39, go_sem, (cells_at (v := .int .i64 ((m0 : Nat) : Int)) (j := 0) hfin rfl).1, (cells_at (v := .int .i64 ((m1 : Nat) : Int)) (j := 1) hfin rfl).1, (cells_at (v := .int .i64 ((m2 : Nat) : Int)) (j := 2) hfin rfl).1, (cells_at (v := .string p3) (j := 3) hfin rfl).1]) rfl ⟨rfl, ?_⟩
  exact ((((((((Below.refl _ _).alloc (Nat.le_refl _) _).trans (hb1.mono (by simp)))).setCell (p := ⟨W.heap.size, 0, none⟩) (Nat.le_refl _) _).setCell (p := ⟨W.heap.size, 1, none⟩) (Nat.le_refl _) _).setCell (p := ⟨W.heap.size, 2, none⟩) (Nat.le_refl _) _).setCell (p := ⟨W.heap.size, 3, none⟩) (Nat.le_refl _) _).drew
/-- the algorithm of a key. -/
def algN (d : ByteArray) : Nat := (d.data.toList[3]?.getD 0).toNat
theorem ext_list (s : ByteArray) (a b : Nat) : (s.extract a b).data.toList = (s.data.toList.take b).drop a := by
  rw [Lib.extract_data, List.drop_take]
theorem alg_at (s : ByteArray) (h5 : 5 ≤ s.size) : numB (((s.extract 2 s.size).extract 1 (s.size - 2)).extract 0 1).data.toList = algN s := by
  unfold algN
  have hl : s.data.toList.length = s.size := rfl
  have h3 : 3 < s.data.toList.length := by omega
  have e : (((s.extract 2 s.size).extract 1 (s.size - 2)).extract 0 1).data.toList = [s.data.toList[3]] := by
    apply List.ext_getElem?
    intro i
    simp only [ext_list, List.drop_zero]
    by_cases hi : i = 0
    · subst hi
      rw [List.getElem?_take_of_lt (by omega), List.getElem?_drop, List.getElem?_take_of_lt (by omega), List.getElem?_drop, List.getElem?_take_of_lt (by omega), List.getElem?_eq_getElem h3]
      rfl
    · rw [List.getElem?_eq_none (by simp; omega), List.getElem?_eq_none (by simp; omega)]
  rw [e, List.getElem?_eq_getElem h3]
  simp [numB]
theorem key48 (d : ByteArray) (h5 : 5 ≤ d.size) (h2 : d.size ≤ 2000) (W : World) :
    Calls Tryz.prog 39 #[.string d] W fun e w' => (∃ (m0 m1 : Nat) (p3 : ByteArray), e = .returned (.tuple #[.agg #[.int .i64 (m0 : Int), .int .i64 (m1 : Int), .int .i64 (algN d : Int), .string p3], .int .i64 0])) ∧ Below W.heap.size W w' := by
  have HS : ∀ W, _ := split48 d (by unfold maxLen; omega)
  have e : spl48 d = some [d.extract 0 2, (d.extract 2 d.size).extract 0 1, ((d.extract 2 d.size).extract 1 (d.size - 2)).extract 0 1, (((d.extract 2 d.size).extract 1 (d.size - 2)).extract 1 (d.size - 3)).extract 0 (d.size - 4)] := by
    unfold spl48; rw [if_pos ⟨h5, h2⟩]
  rw [e] at HS
  have n2 := number_in (((d.extract 2 d.size).extract 1 (d.size - 2)).extract 0 1) (by rw [ByteArray.size_extract]; omega)
  rw [alg_at d h5] at n2
  refine (key_walk d _ _ _ _ _ _ (algN d) (Hid.mk HS) (Hid.mk (number_in (d.extract 0 2) (by rw [ByteArray.size_extract]; omega))) (Hid.mk (number_in ((d.extract 2 d.size).extract 0 1) (by rw [ByteArray.size_extract]; omega))) (Hid.mk n2) W).mono ?_
  rintro e w' ⟨rfl, hb⟩
  exact ⟨⟨_, _, _, rfl⟩, hb⟩
end Go.Proofs.YtlcjagkfeakinaaGreatDoor.K48

/- Plain facts on tags of keys: the sum of words of two bytes. Nothing here speaks of the program. -/
namespace Go.Proofs.YtlcjagkfeakinaaGreatDoor
set_option linter.unusedVariables false

def gB (l : List UInt8) (i : Nat) : Nat := (l[i]?.getD 0).toNat
def wtB (i : Nat) : Nat := if i % 2 = 0 then 256 else 1
/-- the sum of the first i bytes, each even one 256 times. -/
def tagP (l : List UInt8) : Nat → Nat
  | 0 => 0
  | i + 1 => tagP l i + wtB i * gB l i
def tagS (l : List UInt8) : Nat := tagP l l.length
def tagN (l : List UInt8) : Nat := (tagS l + tagS l / 65536) % 65536

theorem gB_lt (l : List UInt8) (i : Nat) : gB l i < 256 := UInt8.toNat_lt _
theorem tagP_le (l : List UInt8) : ∀ i, tagP l i ≤ 65280 * i
  | 0 => Nat.le_refl _
  | i + 1 => by
    have h := tagP_le l i
    have g := gB_lt l i
    simp only [tagP, wtB]
    split <;> omega
theorem tagN_lt (l : List UInt8) : tagN l < 65536 := Nat.mod_lt _ (by omega)
theorem gB_set (l : List UInt8) (k : Nat) (v : UInt8) (i : Nat) (hk : k < l.length) : gB (l.set k v) i = if k = i then v.toNat else gB l i := by
  unfold gB
  rw [List.getElem?_set]
  by_cases h : k = i
  · subst h; simp [hk]
  · simp [h]
theorem tagP_set (l : List UInt8) (k : Nat) (v : UInt8) (hk : k < l.length) : ∀ i, tagP (l.set k v) i + (if k < i then wtB k * gB l k else 0) = tagP l i + (if k < i then wtB k * v.toNat else 0)
  | 0 => by simp [tagP]
  | i + 1 => by
    have h := tagP_set l k v hk i
    simp only [tagP]
    rw [gB_set l k v i hk]
    by_cases e : k = i
    · subst e
      simp only [Nat.lt_irrefl, if_false, if_true, Nat.lt_succ_self] at h ⊢
      omega
    · rw [if_neg e]
      by_cases c : k < i
      · rw [if_pos c, if_pos c] at h
        rw [if_pos (by omega), if_pos (by omega)]
        omega
      · rw [if_neg c, if_neg c] at h
        rw [if_neg (by omega), if_neg (by omega)]
        omega
/-- l with the pair at a and the pair at b changed for each other. -/
def swpB (l : List UInt8) (a b : Nat) : List UInt8 := (((l.set a (l[b]?.getD 0)).set (a + 1) (l[b + 1]?.getD 0)).set b (l[a]?.getD 0)).set (b + 1) (l[a + 1]?.getD 0)
theorem swpB_length (l : List UInt8) (a b : Nat) : (swpB l a b).length = l.length := by simp [swpB]
theorem swpB_self (l : List UInt8) (a : Nat) (h : a + 1 < l.length) : swpB l a a = l := by
  apply List.ext_getElem?
  intro i
  unfold swpB
  simp only [List.getElem?_set, List.length_set]
  have h0 : a < l.length := by omega
  by_cases e : a + 1 = i
  · subst e; simp [h]
  · by_cases e2 : a = i
    · subst e2; simp [h0]
    · simp [e, e2]
theorem tagS_swap (l : List UInt8) (a b : Nat) (ha : a % 2 = 0) (hb : b % 2 = 0) (la : a + 1 < l.length) (lb : b + 1 < l.length) : tagS (swpB l a b) = tagS l := by
  by_cases e : a = b
  · subst e; rw [swpB_self l a la]
  · unfold tagS
    rw [swpB_length]
    unfold swpB
    have n1 := tagP_set l a (l[b]?.getD 0) (by omega) l.length
    have n2 := tagP_set (l.set a (l[b]?.getD 0)) (a + 1) (l[b + 1]?.getD 0) (by simp; omega) l.length
    have n3 := tagP_set ((l.set a (l[b]?.getD 0)).set (a + 1) (l[b + 1]?.getD 0)) b (l[a]?.getD 0) (by simp; omega) l.length
    have n4 := tagP_set (((l.set a (l[b]?.getD 0)).set (a + 1) (l[b + 1]?.getD 0)).set b (l[a]?.getD 0)) (b + 1) (l[a + 1]?.getD 0) (by simp; omega) l.length
    rw [if_pos (by omega), if_pos (by omega)] at n1 n2 n3 n4
    rw [gB_set _ _ _ _ (by omega), if_neg (by omega)] at n2
    rw [gB_set _ _ _ _ (by simp; omega), if_neg (by omega), gB_set _ _ _ _ (by omega), if_neg (by omega)] at n3
    rw [gB_set _ _ _ _ (by simp; omega), if_neg (by omega), gB_set _ _ _ _ (by simp; omega), if_neg (by omega), gB_set _ _ _ _ (by omega), if_neg (by omega)] at n4
    have w1 : wtB a = 256 := by unfold wtB; rw [if_pos ha]
    have w2 : wtB b = 256 := by unfold wtB; rw [if_pos hb]
    have w3 : wtB (a + 1) = 1 := by unfold wtB; rw [if_neg (by omega)]
    have w4 : wtB (b + 1) = 1 := by unfold wtB; rw [if_neg (by omega)]
    rw [w1] at n1
    rw [w3] at n2
    rw [w2] at n3
    rw [w4] at n4
    simp only [gB] at n1 n2 n3 n4
    omega
end Go.Proofs.YtlcjagkfeakinaaGreatDoor

/- tagOf: the sum of words of two bytes. -/
namespace Go.Proofs.YtlcjagkfeakinaaGreatDoor
set_option linter.unusedVariables false
open Go.RowKit

theorem gB_at (d : ByteArray) (k : Nat) (h : k < d.size) : gB d.data.toList k = d[k].toNat := by
  unfold gB
  rw [List.getElem?_eq_getElem (by rw [size_list]; exact h)]
  rfl
theorem tagOf_in (d : ByteArray) (hd : d.size ≤ 2000) (w : World) :
    Calls Tryz.prog 30 #[.string d] w fun e w' => e = .returned (.int .i64 (tagN d.data.toList : Nat)) ∧ w' = w := by
  go_enter Tryz.func30, Tryz.ntmps30
  go_wp2
  go_loopw [3, 8] (fun sv i wr => ∃ k : Nat, k ≤ d.size ∧ i = .int .i64 k ∧ sv = .int .u32 (tagP d.data.toList k : Nat) ∧ wr = w) (fun _ i _ => d.size - (intOf i).toNat)
  case atStart => exact ⟨0, Nat.zero_le _, rfl, rfl, rfl⟩
  case round =>
    obtain ⟨k, hk, rfl, rfl, rfl⟩ := hrel
    have hle := tagP_le d.data.toList k
    by_cases hlt : k < d.size
    · have hb := d[k].toNat_lt
      have hg := gB_at d k hlt
      rcases Nat.mod_two_eq_zero_or_one k with hm | hm
      · have hn : tagP d.data.toList (k + 1) = tagP d.data.toList k + 256 * d[k].toNat := by
          rw [tagP, hg]; unfold wtB; rw [if_pos hm]
        have HN := Hid.mk hn
        clear hn hg
        generalize tagP d.data.toList k = q at hle HN ⊢
        have h1 : (k : Int).tmod 2 = 0 := by rw [Int.tmod_eq_emod_of_nonneg (by omega)]; omega
        have h2 : IntKind.u32.wrap (d[k].toNat : Int) = (d[k].toNat : Int) := by rw [IntKind.wrap_u32]; omega
        have h3 : IntKind.u32.wrap ((d[k].toNat : Int) * 256) = (d[k].toNat : Int) * 256 := by rw [IntKind.wrap_u32]; omega
        have h4 : IntKind.u32.wrap ((q : Int) + (d[k].toNat : Int) * 256) = (q : Int) + (d[k].toNat : Int) * 256 := by rw [IntKind.wrap_u32]; omega
        go_wp2
        exact ⟨⟨k + 1, by omega, by go_num, by rw [HN.out]; go_num, trivial⟩, by simp [intOf]; omega⟩
      · have hn : tagP d.data.toList (k + 1) = tagP d.data.toList k + d[k].toNat := by
          rw [tagP, hg]; unfold wtB; rw [if_neg (by omega), Nat.one_mul]
        have HN := Hid.mk hn
        clear hn hg
        generalize tagP d.data.toList k = q at hle HN ⊢
        have h1 : (k : Int).tmod 2 = 1 := by rw [Int.tmod_eq_emod_of_nonneg (by omega)]; omega
        have h2 : IntKind.u32.wrap (d[k].toNat : Int) = (d[k].toNat : Int) := by rw [IntKind.wrap_u32]; omega
        have h4 : IntKind.u32.wrap ((q : Int) + (d[k].toNat : Int)) = (q : Int) + (d[k].toNat : Int) := by rw [IntKind.wrap_u32]; omega
        go_wp2
        exact ⟨⟨k + 1, by omega, by go_num, by rw [HN.out]; go_num, trivial⟩, by simp [intOf]; omega⟩
    · have hall : tagP d.data.toList k = tagS d.data.toList := by unfold tagS; congr 1; rw [size_list]; omega
      have HT := Hid.mk (show tagN d.data.toList = (tagP d.data.toList k + tagP d.data.toList k / 65536) % 65536 by rw [hall]; rfl)
      clear hall
      generalize tagP d.data.toList k = q at hle HT ⊢
      have h1 : IntKind.u32.wrap ((q : Int) / 65536) = (q : Int) / 65536 := by rw [IntKind.wrap_u32]; omega
      have h2 : IntKind.u32.wrap ((q : Int) + (q : Int) / 65536) = (q : Int) + (q : Int) / 65536 := by rw [IntKind.wrap_u32]; omega
      have h3 : IntKind.u16.wrap ((q : Int) + (q : Int) / 65536) = ((q : Int) + (q : Int) / 65536) % 65536 := by rw [IntKind.wrap_u16]
      have h4 : IntKind.i64.wrap (((q : Int) + (q : Int) / 65536) % 65536) = ((q : Int) + (q : Int) / 65536) % 65536 := by rw [IntKind.wrap_i64]; omega
      go_wp2
      go_ret
      refine ⟨?_, rfl⟩
      rw [HT.out]
      congr 2
end Go.Proofs.YtlcjagkfeakinaaGreatDoor
