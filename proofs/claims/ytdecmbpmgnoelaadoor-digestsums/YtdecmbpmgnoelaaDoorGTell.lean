/- bytesOf; the document's tell. -/
import Derived.Laws.AppendOwn
import Derived.OwnWalk
import Derived.Test.YtdecmbpmgnoelaaDoorGSum1
import Derived.Test.YtdecmbpmgnoelaaDoorGSum2
namespace Go.Proofs.YtdecmbpmgnoelaaDoor
set_option linter.unusedVariables false
open Go.RowKit
theorem info5 : (Tryd.prog.info? 5).map (fun i => (i.zero, i.size, i.bytes)) = some (some (.int .u8 0), 1, 1) := by kernel_rfl
theorem info_of {t : Nat} {z : Value} {n b : Nat} (h : (Tryd.prog.info? t).map (fun i => (i.zero, i.size, i.bytes)) = some (some z, n, b)) : ∃ i0, Tryd.prog.info? t = some i0 ∧ i0.zero = some z ∧ i0.size = n ∧ i0.bytes = b := by
  cases hq : Tryd.prog.info? t with
  | none => simp [hq] at h
  | some i => exact ⟨i, rfl, by simp [hq] at h; exact h.1, by simp [hq] at h; exact h.2.1, by simp [hq] at h; exact h.2.2⟩
def bcl (l : List UInt8) : List Value := l.map fun c => Value.int .u8 (c.toNat : Int)
theorem bcl_app (a b : List UInt8) : bcl (a ++ b) = bcl a ++ bcl b := by simp [bcl]
theorem addr_at (b j : Nat) : (⟨b, 0, none⟩ : Addr).add j = ⟨b, j, none⟩ := by unfold Addr.add; split <;> simp_all
theorem cells_new (W : World) (cs : Array Value) (t : TypeId) (j : Nat) (u : Value) (h : cs.toList[j]? = some u) : (W.alloc (.cells cs t)).cell? ((⟨W.heap.size, 0, none⟩ : Addr).add j) = some u := by
  rw [addr_at]
  have hh : (W.alloc (.cells cs t)).heap[W.heap.size]? = some (.cells cs t) := heap_new W _
  simp only [World.cell?, hh]
  simpa using h
theorem bt_int (n k : Nat) : ((bt n k).toNat : Int) = (n : Int) / 2 ^ (8 * k) % 256 := by
  rw [bt, UInt8.toNat_ofNat', show (n : Int) / 2 ^ (8 * k) = ((n / 2 ^ (8 * k) : Nat) : Int) by rw [Int.natCast_ediv, Int.natCast_pow]; rfl]
  generalize n / 2 ^ (8 * k) = q
  omega
theorem bcl_b4 (x : BitVec 32) : bcl (b4 x) = [.int .u8 ((x.toNat : Int) / 16777216), .int .u8 ((x.toNat : Int) / 65536 % 256), .int .u8 ((x.toNat : Int) / 256 % 256), .int .u8 ((x.toNat : Int) % 256)] := by
  have hx := bv_lt x
  have e3 : ((bt x.toNat 3).toNat : Int) = (x.toNat : Int) / 16777216 := by rw [bt_int]; simp only [Nat.reduceMul, Int.reducePow]; omega
  have e2 : ((bt x.toNat 2).toNat : Int) = (x.toNat : Int) / 65536 % 256 := by rw [bt_int]; simp only [Nat.reduceMul, Int.reducePow]
  have e1 : ((bt x.toNat 1).toNat : Int) = (x.toNat : Int) / 256 % 256 := by rw [bt_int]; simp only [Nat.reduceMul, Int.reducePow]
  have e0 : ((bt x.toNat 0).toNat : Int) = (x.toNat : Int) % 256 := by rw [bt_int]; simp only [Nat.reduceMul, Int.reducePow]; omega
  simp only [bcl, b4, List.map_cons, List.map_nil, e3, e2, e1, e0]
theorem flat_len : ∀ (p : List (BitVec 32)) (n : Nat), p.length = n → (p.flatMap b4).length = 4 * n
  | [], n, h => by subst h; rfl
  | x :: p, n, h => by
    subst h
    rw [List.flatMap_cons, List.length_append, flat_len p p.length rfl]
    simp only [b4, List.length_cons, List.length_nil]
    omega
/-- a row of bytes turned into a text. -/
theorem own_back {w : World} {base g n cap : Nat} {l : List UInt8} (h : w.ownsRow base 5 1 (.slice (some ⟨g, 0, none⟩) n cap) n (bcl l)) (hl : l.length = n) :
    (convert 47 9 (.slice (some ⟨g, 0, none⟩) n cap)).run Tryd.prog w = .ok (.string ⟨l.toArray⟩) w := by
  subst hl
  refine run_convert_bytes_back (P := Tryd.prog) w 47 9 5 ⟨g, 0, none⟩ cap l Tryd.underlying47 Tryd.underlying5 Tryd.underlying9 (fun j hj => ?_)
  rw [addr_at, h.cellAt j (by omega)]
  simp [bcl, hj]
set_option maxRecDepth 100000 in
theorem bytesOf_in (W : World) (b t : Nat) (p : List (BitVec 32)) (hp : p.length ≤ 100) (h : W.heap[b]? = some (.cells (wc p) t (0, 0))) :
    Calls Tryd.prog 22 #[.slice (some ⟨b, 0, none⟩) p.length p.length] W fun e w' => e = .returned (.string ⟨(p.flatMap b4).toArray⟩) ∧ Below W.heap.size W w' := by
  obtain ⟨i0, hi, hz0, hz1, hz2⟩ := info_of info5
  obtain ⟨n, hn⟩ : ∃ n, p.length = n := ⟨_, rfl⟩
  have HP : Hid (p.length = n) := hn
  have hn2 : n ≤ 100 := by omega
  have H := Hid.mk h
  rw [hn]
  clear hn hp h
  go_enter Tryd.func22, Tryd.ntmps22
  go_wp2_with (at_make; refine wpList_make_own _ rfl _ _ 47 rfl W.heap.size 5 i0 (.int .u8 0) 1 Tryd.underlying47 hi hz0 hz1 _ _ _ (4 * n) rfl rfl (by omega) (by rw [hz2]; omega) (by unfold maxLen; omega) (Nat.le_refl _) ?_; intro w1 hown1 hgrow1)
  have B1 : Below W.heap.size W w1 := (Below.refl _ _).grown hgrow1 (Nat.le_refl _) (by simp)
  have K1 : w1.heap[b]? = some (.cells (wc p) t (0, 0)) := (B1.block b (box_lt H.out)).trans H.out
  have HK1 := Hid.mk K1
  have HO1 := Hid.mk hown1
  clear K1 hown1 hgrow1
  go_loopw [3, 12] (fun v i wr => ∃ m : Nat, m ≤ n ∧ i = .int .i64 m ∧ v = .slice (some ⟨W.heap.size, 0, none⟩) (4 * m) (4 * n) ∧ wr.ownsRow W.heap.size 5 1 (.slice (some ⟨W.heap.size, 0, none⟩) (4 * m) (4 * n)) (4 * m) (bcl ((p.take m).flatMap b4)) ∧ wr.heap[b]? = some (.cells (wc p) t (0, 0)) ∧ Below W.heap.size W wr) (fun _ i _ => n - (intOf i).toNat)
  case atStart => exact ⟨0, by omega, rfl, rfl, HO1.out, HK1.out, B1⟩
  case round =>
    obtain ⟨m, hm, rfl, rfl, hown, hk, hbl⟩ := hrel
    have HO := Hid.mk hown
    have HK := Hid.mk hk
    by_cases hlt : m < n
    · have hc : wr.cell? ⟨b, m, none⟩ = some (.int .u32 ((p[m]?.getD 0).toNat : Int)) := (cells_at hk (by rw [wc_at, List.getElem?_eq_getElem (by have := HP.out; omega)]; rfl)).1
      have HN : Hid ((p.take (m + 1)).flatMap b4 = (p.take m).flatMap b4 ++ b4 (p[m]?.getD 0)) := by
        rw [Hid, List.take_add_one, List.flatMap_append, List.getElem?_eq_getElem (by have := HP.out; omega)]
        simp
      generalize p[m]?.getD 0 = x at hc HN
      have hxl := bv_lt x
      clear hown hk
      have HB4 : Hid (bcl (b4 x) = [.int .u8 ((x.toNat : Int) / 16777216), .int .u8 ((x.toNat : Int) / 65536 % 256), .int .u8 ((x.toNat : Int) / 256 % 256), .int .u8 ((x.toNat : Int) % 256)]) := bcl_b4 x
      have hwb : b < W.heap.size := box_lt H.out
      go_wp2_with (at_builtin; refine wpList_append_fits _ rfl _ _ 47 rfl W.heap.size 5 i0 1 Tryd.underlying47 hi hz1 W.heap.size (4 * m) (4 * n) _ rfl (HO.out.alloc _) ⟨wr.heap.size, 0, none⟩ 4 4 [.int .u8 ((x.toNat : Int) / 16777216), .int .u8 ((x.toNat : Int) / 65536 % 256), .int .u8 ((x.toNat : Int) / 256 % 256), .int .u8 ((x.toNat : Int) % 256)] rfl rfl (fun j u h => cells_new wr _ 5 j u h) (by simp [Value.oneCell']) (by omega) ?_; intro w2 hown2 hgrow2)
      have B2 : Below W.heap.size W w2 := (hbl.alloc hbl.size _).grown hgrow2 (Nat.le_trans hbl.size (by simp)) (by intro k hk; cases hk; exact Nat.le_refl _)
      go_roundw
      case rel =>
        refine ⟨m + 1, by omega, by go_num, rfl, ?_, (B2.block b hwb).trans H.out, B2⟩
        rw [HN.out, bcl_app, HB4.out]
        exact hown2
      case measure => simp [intOf]; omega
    · obtain rfl : m = n := by omega
      have hcv := own_back HO.out (by rw [List.take_of_length_le (Nat.le_of_eq HP.out)]; exact flat_len p m HP.out)
      rw [List.take_of_length_le (Nat.le_of_eq HP.out)] at hcv
      clear hown hk
      go_wp2
      go_ret
      exact ⟨rfl, hbl⟩

theorem sum1_in (s : ByteArray) (hs : s.size ≤ 140737488355328) (w : World) :
    Calls Tryd.prog 7 #[.string s] w fun e w' => e = .returned (.string ⟨(sha1 s.data.toList).toArray⟩) ∧ Below w.heap.size w w' :=
  sum1_gen s hs (nb s.size) rfl (blk s.data.toList) (blk_len _) (go1 s.data.toList) rfl (fun k => rfl) (fun k hk w => blockOf_in s k hs hk w) (sha1 s.data.toList)
    (fun W b h => bytesOf_in W b 32 (go1 s.data.toList (nb s.size)).l (by show 5 ≤ 100; omega) h) w
theorem sum2_in (s : ByteArray) (hs : s.size ≤ 140737488355328) (w : World) (hG : Rk w) :
    Calls Tryd.prog 9 #[.string s] w fun e w' => e = .returned (.string ⟨(sha2 s.data.toList).toArray⟩) ∧ Below w.heap.size w w' :=
  sum2_gen s hs (nb s.size) rfl (blk s.data.toList) (blk_len _) (go2 s.data.toList) rfl (fun k => rfl) (fun k hk w => blockOf_in s k hs hk w) (sha2 s.data.toList)
    (fun W b h => bytesOf_in W b 42 (go2 s.data.toList (nb s.size)).l (by show 8 ≤ 100; omega) h) w hG
end Go.Proofs.YtdecmbpmgnoelaaDoor
