/- The document's tell. -/
import Derived.Deep.RegionLaw
import Derived.Deep.RegionHeld3
import Derived.Test.YtdecmbpmgnoelaaDoorGPad
namespace Go.Proofs.YtdecmbpmgnoelaaDoor
set_option linter.unusedVariables false
open Go.RowKit
theorem step_append_own {w : World} {ops : Array Oper} {o : Oper} {a : Act} {K : Act → World → Prop} {Q : Exit → Act → World → Prop} {E : Prop} (hgd : o.guard = none) (s x : Operand)
    (ho : o.op = .call { callee := .builtin .append, args := #[s, x], argTypes := #[47, 47] }) (base : Nat) (i : TypeInfo)
    (h2 : Tryd.prog.info? 5 = some i) (h3 : i.zero = some (.int .u8 0)) (h4 : i.size = 1) (h5 : i.bytes = 1) (v : Value) (n : Nat) (xs : List Value) (hs : a.eval s = v) (hown : w.ownsRow base 5 1 v n xs)
    (ad : Addr) (m c : Nat) (news : List Value) (hx : a.eval x = .slice (some ad) m c) (hn : news.length = m) (hc : ∀ j u, news[j]? = some u → w.cell? (ad.add j) = some u) (h1c : ∀ u ∈ news, u.oneCell' = true) (b1 : n + m ≤ 100000000) (hm : 0 < m) (hb : base ≤ w.heap.size)
    (h : ∀ v' w', w'.ownsRow base 5 1 v' (n + m) (xs ++ news) → w.grownBy w' v.ownBlock → K (a.put o.dst v') w') :
    if Region.wanted o (yielded ops a.tmps) = true then Oper.wp Tryd.prog o a w K Q else E := by
  have hw : Region.wanted o (yielded ops a.tmps) = true := by simp [Region.wanted, hgd]
  rw [if_pos hw]
  exact wp_append_own w s x 47 ho base 5 i (.int .u8 0) 1 1 Tryd.underlying47 h2 h3 h4 h5 rfl (by decide) v n xs hs hown ad m c news hx (by omega) hc h1c (by unfold maxLen; omega) (by omega) hb fun v' w' h2 h3 _ => h v' w' h2 h3
set_option maxRecDepth 100000 in
set_option maxHeartbeats 2000000 in
theorem tell_in (W : World) (b : Nat) (p : List (BitVec 32)) (t : Nat) (hp : p.length ≤ 100) (h : W.heap[b]? = some (.cells (wc p) t (0, 0))) :
    Calls Tryd.prog 26 #[.slice (some ⟨b, 0, none⟩) p.length p.length] W fun e w' => e = .returned (.string ⟨(p.flatMap b4).toArray⟩) ∧ Below W.heap.size W w' := by
  obtain ⟨i0, hi, hz0, hz1, hz2⟩ := info_of info5
  obtain ⟨n, hn⟩ : ∃ n, p.length = n := ⟨_, rfl⟩
  have HP : Hid (p.length = n) := hn
  have hn2 : n ≤ 100 := by omega
  have H := Hid.mk h
  have hwb : b < W.heap.size := box_lt h
  rw [hn]
  clear hn hp h
  go_enter Tryd.func26, Tryd.ntmps26
  go_wp2_with fail
  go_loopw [3, 4] (fun v i wr => ∃ m : Nat, m ≤ n ∧ i = .int .i64 m ∧ wr.ownsRow W.heap.size 5 1 v (4 * m) (bcl ((p.take m).flatMap b4)) ∧ Below W.heap.size W wr) (fun _ i _ => n - (intOf i).toNat)
  case atStart => exact ⟨0, by omega, rfl, ⟨rfl, .inl ⟨rfl, rfl⟩⟩, Below.refl _ _⟩
  case round =>
    obtain ⟨m, hm, rfl, hown, hbl⟩ := hrel
    have HO := Hid.mk hown
    have hsz := hbl.size
    by_cases hlt : m < n
    · have hc : wr.cell? ⟨b, m, none⟩ = some (.int .u32 ((p[m]?.getD 0).toNat : Int)) := (hbl.cell (p := ⟨b, m, none⟩) hwb).trans (cells_at H.out (by rw [wc_at, List.getElem?_eq_getElem (by have := HP.out; omega)]; rfl)).1
      have HN : Hid ((p.take (m + 1)).flatMap b4 = (p.take m).flatMap b4 ++ b4 (p[m]?.getD 0)) := by
        rw [Hid, List.take_add_one, List.flatMap_append, List.getElem?_eq_getElem (by have := HP.out; omega)]
        simp
      have HCW : Hid (W.cell? ⟨b, m, none⟩ = some (.int .u32 ((p[m]?.getD 0).toNat : Int))) := (cells_at H.out (by rw [wc_at, List.getElem?_eq_getElem (by have := HP.out; omega)]; rfl)).1
      generalize p[m]?.getD 0 = x at hc HN HCW
      have hxl := bv_lt x
      have HB4 : Hid (bcl (b4 x) = [.int .u8 (IntKind.u8.wrap ((x.toNat : Int) / 16777216)), .int .u8 (IntKind.u8.wrap ((x.toNat : Int) / 65536)), .int .u8 (IntKind.u8.wrap ((x.toNat : Int) / 256)), .int .u8 (IntKind.u8.wrap (x.toNat : Int))]) := by
        rw [Hid, bcl_b4 x]
        simp only [IntKind.wrap_u8]
        rw [Int.emod_eq_of_lt (a := (x.toNat : Int) / 16777216) (by omega) (by omega)]
      have HKA : Hid (∀ o : Obj, ((wr.alloc o).drew).cell? ⟨b, m, none⟩ = some (.int .u32 (x.toNat : Int))) := fun o => ((hbl.alloc hbl.size o).cell (p := ⟨b, m, none⟩) hwb).trans HCW.out
      have im : (m : Int) < (n : Int) := by omega
      have im0 : (0 : Int) ≤ (m : Int) := by omega
      clear hown
      go_wp2_with fail
      go_region_held3 (fun w' => w'.cell? ⟨b, m, none⟩ = some (.int .u32 (x.toNat : Int))) (first | assumption | exact HKA.out _ | go_keep)
        (first
          | (refine step_append_own rfl (.tmp 11) (.tmp 35) rfl W.heap.size i0 hi hz0 hz1 hz2 _ (4 * m) _ rfl (HO.out.drew.alloc _) ⟨wr.heap.size, 0, none⟩ 4 4 [.int .u8 (IntKind.u8.wrap ((x.toNat : Int) / 16777216)), .int .u8 (IntKind.u8.wrap ((x.toNat : Int) / 65536)), .int .u8 (IntKind.u8.wrap ((x.toNat : Int) / 256)), .int .u8 (IntKind.u8.wrap (x.toNat : Int))] rfl rfl (fun j u h => cells_new wr.drew _ 5 j u h) (by simp [Value.oneCell']) (by omega) (by omega) (by simp; omega) ?_; intro v1 w1 hown1 hgrow1; have B2 : Below W.heap.size W w1 := (hbl.drew.alloc hbl.size _).grown hgrow1 (Nat.le_trans hbl.size (by simp)) (fun k hk => (HO.out.lt k hk).1); have hcc : w1.cell? ⟨b, m, none⟩ = some (.int .u32 (x.toNat : Int)) := (B2.cell (p := ⟨b, m, none⟩) hwb).trans HCW.out))
      have hown2 : w1.ownsRow W.heap.size 5 1 v1 (4 * (m + 1)) (bcl ((p.take (m + 1)).flatMap b4)) := by
        rw [HN.out, bcl_app, HB4.out, Nat.mul_add]; exact hown1
      clear hown1 hgrow1
      go_wp2
      go_roundw
      case rel => exact ⟨m + 1, by omega, by go_num, hown2, B2⟩
      case measure => simp [intOf]; omega
    · obtain rfl : n = m := by omega
      have hcv := own_back_any HO.out (by rw [List.take_of_length_le (Nat.le_of_eq HP.out)]; exact flat_len p n HP.out)
      rw [List.take_of_length_le (Nat.le_of_eq HP.out)] at hcv
      clear hown
      go_wp2
      go_ret
      exact ⟨rfl, hbl⟩
end Go.Proofs.YtdecmbpmgnoelaaDoor
