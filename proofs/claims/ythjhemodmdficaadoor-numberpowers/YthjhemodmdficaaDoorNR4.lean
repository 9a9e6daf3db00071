/- A digit appended to a row; the document's Small, Of. -/
import Derived.Laws.AppendOwn
import Derived.Test.YthjhemodmdficaaDoorNR3
namespace Go.Proofs.YthjhemodmdficaaDoor
set_option linter.unusedVariables false
open Go.RowKit
theorem info24 : (Tryd.prog.info? 24).map (fun i => (i.zero, i.size, i.bytes)) = some (some (.int .u32 0), 1, 4) := by kernel_rfl
/-- a row of one's own. -/
def Ow (base : Nat) (w : World) (v : Value) (ds : List (BitVec 32)) : Prop := w.ownsRow base 24 1 v ds.length (wl ds)
theorem Ow.rw {base : Nat} {w : World} {v : Value} {ds : List (BitVec 32)} (h : Ow base w v ds) : Rw w v ds := Rw.of h rfl
theorem Ow.nil (base : Nat) (w : World) : Ow base w (.slice none 0 0) [] := World.ownsRow_nil w base _ _
theorem wpList_app1 {ops : Array Oper} {rest : List Oper} {o : Oper} {a : Act} {Q : Exit → Act → World → Prop} {w W0 : World} (hgd : o.guard = none) (s x : Operand) (ho : o.op = .call { callee := .builtin .append, args := #[s, x], argTypes := #[31, 31] })
    (base : Nat) (v : Value) (ds : List (BitVec 32)) (hs : a.eval s = v) (hown : Ow base w v ds) (z : BitVec 32) (hx : a.eval x = .slice (some ⟨w.heap.size, 0, none⟩) 1 1) (hl : (ds.length + 1) * 4 ≤ 140737488355328) (hbl : Below base W0 w) (hbase : base ≤ w.heap.size)
    (h : ∀ v' w', Ow base w' v' (ds ++ [z]) → Below base W0 w' → wpList Tryd.prog ops Q rest (a.put o.dst v') w') : wpList Tryd.prog ops Q (o :: rest) a (w.alloc (.cells #[.int .u32 (z.toNat : Int)] 24)) := by
  obtain ⟨i0, hi, hz0, hz1, hz2⟩ := info_of info24
  refine wpList_append_own _ hgd s x 31 ho base 24 i0 (.int .u32 0) 1 4 Tryd.underlying31 hi hz0 hz1 hz2 rfl (by decide) v ds.length (wl ds) hs (World.ownsRow.alloc hown _) ⟨w.heap.size, 0, none⟩ 1 1 [.int .u32 (z.toNat : Int)] hx rfl (fun j u hu => ?_) (by simp [Value.oneCell']) (by unfold maxLen; omega) (by omega) (by simp; omega) ?_
  · rw [addr_at, Nat.zero_add]
    exact (cells_at (L := [.int .u32 (z.toNat : Int)]) (heap_new w (.cells #[.int .u32 (z.toNat : Int)] 24)) hu).1
  · intro v' w' h1 h2 _
    refine h v' w' ?_ ?_
    · unfold Ow
      rw [List.length_append, wl_app]
      exact h1
    · exact (hbl.alloc hbase _).grown h2 (by simp; omega) (fun k hk => (World.ownsRow.lt hown k hk).1)
theorem Tr.push (ds : List (BitVec 32)) (x : BitVec 32) (h : x.toNat ≠ 0) : Tr (ds ++ [x]) := .inr ⟨ds, x, rfl, h⟩
set_option maxRecDepth 100000 in
set_option maxHeartbeats 400000 in
theorem rsmall_in (N : Nat) (hN : N < 18446744073709551616) (W : World) : Calls Tryd.prog 13 #[.int .u64 (N : Int)] W fun e w' => ∃ v, e = .returned v ∧ RN w' v N ∧ Below W.heap.size W w' := by
  go_enter Tryd.func13, Tryd.ntmps13
  go_wp2
  go_loopw [0, 3] (fun nv v wr => ∃ (m : Nat) (ds : List (BitVec 32)), nv = .int .u64 (m : Int) ∧ Hid (val ds + 4294967296 ^ ds.length * m = N) ∧ m ≤ N ∧ Hid (m = 0 → Tr ds) ∧ Hid (ds.length ≤ 2 ∧ m < 4294967296 ^ (2 - ds.length)) ∧ Ow W.heap.size wr v ds ∧ Below W.heap.size W wr) (fun nv _ _ => (intOf nv).toNat)
  case atStart => exact ⟨N, [], rfl, by simp [Hid, val], Nat.le_refl _, fun _ => .inl rfl, ⟨by simp, by simp; omega⟩, Ow.nil _ _, Below.refl _ _⟩
  case round =>
    obtain ⟨m, ds, rfl, HV, hmN, HT, HL, hown, hbl⟩ := hrel
    rcases Nat.eq_zero_or_pos m with rfl | hm
    · have HR : Hid (RN wr _ N) := ⟨ds, hown.rw, by have := HV.out; rw [Nat.mul_zero, Nat.add_zero] at this; exact this, HT.out rfl⟩
      have HBL := Hid.mk hbl
      clear hown
      go_wp2
      go_ret
      exact ⟨_, rfl, HR.out, HBL.out⟩
    · have HO := Hid.mk hown
      obtain ⟨q, hq⟩ : ∃ q, m / 4294967296 = q := ⟨_, rfl⟩
      obtain ⟨r, hr⟩ : ∃ r, m % 4294967296 = r := ⟨_, rfl⟩
      have hrl : r < 4294967296 := by omega
      obtain ⟨z, hz⟩ : ∃ z : BitVec 32, z.toNat = r := ⟨BitVec.ofNat 32 r, by rw [bv_of]; omega⟩
      have t1 : (m : Int) % 4294967296 = (z.toNat : Int) := by omega
      have t2 : (m : Int).tmod 4294967296 = (z.toNat : Int) := by rw [Int.tmod_eq_emod_of_nonneg (by omega)]; omega
      have t3 : (m : Int) / 4294967296 = (q : Int) := by omega
      have t4 : (m : Int).tdiv 4294967296 = (q : Int) := by rw [Int.tdiv_eq_ediv_of_nonneg (by omega)]; omega
      have t5 : IntKind.u32.wrap (z.toNat : Int) = (z.toNat : Int) := by rw [IntKind.wrap_u32]; have := bv_lt z; omega
      have t6 : IntKind.u64.wrap (z.toNat : Int) = (z.toNat : Int) := by rw [IntKind.wrap_u64]; have := bv_lt z; omega
      have t7 : IntKind.u64.wrap (q : Int) = (q : Int) := by rw [IntKind.wrap_u64]; omega
      have t8 : (z.toNat : Int) % 4294967296 = (z.toNat : Int) := by have := bv_lt z; omega
      have hmi : (0 : Int) < (m : Int) := by omega
      have hl1 : ds.length ≤ 1 := by
        apply Classical.byContradiction
        intro hn
        have h2 := HL.out
        rw [show ds.length = 2 by omega] at h2
        simp at h2
        omega
      have HN : Hid (val (ds ++ [z]) + 4294967296 ^ (ds ++ [z]).length * q = N) := by
        rw [Hid, val_snoc, List.length_append, List.length_singleton, Nat.pow_succ, ← HV.out, Nat.mul_assoc, Nat.add_assoc, ← Nat.mul_add]
        congr 2
        omega
      have HQ : Hid (q = 0 → Tr (ds ++ [z])) := fun h0 => Tr.push ds z (by omega)
      have HL2 : Hid ((ds ++ [z]).length ≤ 2 ∧ q < 4294967296 ^ (2 - (ds ++ [z]).length)) := by
        rw [Hid, List.length_append, List.length_singleton]
        have h2 := HL.out.2
        refine ⟨by omega, ?_⟩
        rw [show 2 - ds.length = 2 - (ds.length + 1) + 1 by omega, Nat.pow_succ] at h2
        exact (by rw [← hq]; exact (Nat.div_lt_iff_lt_mul (by omega)).2 h2)
      have hqm : q ≤ N ∧ q < m := by omega
      have hsz := hbl.size
      clear hq hr hz hown
      go_wp2_with (at_builtin; refine wpList_app1 rfl _ _ rfl W.heap.size _ ds rfl HO.out z rfl (by omega) hbl hsz ?_; intro v2 w2 hown2 hbl2)
      go_roundw
      case rel => exact ⟨q, ds ++ [z], rfl, HN, hqm.1, HQ, HL2, hown2, hbl2⟩
      case measure => simp [intOf]; omega
end Go.Proofs.YthjhemodmdficaaDoor
