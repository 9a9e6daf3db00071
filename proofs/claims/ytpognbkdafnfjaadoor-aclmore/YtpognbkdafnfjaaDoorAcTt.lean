/- Layer 13: Text. -/
import Derived.Test.YtpognbkdafnfjaaDoorAcTx
namespace Go.Proofs.YtpognbkdafnfjaaDoor
set_option linter.unusedVariables false
set_option linter.unusedSimpArgs false
open Go.RowKit
theorem info_parts {o : Option TypeInfo} {z : Value} {s b : Nat} (h : o.map (fun i => (i.zero, i.size, i.bytes)) = some (some z, s, b)) : ∃ i, o = some i ∧ i.zero = some z ∧ i.size = s ∧ i.bytes = b := by
  cases o with
  | none => cases h
  | some i =>
    simp only [Option.map_some, Option.some.injEq, Prod.mk.injEq] at h
    exact ⟨i, rfl, h.1, h.2.1, h.2.2⟩
theorem info9 : (Tryd.prog.info? 9).map (fun i => (i.zero, i.size, i.bytes)) = some (some (.string ⟨#[]⟩), 1, 16) := by kernel_rfl
theorem mk_str (W : World) (n : Nat) (hn : n ≤ 1000) : (Instr.makeSlice 68 (.int .i64 (n : Int)) (.int .i64 (n : Int))).run Tryd.prog W = .ok (.slice (some ⟨W.heap.size, 0, none⟩) n n) (W.alloc (.cells (Array.replicate n (.string ⟨#[]⟩)) 9)) := by
  obtain ⟨i0, hi, hz0, hz1, hz2⟩ := info_parts info9
  have h := run_make (P := Tryd.prog) W 68 9 i0 (.string ⟨#[]⟩) Tryd.underlying68 hi hz0 .i64 .i64 (n : Int) (n : Int) (by omega) (by omega) (by rw [hz2]; omega) (by omega)
  have e : madeCells (Value.string ⟨#[]⟩).cells ((n : Int).toNat * i0.size) = Array.replicate n (.string ⟨#[]⟩) := by
    rw [hz1]
    apply Array.ext
    · simp [size_madeCells]
    · intro j h1 h2
      simp [madeCells, Value.cells, Nat.mod_one]
  rw [e] at h
  simpa using h
theorem join_le (c : UInt8) (b : Nat) : ∀ (xs : List (List UInt8)), (∀ p ∈ xs, p.length ≤ b) → (Lib.join xs [c]).length ≤ xs.length * (b + 1)
  | [], _ => by simp [Lib.join, List.intercalate]
  | [x], h => by rw [Lib.join_one]; have := h x (by simp); simp; omega
  | x :: y :: r, h => by
    rw [join_cons2]
    have h1 := h x (by simp)
    have h2 := join_le c b (y :: r) (fun p hp => h p (List.mem_cons_of_mem _ hp))
    simp only [List.length_append, List.length_cons] at h2 ⊢
    rw [Nat.add_mul (r.length + 1)]
    omega
theorem dgs_len (b : Nat) : ∀ (f u : Nat), (dgs b f u).length ≤ f + 1
  | 0, u => by simp [dgs]
  | f + 1, u => by
    rw [dgs]
    split
    · simp
    · have := dgs_len b f (u / b)
      simp
      omega
theorem pts_le (a : Ad) : ∀ p ∈ pts a, p.length ≤ 4 := by
  intro p hp
  simp only [pts, List.mem_map] at hp
  obtain ⟨i, _, rfl⟩ := hp
  have := dgs_len (shp a.v6).base (shp a.v6).more (prt a i)
  have h3 : (shp a.v6).more ≤ 3 := by cases a.v6 <;> decide
  unfold Sh.num
  omega
theorem txt_le (a : Ad) : (txt a).length ≤ 40 := by
  have := join_le (shp a.v6).mark 4 (pts a) (pts_le a)
  have h2 := pts_len a
  have h3 : (shp a.v6).parts ≤ 8 := by cases a.v6 <;> decide
  unfold txt
  omega
theorem ptR_size (a : Ad) (k : Nat) (hk : k ≤ (shp a.v6).parts) : (ptR a k).size = (shp a.v6).parts := by
  have := pts_len a
  simp [ptR, sv]
  omega
theorem ptR_at (a : Ad) (k : Nat) (hk : k < (shp a.v6).parts) : (ptR a k)[k]? = some (.string ⟨#[]⟩) := by
  have := pts_len a
  unfold ptR
  rw [List.getElem?_toArray, List.getElem?_append_right (by simp [sv]; omega), List.getElem?_replicate, if_pos]
  simp [sv]
  omega
theorem ptR_set (a : Ad) (k : Nat) (hk : k < (shp a.v6).parts) : (ptR a k).setIfInBounds k (.string ⟨((shp a.v6).num (prt a k)).toArray⟩) = ptR a (k + 1) := by
  have hl := pts_len a
  have hlen : (sv ((pts a).take k)).length = k := by simp [sv]; omega
  unfold ptR
  rw [List.setIfInBounds_toArray, List.set_append, if_neg (by omega), hlen, Nat.sub_self]
  obtain ⟨n, hn⟩ : ∃ n, (shp a.v6).parts - k = n + 1 := ⟨(shp a.v6).parts - k - 1, by omega⟩
  rw [hn, List.replicate_succ, List.set_cons_zero, show (shp a.v6).parts - (k + 1) = n by omega]
  have ht : (pts a).take (k + 1) = (pts a).take k ++ [(shp a.v6).num (prt a k)] := by
    rw [List.take_add_one]
    congr 1
    unfold pts
    rw [List.getElem?_map, List.getElem?_range hk]
    rfl
  rw [ht]
  unfold sv
  rw [List.map_append, List.append_assoc]
  rfl
theorem heap_five (w : World) (a b c d e : Obj) : (((((w.alloc a).alloc b).alloc c).alloc d).alloc e).heap[w.heap.size]? = some a ∧ (((((w.alloc a).alloc b).alloc c).alloc d).alloc e).heap[w.heap.size + 1 + 1 + 1]? = some d ∧ (((((w.alloc a).alloc b).alloc c).alloc d).alloc e).heap[w.heap.size + 1 + 1 + 1 + 1]? = some e := by
  refine ⟨?_, ?_, ?_⟩
  · have hb : Below (w.alloc a).heap.size (w.alloc a) (((((w.alloc a).alloc b).alloc c).alloc d).alloc e) := by go_grown
    exact (hb.block w.heap.size (by simp)).trans (heap_alloc_last _ _)
  · show (((((w.heap.push a).push b).push c).push d).push e)[w.heap.size + 1 + 1 + 1]? = _
    simp [Array.getElem_push]
  · show (((((w.heap.push a).push b).push c).push d).push e)[w.heap.size + 1 + 1 + 1 + 1]? = _
    simp [Array.getElem_push]
set_option maxRecDepth 100000 in
theorem stS_run {w : World} {P k : Nat} {C : Array Value} {t : TypeId} (hC : w.heap[P]? = some (.cells C t (0, 0))) (hk : k < C.size) (x : ByteArray) : (stS (.pointer (some ⟨P, k, none⟩)) (.string x)).run Tryd.prog w = .ok () (w.setCell ⟨P, k, none⟩ (.string x)) := by
  have hc : w.cell? ⟨P, k, none⟩ = some C[k] := cell_of_heap hC (Array.getElem?_eq_getElem hk)
  have hf : w.frozen? ⟨P, k, none⟩ = false := by
    unfold World.frozen?
    rw [show (⟨P, k, none⟩ : Addr).block = P from rfl, hC]
    simp
  clear hC
  generalize C[k] = y at hc
  unfold stS
  go_simp
def TtRel (V : World) (P : Nat) (a : Ad) (i : Value) (wr : World) : Prop := ∃ k : Nat, i = .int .i64 (k : Int) ∧ k ≤ (shp a.v6).parts ∧ Ko V P wr ∧ wr.heap[P]? = some (.cells (ptR a k) 9 (0, 0))
attribute [local go_sem ↓] storeAt_s

set_option maxRecDepth 100000 in
set_option maxHeartbeats 4000000 in
theorem text_yes (W : World) (v : Bool) (h l : Nat) (hh : h < 2 ^ 64) (hl : l < 2 ^ 64) (hr : Ad.right ⟨v, h, l⟩) (hG : AG W) :
    Calls Tryd.prog 15 #[adV v h l] W fun e w' => e = .returned (.tuple #[.string ⟨(txt ⟨v, h, l⟩).toArray⟩, .int .i64 0]) ∧ Below W.heap.size W w' := by
  have H1 : Hid (∀ w, Calls Tryd.prog 17 #[adV v h l] w fun e w' => e = .returned (.bool true) ∧ w' = w.alloc (adO v h l)) := fun w => by have := right_in w v h l; rwa [decide_eq_true hr] at this
  obtain ⟨N, hN⟩ : ∃ N, (shp v).parts = N := ⟨_, rfl⟩
  obtain ⟨B, hB⟩ : ∃ B, (shp v).bits = B := ⟨_, rfl⟩
  obtain ⟨Q, hQ⟩ : ∃ Q, (shp v).base = Q := ⟨_, rfl⟩
  obtain ⟨m, hm⟩ : ∃ m, (shp v).mark = m := ⟨_, rfl⟩
  have H2 : Hid (∀ w, Calls Tryd.prog 28 #[.bool v] w fun e w' => e = .returned (.agg #[.string ⟨#[m]⟩, .int .i64 (N : Int), .int .i64 (B : Int), .int .i64 (Q : Int)]) ∧ w' = w.alloc (.cells #[.string ⟨#[m]⟩, .int .i64 (N : Int), .int .i64 (B : Int), .int .i64 (Q : Int)] 66 (0, 0))) := fun w => by
    rw [← hN, ← hB, ← hQ, ← hm]
    exact shape_in w v
  have hN8 : N = 4 ∨ N = 8 := by rw [← hN]; cases v <;> simp [shp]
  have hmk := fun W => mk_str W N (by omega)
  clear hr
  go_enter Tryd.func15, Tryd.ntmps15
  go_wp2_with fail
  refine (H1.out _).mono ?_
  rintro e w1 ⟨rfl, rfl⟩
  go_wp2_with fail
  refine (H2.out _).mono ?_
  rintro e w1 ⟨rfl, rfl⟩
  go_wp2
  clear hmk H1 H2
  obtain ⟨a, ha⟩ : ∃ a : Ad, (⟨v, h, l⟩ : Ad) = a := ⟨_, rfl⟩
  have haok : a.ok := by rw [← ha]; exact ⟨hh, hl⟩
  have hav : a.v6 = v := by rw [← ha]
  rw [← hav] at hN hB hQ hm
  have HV : Hid (∃ V P Sb, P = W.heap.size + 1 + 1 + 1 + 1 ∧ Sb = W.heap.size + 1 + 1 + 1 ∧ V = ((((W.alloc (adO v h l)).alloc (adO v h l)).alloc (.cells #[.string ⟨#[m]⟩, .int .i64 (N : Int), .int .i64 (B : Int), .int .i64 (Q : Int)] 66 (0, 0))).alloc (.cells #[.string ⟨#[m]⟩, .int .i64 (N : Int), .int .i64 (B : Int), .int .i64 (Q : Int)] 66 (0, 0))).alloc (.cells (Array.replicate N (.string ⟨#[]⟩)) 9 (0, 0))) := ⟨_, _, _, rfl, rfl, rfl⟩
  obtain ⟨V, P, Sb, hP, hSb, hV⟩ := HV.out
  rw [← hV]
  rw [← hP, ← hSb]
  have hVs : V.heap.size = W.heap.size + 5 := by rw [hV]; simp
  obtain ⟨hb1, hb2, hb3⟩ := heap_five W (adO v h l) (adO v h l) (.cells #[.string ⟨#[m]⟩, .int .i64 (N : Int), .int .i64 (B : Int), .int .i64 (Q : Int)] 66 (0, 0)) (.cells #[.string ⟨#[m]⟩, .int .i64 (N : Int), .int .i64 (B : Int), .int .i64 (Q : Int)] 66 (0, 0)) (.cells (Array.replicate N (.string ⟨#[]⟩)) 9 (0, 0))
  rw [← hV] at hb1 hb2 hb3
  rw [← hSb] at hb2
  rw [← hP] at hb3
  have hp0 : Array.replicate N (Value.string ⟨#[]⟩) = ptR a 0 := by
    unfold ptR sv
    rw [hN]
    simp
  rw [hp0] at hb3
  have HBV : Hid (Below W.heap.size W V) := by rw [hV]; unfold Hid; go_grown
  have HST : Hid (TtRel V P a (.int .i64 0) V) := ⟨0, rfl, Nat.zero_le _, Ko.refl _ _, hb3⟩
  have HS : Hid (∀ w, Ko V P w → w.cell? ⟨W.heap.size, 0, none⟩ = some (.bool v) ∧ w.cell? ⟨W.heap.size, 1, none⟩ = some (.int .u64 (h : Int)) ∧ w.cell? ⟨W.heap.size, 2, none⟩ = some (.int .u64 (l : Int)) ∧ w.cell? ⟨Sb, 0, none⟩ = some (.string ⟨#[m]⟩) ∧ w.cell? ⟨Sb, 2, none⟩ = some (.int .i64 (B : Int)) ∧ w.cell? ⟨Sb, 3, none⟩ = some (.int .i64 (Q : Int))) := fun w k => by
    have e1 := (k.same W.heap.size (by omega) (by omega)).trans hb1
    have e2 := (k.same Sb (by omega) (by omega)).trans hb2
    exact ⟨cell_of_heap e1 rfl, cell_of_heap e1 rfl, cell_of_heap e1 rfl, cell_of_heap e2 rfl, cell_of_heap e2 rfl, cell_of_heap e2 rfl⟩
  have HP : Hid (∀ w (k : Nat), k < N → Calls Tryd.prog 30 #[adV v h l, .int .i64 ((k * B : Nat) : Int), .int .i64 (B : Int)] w fun e w' => e = .returned (.int .u64 ((prt a k : Nat) : Int)) ∧ Below w.heap.size w w') := fun w k hk => by
    have hB16 : (shp a.v6).bits ≤ 16 := by cases a.v6 <;> decide
    have hle : k * B + B ≤ a.wd := by
      have := sh_total a
      rw [hB, hN] at this
      have : (k + 1) * B ≤ N * B := Nat.mul_le_mul_right B hk
      rw [Nat.add_mul] at this
      rw [Nat.mul_comm] at *
      omega
    have := piece_in w v h l (k * B) B hh hl (by rw [ha]; exact hle) (by omega)
    rw [ha] at this
    have hp := pcs_prt haok (i := k) (by omega)
    rw [hB] at hp
    rwa [hp] at this
  have HF : Hid (∀ w (k : Nat), Below W.heap.size W w → Calls Tryd.prog 29 #[.int .u64 ((prt a k : Nat) : Int), .int .i64 (Q : Int)] w fun e w' => e = .returned (.string ⟨((shp a.v6).num (prt a k)).toArray⟩) ∧ Below w.heap.size w w') := fun w k hb => by
    have := fu_in a.v6 (prt a k) (prt_lt a k) w (hG.below hb)
    rwa [hQ] at this
  have HWP : Hid (W.heap.size ≤ P) := by unfold Hid; omega
  clear hb1 hb2 hb3 hV hP hSb hh hl HV hG haok
  go_loopw [18] (fun i wr => TtRel V P a i wr) (fun i _ => N + 1 - (intOf i).toNat)
  case atStart => exact HST.out
  case round =>
    obtain ⟨k, rfl, hk, K, hbx⟩ := hrel
    rw [hN] at hk
    have hs0 := HS.out _ K
    by_cases hlt : k < N
    · have hwm : IntKind.i64.wrap ((k : Int) * (B : Int)) = ((k * B : Nat) : Int) := by
        rw [← Int.natCast_mul, wrapI (by omega) ?_]
        have hB16 : (shp a.v6).bits ≤ 16 := by cases a.v6 <;> decide
        have : k * B ≤ 8 * 16 := Nat.mul_le_mul (by omega) (by omega)
        omega
      have HP1 := Hid.mk (fun w => HP.out w k hlt)
      generalize k * B = M at hwm HP1
      have HF1 := Hid.mk (fun w => HF.out w k)
      have HSET := Hid.mk (ptR_set a k (by omega))
      have HNX : Hid (∀ w3, Kp wr w3 → TtRel V P a (.int .i64 ((k : Int) + 1)) (w3.setCell ⟨P, k, none⟩ (.string ⟨((shp a.v6).num (prt a k)).toArray⟩))) := fun w3 k3 => by
        have hP : P < wr.heap.size := (Array.getElem?_eq_some_iff.1 hbx).1
        refine ⟨k + 1, by go_num, by omega, (K.blk k3).set _ _, ?_⟩
        have : (w3.setCell ⟨P, k, none⟩ (.string ⟨((shp a.v6).num (prt a k)).toArray⟩)).heap[P]? = some (.cells ((ptR a k).setIfInBounds k (.string ⟨((shp a.v6).num (prt a k)).toArray⟩)) 9 (0, 0)) := by
          have h3 := (Below.block k3 P hP).trans hbx
          simp only [World.setCell, Array.getElem?_modify, if_true, h3]
          rfl
        rw [this, HSET.out]
      have HS2 : Hid (∀ w, Ko V P w ∧ (∃ C : Array Value, w.heap[P]? = some (.cells C 9 (0, 0)) ∧ C.size = N) → (Ko V P w ∧ (∃ C : Array Value, w.heap[P]? = some (.cells C 9 (0, 0)) ∧ C.size = N)) ∧ w.cell? ⟨W.heap.size, 0, none⟩ = some (.bool v) ∧ w.cell? ⟨W.heap.size, 1, none⟩ = some (.int .u64 (h : Int)) ∧ w.cell? ⟨W.heap.size, 2, none⟩ = some (.int .u64 (l : Int)) ∧ w.cell? ⟨Sb, 2, none⟩ = some (.int .i64 (B : Int)) ∧ w.cell? ⟨Sb, 3, none⟩ = some (.int .i64 (Q : Int)) ∧ (∀ x, (stS (.pointer (some ⟨P, k, none⟩)) (.string x)).run Tryd.prog w = .ok () (w.setCell ⟨P, k, none⟩ (.string x)))) := fun w kk => by
        have hs := HS.out w kk.1
        refine ⟨kk, hs.1, hs.2.1, hs.2.2.1, hs.2.2.2.2.1, hs.2.2.2.2.2, fun x => ?_⟩
        obtain ⟨C, hC, hCs⟩ := kk.2
        exact stS_run hC (by omega) x
      have HK2 : Hid (∀ w, Kp wr w → Ko V P w ∧ (∃ C : Array Value, w.heap[P]? = some (.cells C 9 (0, 0)) ∧ C.size = N)) := fun w kk => by
        have hP : P < wr.heap.size := (Array.getElem?_eq_some_iff.1 hbx).1
        exact ⟨K.blk kk, _, (Below.block kk P hP).trans hbx, by rw [ptR_size a k (by omega), hN]⟩
      have HBW : Hid (∀ w, Kp wr w → Below W.heap.size W w) := fun w kk => (K.blk kk).bel HBV.out HWP.out
      have HQ2 : Hid (∀ (w : World) (x : Value), Ko V P w ∧ (∃ C : Array Value, w.heap[P]? = some (.cells C 9 (0, 0)) ∧ C.size = N) → Ko V P (w.setCell ⟨P, k, none⟩ x) ∧ (∃ C : Array Value, (w.setCell ⟨P, k, none⟩ x).heap[P]? = some (.cells C 9 (0, 0)) ∧ C.size = N)) := fun w x kk => by
        obtain ⟨C, hC, hCs⟩ := kk.2
        refine ⟨kk.1.set _ _, C.setIfInBounds k x, ?_, by simpa using hCs⟩
        simp only [World.setCell, Array.getElem?_modify, if_true, hC]
        rfl
      have Kw := Kp.refl wr
      have hlen : (k : Int) < (N : Int) := by omega
      generalize ((shp a.v6).num (prt a k)) = RS at HF1 HNX
      generalize prt a k = PR at HP1 HF1
      clear HSET hbx K HS HP HF
      go_upto_region 8 with fail
      have hS0 := HS2.out _ (HK2.out _ Kw)
      go_region_held3 (fun w => (Ko V P w ∧ (∃ C : Array Value, w.heap[P]? = some (.cells C 9 (0, 0)) ∧ C.size = N)) ∧ w.cell? ⟨W.heap.size, 0, none⟩ = some (.bool v) ∧ w.cell? ⟨W.heap.size, 1, none⟩ = some (.int .u64 (h : Int)) ∧ w.cell? ⟨W.heap.size, 2, none⟩ = some (.int .u64 (l : Int)) ∧ w.cell? ⟨Sb, 2, none⟩ = some (.int .i64 (B : Int)) ∧ w.cell? ⟨Sb, 3, none⟩ = some (.int .i64 (Q : Int)) ∧ (∀ x, (stS (.pointer (some ⟨P, k, none⟩)) (.string x)).run Tryd.prog w = .ok () (w.setCell ⟨P, k, none⟩ (.string x))))
        (first | assumption | (apply HS2.out; first | (apply HK2.out; (repeat (first | assumption | apply Kp.drew)); done) | (apply HQ2.out; apply HK2.out; (repeat (first | assumption | apply Kp.drew)); done)))
        (first
        | (go_at_call 30; refine (HP1.out _).mono ?_; rintro e w2 ⟨rfl, hb2⟩; have K2 := Kp.blk (V := wr) (by repeat (first | assumption | apply Kp.drew)) hb2; have hs2 := HS2.out _ (HK2.out _ K2))
        | (go_at_call 29; refine (HF1.out _ (HBW.out _ (by repeat (first | assumption | apply Kp.drew)))).mono ?_; rintro e w3 ⟨rfl, hb3⟩; have K3 := Kp.blk (V := wr) (by repeat (first | assumption | apply Kp.drew)) hb3; have hs3 := HS2.out _ (HK2.out _ K3)))
      go_wp2
      exact ⟨HNX.out _ K3, by simp [intOf]; omega⟩
    · obtain rfl : k = N := by omega
      have HJ : Hid (Calls Tryd.prog 31 #[.slice (some ⟨P, 0, none⟩) k k, .string ⟨#[m]⟩] wr fun e w' => e = .returned (.string ⟨(txt a).toArray⟩) ∧ Below wr.heap.size wr w') := by
        have hP : P < wr.heap.size := (Array.getElem?_eq_some_iff.1 hbx).1
        have hpl := pts_len a
        have := Tryd.strings_Join P 0 k ((pts a).map fun x => ⟨x.toArray⟩) ⟨#[m]⟩ wr (fun j x hx => ?_) hP (by simp; omega) (by simp; omega) ?_
        · rw [List.length_map, hpl, hN] at this
          have e1 : ((pts a).map fun x => (⟨x.toArray⟩ : ByteArray)).map (·.data.toList) = pts a := by rw [List.map_map]; exact List.map_id'' (fun x => rfl) _
          rw [e1] at this
          have e2 : txt a = Lib.join (pts a) [m] := by unfold txt; rw [hm]
          rw [e2]
          exact this
        · refine cell_of_heap hbx ?_
          unfold ptR sv
          rw [List.take_of_length_le (by omega), Nat.zero_add, List.getElem?_toArray, hN, Nat.sub_self]
          simp only [List.replicate_zero, List.append_nil]
          rw [List.getElem?_map] at hx ⊢
          cases hpj : (pts a)[j]? with
          | none => rw [hpj] at hx; cases hx
          | some y => rw [hpj] at hx; cases hx; rfl
        · have e1 : ((pts a).map fun x => (⟨x.toArray⟩ : ByteArray)).map (·.data.toList) = pts a := by rw [List.map_map]; exact List.map_id'' (fun x => rfl) _
          rw [e1]
          have h1 := txt_le a
          have e2 : txt a = Lib.join (pts a) [m] := by unfold txt; rw [hm]
          rw [e2] at h1
          show (Lib.join (pts a) [m]).length ≤ _
          omega
      go_wp2_with fail
      refine HJ.out.mono ?_
      rintro e w2 ⟨rfl, hb2⟩
      go_wp2
      go_ret2
      exact ⟨by rw [ha]; rfl, (K.blk hb2).bel HBV.out HWP.out⟩
/-- how any address is told. -/
theorem text_in (W : World) (v : Bool) (h l : Nat) (hh : h < 2 ^ 64) (hl : l < 2 ^ 64) (hG : AG W) :
    Calls Tryd.prog 15 #[adV v h l] W fun e w' => e = .returned (if Ad.right ⟨v, h, l⟩ then .tuple #[.string ⟨(txt ⟨v, h, l⟩).toArray⟩, .int .i64 0] else .tuple #[.string ⟨#[]⟩, .int .i64 1]) ∧ Below W.heap.size W w' := by
  by_cases hr : Ad.right ⟨v, h, l⟩
  · rw [if_pos hr]; exact text_yes W v h l hh hl hr hG
  · rw [if_neg hr]; exact text_no W v h l hr
end Go.Proofs.YtpognbkdafnfjaaDoor
