/- Layer 11: TableKeeps. -/
import Derived.Test.YtcebljcofkohiaaTbKeepF
namespace Go.Proofs.Ytcebljcofkohiaa
set_option linter.unusedVariables false
open Go.RowKit

theorem TabK.drew {W w : World} {T : Nat} {most : Int} {n : Nat} {l : KV} (h : TabK W w T most n l) : TabK W w.drew T most n l := h.blk (Below.refl _ _).drew
theorem toList_ne {a b : ByteArray} (h : ¬ a = b) : ¬ a.toList = b.toList := fun e => h (by
  rw [ByteArray.toList_eq, ByteArray.toList_eq] at e
  cases a; cases b
  simp at e
  rw [e])
theorem getD_at (ls : List ByteArray) (j : Nat) (hj : j < ls.length) : ls.getD j ⟨#[]⟩ = ls[j] := by simp [hj]
theorem getD_past (ls : List ByteArray) (j : Nat) (hj : ls.length ≤ j) : ls.getD j ⟨#[]⟩ = ⟨#[]⟩ := by simp [hj]
theorem Given.at {w W : World} {a0 : Option Addr} {ls : List ByteArray} (h : Given w a0 ls) (hB : Below w.heap.size w W) (j : Nat) (hj : j < ls.length) : ∃ b off, a0 = some ⟨b, off, none⟩ ∧ W.cell? ⟨b, off + j, none⟩ = some (.string (ls.getD j ⟨#[]⟩)) := by
  obtain ⟨b, off, h1, _, h3⟩ := h.to hB j hj
  refine ⟨b, off, h1, ?_⟩
  rw [h3, getD_at _ _ hj]

set_option maxRecDepth 100000 in
set_option maxHeartbeats 4000000 in
theorem keeps_walk (c : Int) (hc : (Lit.int .i64 c).wf = true) (a : Option Addr) (cap : Nat) (ls : List ByteArray) (hw : ls.length * 16 ≤ 140737488355328) (hmax : ∀ l ∈ ls, l.size ≤ maxLen) (W : World) (hg : Given W a ls) :
    Calls Try.prog 4 #[.int .i64 c, .slice a ls.length cap] W fun e w' => e = .returned (.bool true) ∧ Below W.heap.size W w' := by
  have hcb := Go.bounds_i64 hc
  have hgd : ∀ j, (ls.getD j ⟨#[]⟩).size ≤ maxLen := fun j => by
    by_cases hj : j < ls.length
    · rw [getD_at _ _ hj]; exact hmax _ (List.getElem_mem hj)
    · rw [getD_past _ _ (by omega)]; exact Nat.zero_le _
  clear hmax hc
  obtain ⟨n, hn⟩ : ∃ n, ls.length = n := ⟨_, rfl⟩
  rw [hn] at hw ⊢
  have HN := Hid.mk hn
  clear hn
  have HP := Hid.mk (pick_in · c 50 (by omega) (by decide) (by decide))
  have hp0 := pickR_ge c 50
  have hp1 := pickR_lt c 50 (by decide)
  obtain ⟨p, hp⟩ : ∃ p : Nat, pickR c 50 = (p : Int) := ⟨(pickR c 50).toNat, by omega⟩
  rw [hp] at hp0 hp1
  have HQ := Hid.mk hp
  clear hp hcb
  go_enter Try.func4, Try.ntmps4
  go_wp2_with fail
  refine (examples_in W).mono ?_
  rintro e w0 ⟨rfl, b0⟩
  go_wp2_with fail
  refine (HP.out w0).mono ?_
  rintro e w1 ⟨rfl, rfl⟩
  rw [HQ.out]
  have hm : (1 : Int) + (p : Int) = ((p + 1 : Nat) : Int) := by omega
  have HM := Hid.mk hm
  clear hm
  go_wp2_with fail
  rw [HM.out]
  obtain ⟨m, hm⟩ : ∃ m, p + 1 = m := ⟨_, rfl⟩
  have hm1 : 1 ≤ m := by omega
  have hm2 : m ≤ 50 := by omega
  rw [hm]
  clear hm HM hp0 hp1 HQ HP
  refine (new_kv w1 (m : Int) (by omega) (by omega)).mono ?_
  rintro e w2 ⟨rfl, t2, -⟩
  obtain ⟨T, hT⟩ : ∃ T, w1.heap.size + 3 = T := ⟨_, rfl⟩
  rw [hT] at t2 ⊢
  clear hT
  have hg1 := hg.below b0
  clear hg
  go_wp2
  go_loopw [8] (fun i wr => ∃ k : Nat, k ≤ n ∧ i = .int .i64 (k : Int) ∧ TabK w1 wr T (m : Int) k ((la ls k).take m)) (fun i _ => n - (intOf i).toNat)
  case atStart => exact ⟨0, Nat.zero_le _, rfl, by simpa [la] using t2⟩
  case round =>
    obtain ⟨k, hk, rfl, t⟩ := hrel
    by_cases hlt : k < n
    · obtain ⟨b, off, rfl, hcell⟩ := hg1.at t.bel k (by rw [HN.out]; exact hlt)
      have HPut := Hid.mk (put_kv t (ls.getD k ⟨#[]⟩) (k : Int) (by rw [List.length_take]; omega) hm1 (by omega) (hgd k) (by unfold maxLen; omega))
      obtain ⟨s, hs⟩ : ∃ s, ls.getD k ⟨#[]⟩ = s := ⟨_, rfl⟩
      rw [hs] at hcell HPut
      have HS := Hid.mk hs
      clear hs t
      go_wp2_with fail
      refine HPut.out.mono ?_
      rintro e w3 ⟨rfl, t3, -⟩
      have ht3 : TabK w1 w3 T (m : Int) (k + 1) ((la ls (k + 1)).take m) := by
        rw [← put_la ls m k hm1, HS.out]; exact t3
      have HL := Hid.mk (len_kv ht3)
      obtain ⟨q, hq⟩ : ∃ q, ((la ls (k + 1)).take m).length = q := ⟨_, rfl⟩
      have hqm : ¬ (m : Int) < (q : Int) := by rw [← hq, List.length_take]; omega
      rw [hq] at HL
      have HT := Hid.mk ht3
      clear hq t3 ht3
      go_wp2_with fail
      refine HL.out.mono ?_
      rintro e w4 ⟨rfl, rfl⟩
      go_wp2
      go_roundw
      case rel => exact ⟨k + 1, hlt, by go_num, HT.out⟩
      case measure => simp [intOf]; omega
    · obtain rfl : k = n := by omega
      clear hlt hk t2
      go_wp2
      go_loopw [9, 10] (fun s i wr => ∃ r : Nat, r ≤ k ∧ i = .int .i64 ((r : Int) - 1) ∧ s = .int .i64 ((seenN ls k (k - r) : Nat) : Int) ∧ seenN ls k (k - r) ≤ m ∧ TabK w1 wr T (m : Int) k ((la ls k).take m)) (fun _ i _ => (intOf i + 1).toNat)
      case atStart => exact ⟨k, Nat.le_refl _, by go_num, by simp [seenN], by simp [seenN], t⟩
      case round =>
        obtain ⟨r, hr, rfl, rfl, hsm, t3⟩ := hrel
        obtain ⟨q, hq⟩ : ∃ q, seenN ls k (k - r) = q := ⟨_, rfl⟩
        rw [hq] at hsm ⊢
        have HQ := Hid.mk hq
        clear hq
        by_cases hgo : 1 ≤ r ∧ q < m
        · obtain ⟨r, rfl⟩ : ∃ r', r = r' + 1 := ⟨r - 1, by omega⟩
          obtain ⟨hr0, hqm⟩ := hgo
          have ei : ((r + 1 : Nat) : Int) - 1 = (r : Int) := by omega
          rw [ei]
          clear ei hr0
          go_wp2
          go_loopw [11, 12] (fun lt j wr => ∃ x : Nat, r < x ∧ x ≤ k ∧ j = .int .i64 (x : Int) ∧ lt = .bool (laterB ls r x) ∧ TabK w1 wr T (m : Int) k ((la ls k).take m)) (fun _ j _ => k - (intOf j).toNat)
          case atStart => exact ⟨r + 1, by omega, hr, by go_num, by rw [later_start], t3⟩
          case round =>
            obtain ⟨x, hx1, hx2, rfl, rfl, t4⟩ := hrel
            by_cases hxk : x < k
            · obtain ⟨b, off, rfl, hcx⟩ := hg1.at t4.bel x (by rw [HN.out]; exact hxk)
              obtain ⟨b', off', e', hcr⟩ := hg1.at t4.bel r (by rw [HN.out]; omega)
              cases e'
              have HLs := Hid.mk (later_step ls r x hx1)
              obtain ⟨sx, hsx⟩ : ∃ s, ls.getD x ⟨#[]⟩ = s := ⟨_, rfl⟩
              obtain ⟨sr, hsr⟩ : ∃ s, ls.getD r ⟨#[]⟩ = s := ⟨_, rfl⟩
              rw [hsx] at hcx HLs
              rw [hsr] at hcr HLs
              have HX := Hid.mk (And.intro hx1 hxk)
              have hrk : r < k := by omega
              clear hsx hsr hx1 hx2 hr
              have HT4 := Hid.mk t4.drew
              clear t4
              cases hl : laterB ls r x with
              | true =>
                rw [hl, Bool.true_or] at HLs
                clear hl
                go_wp2
                go_region
                go_wp2
                go_roundw
                case rel => exact ⟨x + 1, Nat.lt_succ_of_lt HX.out.1, HX.out.2, by go_num, by rw [HLs.out], HT4.out⟩
                case measure => simp [intOf]; omega
              | false =>
                rw [hl, Bool.false_or] at HLs
                clear hl
                by_cases hE : sx = sr
                · subst hE
                  rw [decide_eq_true rfl] at HLs
                  go_wp2
                  go_region
                  go_wp2
                  go_roundw
                  case rel => exact ⟨x + 1, Nat.lt_succ_of_lt HX.out.1, HX.out.2, by go_num, by rw [HLs.out], HT4.out⟩
                  case measure => simp [intOf]; omega
                · rw [decide_eq_false hE] at HLs
                  have hE2 := toList_ne hE
                  go_wp2
                  go_region
                  go_wp2
                  go_roundw
                  case rel => exact ⟨x + 1, Nat.lt_succ_of_lt HX.out.1, HX.out.2, by go_num, by rw [HLs.out]; exact congrArg Value.bool (beq_eq_false_iff_ne.2 hE2), HT4.out⟩
                  case measure => simp [intOf]; omega
            · obtain rfl : x = k := by omega
              have HST := Hid.mk (seen_step ls x (x - (r + 1)) (by omega))
              rw [show x - 1 - (x - (r + 1)) = r by omega, show x - (r + 1) + 1 = x - r by omega, HQ.out] at HST
              have HLL := Hid.mk (later_last ls r x)
              cases hl : laterB ls r x with
              | true =>
                have hla : lastB ls x r = false := by have := HLL.out; rw [hl] at this; simpa using this
                rw [hla] at HST
                have HR := Hid.mk hr
                clear hl hla hxk hx1 hx2
                go_wp2
                go_roundw
                case rel => exact ⟨r, by have := HR.out; omega, by go_num, by rw [HST.out]; rfl, by rw [HST.out]; simpa using hsm, t4⟩
                case measure => simp [intOf]
              | false =>
                have hla : lastB ls x r = true := by have := HLL.out; rw [hl] at this; simpa using this
                rw [hla] at HST
                have hmem := seen_mem ls x (x - (r + 1)) m (by omega) (by rw [show x - 1 - (x - (r + 1)) = r by omega]; exact hla) (by rw [HQ.out]; exact hqm)
                rw [show x - 1 - (x - (r + 1)) = r by omega] at hmem
                have hget := getR_mem (List.Sublist.nodup (List.Sublist.map _ (List.take_sublist _ _)) (la_nodup ls x)) hmem
                obtain ⟨b, off, rfl, hcr⟩ := hg1.at t4.bel r (by rw [HN.out]; omega)
                have HLook := Hid.mk (look_kv t4 (ls.getD r ⟨#[]⟩) (hgd r))
                rw [hget] at HLook
                obtain ⟨sr, hsr⟩ : ∃ s, ls.getD r ⟨#[]⟩ = s := ⟨_, rfl⟩
                rw [hsr] at hcr HLook
                have HR := Hid.mk hr
                have hrx : r < x := by omega
                clear hsr hget hmem hl hla hxk hx1 hx2
                go_wp2_with fail
                refine HLook.out.mono ?_
                rintro e w5 ⟨rfl, b5⟩
                have HT5 := Hid.mk (t4.blk b5)
                clear t4
                simp only [Option.getD_some, Option.isSome_some]
                go_wp2
                go_roundw
                case rel => exact ⟨r, by have := HR.out; omega, by go_num, by rw [HST.out]; go_num, by rw [HST.out]; simp; omega, HT5.out⟩
                case measure => simp [intOf]
        · have HL := Hid.mk (len_kv t3)
          have hlen : ((la ls k).take m).length = q := by
            rw [List.length_take]
            have h1 := seen_le ls k (k - r)
            rw [HQ.out] at h1
            by_cases h0 : r = 0
            · subst h0
              have h2 := seen_all ls k
              have h3 := HQ.out
              rw [Nat.sub_zero] at h3
              omega
            · omega
          rw [hlen] at HL
          have HB := Hid.mk t3.bel
          clear t3 hlen
          have hor : ¬ (0 ≤ (r : Int) - 1) ∨ (0 ≤ (r : Int) - 1) ∧ ¬ (q : Int) < (m : Int) := by omega
          rcases hor with h1 | ⟨h1, h2⟩
          · go_wp2_with fail
            refine HL.out.mono ?_
            rintro e w5 ⟨rfl, rfl⟩
            go_wp2
            go_ret
            exact ⟨rfl, b0.trans (HB.out.mono b0.size)⟩
          · go_wp2_with fail
            refine HL.out.mono ?_
            rintro e w5 ⟨rfl, rfl⟩
            go_wp2
            go_ret
            exact ⟨rfl, b0.trans (HB.out.mono b0.size)⟩

end Go.Proofs.Ytcebljcofkohiaa
