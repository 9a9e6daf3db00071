/- Texts of this proof, joined: RefLabels, UCased, URefLower, URefUnder, LeA, LeF. -/
import Derived.Test.YtdlcldjlfhmlgaaGreatDoorJ1
import Derived.Test.YtdlcldjlfhmlgaaGreatDoorJ2
import Derived.Lib.ConvBytes
import Derived.Deep.RegionWith
import Derived.Test.YtdlcldjlfhmlgaaGreatDoorJ3
import Derived.Test.YtdlcldjlfhmlgaaGreatDoorJ10
import Derived.Test.YtdlcldjlfhmlgaaGreatDoorJ19
set_option linter.unusedVariables false
set_option linter.unusedSimpArgs false
/- The document's own Labels and Right (guidepostref01). -/
namespace Go.Proofs.YtdlcldjlfhmlgaaGreatDoor
open Go.RowKit
theorem name_next {ls p : List (List UInt8)} (ho : OkN ls) (h : Seq (nm ls) p) : (flat p).length < (nm ls).size ∧
  ∀ hlt : (flat p).length < (nm ls).size, (p = ls ∧ (nm ls)[(flat p).length] = 0 ∧ (flat p).length + 1 = (nm ls).size) ∨
   (∃ m q, ls = p ++ m :: q ∧ (nm ls)[(flat p).length].toNat = m.length ∧ 1 ≤ m.length ∧ m.length ≤ 63 ∧ (flat p).length + 1 + m.length < (nm ls).size) := by
 obtain ⟨q, hq⟩ := h.of_name ho
 have hfl : flat ls = flat p ++ flat q := by rw [← hq, flat_append]
 refine ⟨by rw [nm_size, hfl, List.length_append]; omega, fun hlt => ?_⟩
 cases q with
 | nil =>
  left
  rw [List.append_nil] at hq
  subst hq
  exact ⟨rfl, nm_get_end p hlt, by rw [nm_size]⟩
 | cons m q =>
  right
  have hm := ho.lab m (by rw [← hq]; simp)
  have hc : (nm ls)[(flat p).length] = UInt8.ofNat m.length := by
   rw [← getElem_list _ _ hlt]
   simp [nm_list, nmL, hfl, flat]
  refine ⟨m, q, hq.symm, ?_, hm.1, hm.2, ?_⟩
  ·rw [hc]; simp; omega
  ·rw [nm_size, hfl, List.length_append]; simp only [flat, List.length_cons, List.length_append]; omega
theorem rLabels_long (s : ByteArray) (hm : s.size ≤ maxLen) (h : 255 < s.size) (w : World) :
  Calls Tryz.prog 63 #[.string s] w fun e w' => e = .returned (.tuple #[.slice none 0 0, .bool false]) ∧ Below w.heap.size w w' := by
 unfold maxLen at hm
 go_enter Tryz.func63, Tryz.ntmps63
 go_wp2
 go_ret2
 exact ⟨rfl, Below.refl _ _⟩
theorem strsV_snoc (ls : List (List UInt8)) (s : ByteArray) : strsV (ls ++ [s.data.toList]) = strsV ls ++ [.string s] := by simp [strsV, strV_of]
theorem rowBase {W : World} {n₀ n : Nat} {e : TypeId} {v : Value} {xs : List Value} (h : W.ownsRow n₀ e 1 v n xs) : ∀ k, v.ownBlock = some k → n₀ ≤ k := by
 intro k e
 rcases h.2 with ⟨rfl, _⟩ | ⟨g, cap, cur, rfl, hb, _⟩
 ·simp [Value.ownBlock] at e
 ·obtain rfl : g = k := by simpa [Value.ownBlock] using e
  exact hb
def RefRel (s : ByteArray) (n₀ : Nat) (w : World) (v i : Value) (wr : World) : Prop :=
 ∃ (k : Nat) (p : List (List UInt8)), i = .int .i64 k ∧ Hid (k = (flat p).length) ∧ k ≤ s.size ∧ Seq s p ∧ (∀ l ∈ p, l.length ≤ 63) ∧ wr.ownsRow n₀ 9 1 v p.length (strsV p) ∧ p.length ≤ 127 ∧ Below n₀ w wr
theorem seq_count {s : ByteArray} {p : List (List UInt8)} (h : Seq s p) (hs : s.size ≤ 255) : p.length ≤ 127 := by
 have h1 := flat_count p (fun l hl => (h.lab l hl).1)
 have h2 := h.le
 omega
set_option maxRecDepth 100000 in
set_option maxHeartbeats 2000000 in
theorem rLabels_no (s : ByteArray) (h : s.size ≤ 255) (hn : ¬ IsName s) (w : World) :
  Calls Tryz.prog 63 #[.string s] w fun e w' => e = .returned (.tuple #[.slice none 0 0, .bool false]) ∧ Below w.heap.size w w' := by
 obtain ⟨i0, hi, hz0, hz1, hz2⟩ := info_parts info9
 have hb255 : decide (255 < (s.size : Int)) = false := by simp; omega
 go_enter Tryz.func63, Tryz.ntmps63
 go_wp2
 go_loopw [4, 5] (fun v i wr => RefRel s w.heap.size w v i wr) (fun _ i _ => s.size - (intOf i).toNat)
 case atStart => exact ⟨0, [], rfl, rfl, Nat.zero_le _, Seq.nil s, by simp, World.ownsRow_nil .., by simp, Below.refl _ _⟩
 case round =>
  obtain ⟨k, p, rfl, hk, hle, hsq, h63, hrow, hct, hbl⟩ := hrel
  have hsize := hbl.size
  by_cases hlt : k < s.size
  ·have hu := s[k].toNat_lt
   by_cases hz : s[k].toNat = 0
   ·have hzb : ((s[k].toNat : Int) == 0) = true := by rw [hz]; rfl
    have hne : ((k : Int) == (s.size : Int) - 1) = false := by
     rw [beq_eq_false_iff_ne]
     intro e
     refine hn ⟨p, (hsq.is_name h63 h ?_ (fun l hl => (hsq.lab l hl).1))⟩
     have e2 : s.data.toList = s.data.toList.take k ++ s.data.toList.drop k := (List.take_append_drop k _).symm
     have e3 : s.data.toList.take k = flat p := by
      have := List.prefix_iff_eq_take.1 hsq.pre; rw [hk.out]; exact this.symm
     have e4 : s.data.toList.drop k = [s[k]] := by
      rw [List.drop_eq_getElem_cons (by rw [size_list]; exact hlt), List.drop_of_length_le (by rw [size_list]; omega)]; rfl
     have e5 : s[k] = 0 := UInt8.toNat_inj.1 (by rw [hz]; rfl)
     rw [e2, e3, e4, e5]
    clear hz hk
    go_wp2
    go_ret2
    exact ⟨rfl, hbl⟩
   ·have hzb : ((s[k].toNat : Int) == 0) = false := by rw [beq_eq_false_iff_ne]; omega
    by_cases hbig : 63 < s[k].toNat
    ·clear hk
     go_wp2
     go_ret2
     exact ⟨rfl, hbl⟩
    ·by_cases hfit : k + 1 + s[k].toNat ≤ s.size
     ·have hne0 : s[k] ≠ 0 := fun e => hz (by rw [e]; rfl)
      have HS := Hid.mk (Seq.snoc hsq hk.out hlt hne0 hfit)
      have HL := Hid.mk (Seq.snoc_len hk.out hlt hfit)
      have hsx : (s.extract (k + 1) (k + 1 + s[k].toNat)).size = s[k].toNat := HS.out.2
      have HX := Hid.mk hsx
      clear hne0 hsx hk
      go_wp2_with (at_builtin; refine wpList_append_own _ rfl _ _ 42 rfl w.heap.size 9 i0 (.string ⟨#[]⟩) 1 16 Tryz.underlying42 hi hz0 hz1 hz2 rfl (by decide) _ _ _ rfl (hrow.alloc _) ⟨wr.heap.size, 0, none⟩ 1 1 [.string (s.extract (k + 1) (k + 1 + s[k].toNat))] rfl rfl (cell_one_new _ _ _) (by simp [Value.oneCell']) (by unfold maxLen; omega) (by omega) (by simp; omega) ?_; intro v1 w1 hown1 hgrow1 _)
      go_roundw
      case rel =>
       refine ⟨k + 1 + s[k].toNat, p ++ [(s.extract (k + 1) (k + 1 + s[k].toNat)).data.toList], by go_num, HL.out.symm, hfit, HS.out.1, ?_, ?_, seq_count HS.out.1 h, ?_⟩
       ·intro l hl
        rcases List.mem_append.1 hl with h' | h'
        ·exact h63 l h'
        ·simp only [List.mem_singleton] at h'; subst h'; rw [size_list, HX.out]; omega
       ·rw [List.length_append, strsV_snoc]; exact hown1
       ·exact (hbl.alloc hsize _).grown hgrow1 (by simp; omega) (rowBase hrow)
      case measure => simp [intOf]; omega
     ·have hfit' : s.size < k + 1 + s[k].toNat := by omega
      have hbig' : s[k].toNat ≤ 63 := by omega
      clear hfit hbig hk
      go_wp2
      go_ret2
      exact ⟨rfl, hbl⟩
  ·clear hk
   go_wp2
   go_ret2
   exact ⟨rfl, hbl⟩
set_option maxRecDepth 100000 in
set_option maxHeartbeats 2000000 in
theorem rLabels_own (ls : List (List UInt8)) (ho : OkN ls) (w : World) :
  Calls Tryz.prog 63 #[.string (nm ls)] w fun e w' => (∃ v, e = .returned (.tuple #[v, .bool true]) ∧ w'.ownsRow w.heap.size 9 1 v ls.length (strsV ls)) ∧ Below w.heap.size w w' := by
 have h : (nm ls).size ≤ 255 := by rw [nm_size]; have := ho.len; omega
 obtain ⟨s, hs⟩ : ∃ s, nm ls = s := ⟨_, rfl⟩
 have hnx := fun p => name_next (p := p) ho
 rw [hs] at h hnx ⊢
 have HNX := Hid.mk hnx
 clear hnx
 obtain ⟨i0, hi, hz0, hz1, hz2⟩ := info_parts info9
 have hb255 : decide (255 < (s.size : Int)) = false := by simp; omega
 go_enter Tryz.func63, Tryz.ntmps63
 go_wp2
 go_loopw [4, 5] (fun v i wr => RefRel s w.heap.size w v i wr) (fun _ i _ => s.size - (intOf i).toNat)
 case atStart => exact ⟨0, [], rfl, rfl, Nat.zero_le _, Seq.nil s, by simp, World.ownsRow_nil .., by simp, Below.refl _ _⟩
 case round =>
  obtain ⟨k, p, rfl, hk, hle, hsq, h63, hrow, hct, hbl⟩ := hrel
  have hsize := hbl.size
  obtain ⟨hlt, hcase⟩ := HNX.out p hsq
  have hc' := hcase hlt
  have hkk := hk.out
  have hlt' : k < s.size := by rw [hkk]; exact hlt
  have hge : s[(flat p).length]'hlt = s[k] := by simp only [hkk]
  rw [hge, ← hkk] at hc'
  clear hcase hlt hkk hge
  have hu := s[k].toNat_lt
  rcases hc' with ⟨hp, hz, hend⟩ | ⟨m, q, hls, hm, hm1, hm2, hfit⟩
  ·have hzb : ((s[k].toNat : Int) == 0) = true := by rw [hz]; rfl
   have hne : ((k : Int) == (s.size : Int) - 1) = true := by rw [beq_iff_eq]; omega
   have HP := Hid.mk hp
   clear hp hz hk
   go_wp2
   go_ret2
   refine ⟨⟨_, rfl, ?_⟩, hbl⟩
   rw [← HP.out]; exact hrow
  ·have hzb : ((s[k].toNat : Int) == 0) = false := by rw [beq_eq_false_iff_ne]; omega
   have hbig : s[k].toNat ≤ 63 := by omega
   have hfit' : k + 1 + s[k].toNat ≤ s.size := by omega
   have hne0 : s[k] ≠ 0 := fun e => by rw [e] at hm; simp at hm; omega
   have HS := Hid.mk (Seq.snoc hsq hk.out hlt' hne0 hfit')
   have HL := Hid.mk (Seq.snoc_len hk.out hlt' hfit')
   have hsx : (s.extract (k + 1) (k + 1 + s[k].toNat)).size = s[k].toNat := HS.out.2
   have HX := Hid.mk hsx
   clear hne0 hsx hk hm hls hfit
   go_wp2_with (at_builtin; refine wpList_append_own _ rfl _ _ 42 rfl w.heap.size 9 i0 (.string ⟨#[]⟩) 1 16 Tryz.underlying42 hi hz0 hz1 hz2 rfl (by decide) _ _ _ rfl (hrow.alloc _) ⟨wr.heap.size, 0, none⟩ 1 1 [.string (s.extract (k + 1) (k + 1 + s[k].toNat))] rfl rfl (cell_one_new _ _ _) (by simp [Value.oneCell']) (by unfold maxLen; omega) (by omega) (by simp; omega) ?_; intro v1 w1 hown1 hgrow1 _)
   go_roundw
   case rel =>
    refine ⟨k + 1 + s[k].toNat, p ++ [(s.extract (k + 1) (k + 1 + s[k].toNat)).data.toList], by go_num, HL.out.symm, hfit', HS.out.1, ?_, ?_, seq_count HS.out.1 h, ?_⟩
    ·intro l hl
     rcases List.mem_append.1 hl with h' | h'
     ·exact h63 l h'
     ·simp only [List.mem_singleton] at h'; subst h'; rw [size_list, HX.out]; omega
    ·rw [List.length_append, strsV_snoc]; exact hown1
    ·exact (hbl.alloc hsize _).grown hgrow1 (by simp; omega) (rowBase hrow)
   case measure => simp [intOf]; omega
theorem rLabels_yes (ls : List (List UInt8)) (ho : OkN ls) (w : World) :
  Calls Tryz.prog 63 #[.string (nm ls)] w fun e w' => (∃ v, e = .returned (.tuple #[v, .bool true]) ∧ Strs w'.heap.size w' v ls) ∧ Below w.heap.size w w' :=
 (rLabels_own ls ho w).mono fun e w' ⟨⟨v, he, hr⟩, hb⟩ => ⟨⟨v, he, strs_of_row hr⟩, hb⟩
theorem rLabels_none (s : ByteArray) (hm : s.size ≤ maxLen) (hn : ¬ IsName s) (w : World) :
  Calls Tryz.prog 63 #[.string s] w fun e w' => e = .returned (.tuple #[.slice none 0 0, .bool false]) ∧ Below w.heap.size w w' := by
 by_cases h : s.size ≤ 255
 ·exact rLabels_no s h hn w
 ·exact rLabels_long s hm (by omega) w
theorem rRight_yes (ls : List (List UInt8)) (ho : OkN ls) (w : World) :
  Calls Tryz.prog 28 #[.string (nm ls)] w fun e w' => e = .returned (.bool true) ∧ Below w.heap.size w w' := by
 go_enter Tryz.func28, Tryz.ntmps28
 go_wp2_with fail
 refine (rLabels_yes ls ho _).mono ?_
 rintro e w1 ⟨⟨v, rfl, _⟩, hb1⟩
 go_wp2
 go_ret
 exact ⟨rfl, hb1⟩
theorem rRight_no (s : ByteArray) (hm : s.size ≤ maxLen) (hn : ¬ IsName s) (w : World) :
  Calls Tryz.prog 28 #[.string s] w fun e w' => e = .returned (.bool false) ∧ Below w.heap.size w w' := by
 go_enter Tryz.func28, Tryz.ntmps28
 go_wp2_with fail
 refine (rLabels_none s hm hn _).mono ?_
 rintro e w1 ⟨rfl, hb1⟩
 go_wp2
 go_ret
 exact ⟨rfl, hb1⟩
end Go.Proofs.YtdlcldjlfhmlgaaGreatDoor
/- Cased. -/
namespace Go.Proofs.YtdlcldjlfhmlgaaGreatDoor.U
set_option maxRecDepth 100000
open Go.RowKit
def isLow (b : UInt8) : Bool := decide (97 ≤ b.toNat ∧ b.toNat ≤ 122)
def cnt (l : List UInt8) : Nat := (l.filter isLow).length
def bitAt (bits k : Nat) : Bool := decide (bits / 2 ^ (k % 64) % 2 = 1)
theorem cnt_le (l : List UInt8) : cnt l ≤ l.length := List.length_filter_le _ _
theorem cnt_cons (b : UInt8) (l : List UInt8) : cnt (b :: l) = (if isLow b = true then 1 else 0) + cnt l := by
 unfold cnt
 by_cases h : isLow b = true
 ·simp [h]; omega
 ·simp [h]
theorem bytesWorld_bytes (w : World) (s : ByteArray) : BytesAt (Lib.bytesWorld w 5 s) w.heap.size s.data.toList := by
 intro j hj
 refine ⟨?_, ?_⟩
 ·rw [Lib.bytesWorld_cell w 5 s j (by rw [size_list] at hj; exact hj)]
  rw [show s.data.toList.getD j 0 = s.data.toList[j] by rw [List.getD_eq_getElem?_getD, List.getElem?_eq_getElem hj]; rfl]
 ·have hj' : j < s.size := by rw [size_list] at hj; exact hj
  have hc : s.size ≤ (Lib.bytesCells w 5 s).size := by simp [Lib.bytesCells]
  simp [World.frozen?, Lib.bytesWorld_at_new]
  omega
theorem below_bytes (w : World) (s : ByteArray) : Below w.heap.size w (Lib.bytesWorld w 5 s) :=
 ⟨rfl, rfl, rfl, by rw [Lib.bytesWorld_size]; omega, fun k hk => Lib.bytesWorld_at_old w 5 s k hk⟩
end Go.Proofs.YtdlcldjlfhmlgaaGreatDoor.U
/- The document's own small and Lower (guidepostref01). -/
namespace Go.Proofs.YtdlcldjlfhmlgaaGreatDoor.U
set_option maxRecDepth 100000
open Go.RowKit
theorem toBA (l : List UInt8) : ∃ s : ByteArray, strV l = .string s ∧ s.data.toList = l ∧ s.size = l.length := ⟨⟨l.toArray⟩, rfl, rfl, rfl⟩
set_option maxHeartbeats 1000000 in
theorem small_in (s : ByteArray) (hz : s.size ≤ 255) (w : World) :
  Calls Tryz.prog 96 #[.string s] w fun e w' => e = .returned (.string ⟨(s.data.toList.map lowB).toArray⟩) ∧ Below w.heap.size w w' := by
 have hcv := fun W : World => Lib.run_convert_string_bytes (P := Tryz.prog) W 9 143 5 s Tryz.underlying9 Tryz.underlying143 Tryz.underlying5
 go_enter Tryz.func96, Tryz.ntmps96
 go_wp2
 clear hcv
 have hby0 := bytesWorld_bytes w s
 have hbe0 := below_bytes w s
 go_loopw [4] (fun i wr => ∃ k : Nat, k ≤ s.size ∧ i = .int .i64 k ∧ BytesAt wr w.heap.size (lowTo s.data.toList k) ∧ Below w.heap.size w wr) (fun i _ => s.size - (intOf i).toNat)
 case atStart => exact ⟨0, Nat.zero_le _, rfl, by rw [lowTo_zero]; exact hby0, hbe0⟩
 case round =>
  clear hby0 hbe0
  obtain ⟨k, hk, rfl, hby, hbl⟩ := hrel
  by_cases hlt : k < s.size
  ·have hlt' : k < s.data.toList.length := by rw [size_list]; exact hlt
   have hj := hby k (by rw [lowTo_length]; exact hlt')
   rw [lowTo_get _ _ hlt'] at hj
   obtain ⟨hc, hf⟩ := hj
   have hn := (hby.set k (lowB s.data.toList[k]))
   rw [lowTo_succ _ _ hlt'] at hn
   have hsame : lowB s.data.toList[k] = s.data.toList[k] → lowTo s.data.toList (k + 1) = lowTo s.data.toList k := by
    intro e
    rw [← lowTo_succ _ _ hlt', e]
    have := lowTo_get s.data.toList k hlt'
    conv => lhs; rw [← this]
    exact List.set_getElem_self _
   have HN := Hid.mk hn
   have HS := Hid.mk hsame
   clear hn hsame
   generalize s.data.toList[k] = c at hc HN HS
   have hc8 := c.toNat_lt
   by_cases h1 : 65 ≤ c.toNat
   ·by_cases h2 : c.toNat ≤ 90
    ·have hcb : ((lowB c).toNat : Int) = (c.toNat : Int) + 32 := by rw [lowB_toNat, if_pos ⟨h1, h2⟩]; omega
     have HN1 := HN.out
     rw [hcb] at HN1
     have HN2 := Hid.mk HN1
     clear HN1 hcb
     go_wp2
     go_roundw
     case rel => exact ⟨k + 1, by omega, by go_num, HN2.out, hbl.setCell (p := ⟨w.heap.size, k, none⟩) (Nat.le_refl _) _⟩
     case measure => simp [intOf]; omega
    ·have e : lowB c = c := by unfold lowB; rw [if_neg (by omega)]
     have HE := Hid.mk (HS.out e)
     clear e
     go_wp2
     go_roundw
     case rel => exact ⟨k + 1, by omega, by go_num, by rw [HE.out]; exact hby, hbl⟩
     case measure => simp [intOf]; omega
   ·have e : lowB c = c := by unfold lowB; rw [if_neg (by omega)]
    have HE := Hid.mk (HS.out e)
    clear e
    go_wp2
    go_roundw
    case rel => exact ⟨k + 1, by omega, by go_num, by rw [HE.out]; exact hby, hbl⟩
    case measure => simp [intOf]; omega
  ·have hfin : lowTo s.data.toList k = s.data.toList.map lowB := lowTo_all _ _ (by rw [size_list]; omega)
   rw [hfin] at hby
   have hcv := run_convert_bytes_back (P := Tryz.prog) wr 143 9 5 ⟨w.heap.size, 0, none⟩ (grownCap w s.size 0 5) (s.data.toList.map lowB) Tryz.underlying143 Tryz.underlying5 Tryz.underlying9 (fun j hj => by rw [add_at]; exact (hby j hj).1)
   rw [List.length_map, size_list] at hcv
   clear hfin hby
   go_wp2
   go_ret
   exact ⟨rfl, hbl⟩
theorem rLower_no (s : ByteArray) (hm : s.size ≤ maxLen) (hn : ¬ IsName s) (w : World) :
  Calls Tryz.prog 64 #[.string s] w fun e w' => e = .returned (.string s) ∧ Below w.heap.size w w' := by
 go_enter Tryz.func64, Tryz.ntmps64
 go_wp2_with fail
 refine (rLabels_none s hm hn _).mono ?_
 rintro e w1 ⟨rfl, hb1⟩
 go_wp2
 go_ret
 exact ⟨rfl, hb1⟩
theorem flat_low_le (ls : List (List UInt8)) (k : Nat) : (flat (lowN (ls.take k))).length ≤ (flat ls).length := by
 rw [flat_low_length]
 have : flat ls = flat (ls.take k) ++ flat (ls.drop k) := by rw [← flat_append, List.take_append_drop]
 rw [this, List.length_append]; omega
set_option maxRecDepth 100000 in
set_option maxHeartbeats 4000000 in
theorem rLower_yes (ls : List (List UInt8)) (ho : OkN ls) (w : World) :
  Calls Tryz.prog 64 #[.string (nm ls)] w fun e w' => e = .returned (.string (nm (lowN ls))) ∧ Below w.heap.size w w' := by
 have hlen := ho.len
 have hcnt := ho.count
 have hmo : Tryz.prog.follows Departure.mixedOrders = true := by kernel_rfl
 go_enter Tryz.func64, Tryz.ntmps64
 go_wp2_with fail
 refine (rLabels_yes ls ho _).mono ?_
 rintro e w1 ⟨⟨v, rfl, hv⟩, hb1⟩
 obtain ⟨q, cp, hq⟩ := hv.form
 subst hq
 go_wp2
 go_loopw [5, 6] (fun sv i wr => ∃ (k : Nat) (s : ByteArray), k ≤ ls.length ∧ i = .int .i64 k ∧ sv = .string s ∧ Hid (s.data.toList = flat (lowN (ls.take k))) ∧ s.size ≤ 254 ∧ Below w1.heap.size w1 wr) (fun _ i _ => ls.length - (intOf i).toNat)
 case atStart => exact ⟨0, ⟨#[]⟩, Nat.zero_le _, rfl, rfl, rfl, by decide, Below.refl _ _⟩
 case round =>
  obtain ⟨k, s, hk, rfl, rfl, hfl, hsz, hbl⟩ := hrel
  by_cases hlt : k < ls.length
  ·obtain ⟨g, hg, hgq, hcl⟩ : ∃ g, q = some ⟨g, 0, none⟩ ∧ g < w1.heap.size ∧ w1.cell? ⟨g, k, none⟩ = some (strV ls[k]) := by
    rcases hv with ⟨_, h⟩ | ⟨g, cap, hv, hg, hc⟩
    ·rw [h] at hlt; simp at hlt
    ·cases hv; exact ⟨g, rfl, hg, hc k hlt⟩
   subst hg
   obtain ⟨t, ht1, ht2, ht3⟩ := toBA ls[k]
   have hgd := ho.lab _ (List.getElem_mem hlt)
   have hcx : wr.cell? ⟨g, k, none⟩ = some (.string t) := by rw [← ht1]; exact (hbl.cell (p := ⟨g, k, none⟩) hgq).trans hcl
   have h1 : 1 ≤ t.size := by rw [ht3]; exact hgd.1
   have h2 : t.size ≤ 63 := by rw [ht3]; exact hgd.2
   have hgw : g < wr.heap.size := Nat.lt_of_lt_of_le hgq hbl.size
   have hcv : ∀ (g' : Nat) (W : World), W.cell? ⟨g', 0, none⟩ = some (.int .u8 (t.size : Int)) → (convert 143 9 (.slice (some ⟨g', 0, none⟩) 1 1)).run Tryz.prog W = .ok (.string ⟨#[UInt8.ofNat t.size]⟩) W := fun g' W hW => by
    have := run_convert_bytes_back (P := Tryz.prog) W 143 9 5 ⟨g', 0, none⟩ 1 [UInt8.ofNat t.size] Tryz.underlying143 Tryz.underlying5 Tryz.underlying9 (fun j hj => by
     have e : j = 0 := by simpa using hj
     subst e
     rw [add_at, hW]
     simp; omega)
    simpa using this
   obtain ⟨u, hu⟩ : ∃ u : ByteArray, (⟨(t.data.toList.map lowB).toArray⟩ : ByteArray) = u := ⟨_, rfl⟩
   have hus : u.size = t.size := by rw [← hu, ba_size, List.length_map, size_list]
   have hSm := small_in t (by omega)
   rw [hu] at hSm
   have HSm := Hid.mk hSm
   have HT : Hid (flat (lowN (ls.take (k + 1))) = flat (lowN (ls.take k)) ++ (UInt8.ofNat t.size :: u.data.toList)) := by
    rw [Hid, List.take_succ_eq_append_getElem hlt]
    have : lowN (ls.take k ++ [ls[k]]) = lowN (ls.take k) ++ [ls[k].map lowB] := lowN_append _ _
    rw [this, flat_snoc, List.length_map, ← ht2, size_list, ← hu]
   have hcz : (s ++ ⟨#[UInt8.ofNat t.size]⟩ ++ u).size = s.size + 1 + u.size := by
    rw [ByteArray.size_append, ByteArray.size_append]; rfl
   have hle2 : s.size + 1 + u.size ≤ 254 := by
    have h5 := flat_low_le ls (k + 1)
    rw [HT.out, List.length_append, List.length_cons, ← hfl.out, size_list, size_list] at h5
    omega
   have HCZ := Hid.mk hcz
   have hu63 : u.size ≤ 63 := by omega
   have hw8 : IntKind.u8.wrap (t.size : Int) = (t.size : Int) := by rw [IntKind.wrap_u8]; omega
   clear ht1 ht2 ht3 hcz hu hSm hv hcl hus hgd
   go_wp2
   have hlow : ∀ W W' : World, Below wr.heap.size wr W → Below W.heap.size W W' → Below wr.heap.size wr W' ∧ W'.cell? ⟨g, k, none⟩ = some (.string t) := by
    intro W W' h1 h2
    have h3 : Below wr.heap.size wr W' := h1.trans (h2.mono h1.size)
    exact ⟨h3, (h3.cell (p := ⟨g, k, none⟩) hgw).trans hcx⟩
   have hlow2 : ∀ W' : World, Below ((wr.alloc (.cells #[.int .u8 (t.size : Int)] 5)).drew).heap.size ((wr.alloc (.cells #[.int .u8 (t.size : Int)] 5)).drew) W' → Below wr.heap.size wr W' ∧ W'.cell? ⟨g, k, none⟩ = some (.string t) ∧ W'.cell? ⟨wr.heap.size, 0, none⟩ = some (.int .u8 (t.size : Int)) := by
    intro W' h2
    obtain ⟨h3, h4⟩ := hlow _ W' (((Below.refl _ wr).alloc (Nat.le_refl _) _).drew) h2
    exact ⟨h3, h4, (h2.cell (p := ⟨wr.heap.size, 0, none⟩) (by show wr.heap.size < (wr.heap.push _).size; simp)).trans (Boxed.new wr 5 _).cell⟩
   have HL2 : Hid (∀ (G : Prop) (W' : World), Below ((wr.alloc (.cells #[.int .u8 (t.size : Int)] 5)).drew).heap.size ((wr.alloc (.cells #[.int .u8 (t.size : Int)] 5)).drew) W' → (Below wr.heap.size wr W' → W'.cell? ⟨g, k, none⟩ = some (.string t) → W'.cell? ⟨wr.heap.size, 0, none⟩ = some (.int .u8 (t.size : Int)) → G) → G) :=
    fun G W' h hG => hG (hlow2 W' h).1 (hlow2 W' h).2.1 (hlow2 W' h).2.2
   have HL1 : Hid (∀ (G : Prop) (W' : World), Below wr.drew.heap.size wr.drew W' → (Below wr.heap.size wr W' → W'.cell? ⟨g, k, none⟩ = some (.string t) → wr.heap.size ≤ W'.heap.size → G) → G) :=
    fun G W' h hG => hG (hlow _ W' ((Below.refl _ wr).drew) h).1 (hlow _ W' ((Below.refl _ wr).drew) h).2 h.size
   clear hlow hlow2
   go_region_with (go_at_call 96; refine (HSm.out _).mono ?_; rintro e w3 ⟨rfl, hb3⟩; (first | refine HL2.out _ w3 hb3 ?_ | refine HL1.out _ w3 hb3 ?_); intro hB3 hcx3 hcn3; clear hb3)
   all_goals go_wp2
   all_goals
    refine ⟨⟨k + 1, s ++ ⟨#[UInt8.ofNat t.size]⟩ ++ u, by omega, by go_num, rfl, ?_, ?_, ?_⟩, by simp [intOf]; omega⟩
    ·rw [Hid, HT.out, ← hfl.out, ByteArray.data_append, ByteArray.data_append, Array.toList_append, Array.toList_append, List.append_assoc]; rfl
    ·rw [HCZ.out]; exact hle2
    ·have hZ := hbl.trans (hB3.mono hbl.size)
     first | exact hZ | exact hZ.alloc hZ.size _ | exact (hZ.alloc hZ.size _).drew | exact hZ.drew | exact hZ.drew.alloc hZ.size _
  ·have hall : ls.take k = ls := List.take_of_length_le (by omega)
   have hR : s ++ (⟨#[0]⟩ : ByteArray) = nm (lowN ls) := by
    have hf := hfl.out
    rw [hall] at hf
    apply ba_ext
    rw [ByteArray.data_append, Array.toList_append, hf]; rfl
   have HR := Hid.mk hR
   clear hR hall hv
   go_wp2
   go_ret
   exact ⟨by rw [← HR.out]; rfl, bthen hb1 hbl⟩
theorem rEqual_yes (a b : List (List UInt8)) (ha : OkN a) (hb : OkN b) (w : World) :
  Calls Tryz.prog 29 #[.string (nm a), .string (nm b)] w fun e w' => e = .returned (.bool (eqB a b)) ∧ Below w.heap.size w w' := by
 go_enter Tryz.func29, Tryz.ntmps29
 go_wp2_with fail
 refine (rRight_yes a ha _).mono ?_
 rintro e w1 ⟨rfl, hb1⟩
 go_wp2_with fail
 refine (rRight_yes b hb _).mono ?_
 rintro e w2 ⟨rfl, hb2⟩
 go_wp2_with fail
 refine (rLower_yes a ha _).mono ?_
 rintro e w3 ⟨rfl, hb3⟩
 go_wp2_with fail
 refine (rLower_yes b hb _).mono ?_
 rintro e w4 ⟨rfl, hb4⟩
 go_wp2
 go_ret
 refine ⟨?_, bthen hb1 (bthen hb2 (bthen hb3 hb4))⟩
 show Ending.returned (.bool ((nm (lowN a)).toList == (nm (lowN b)).toList)) = _
 congr 2
 rw [eqB, Bool.eq_iff_iff, beq_iff_eq, decide_eq_true_iff, ByteArray.toList_eq, ByteArray.toList_eq]
 exact ⟨fun h => nm_inj ha.low hb.low (ba_ext h), fun h => by rw [h]⟩
theorem rEqual_no (s t : ByteArray) (hs : s.size ≤ maxLen) (ht : t.size ≤ maxLen) (h : ¬ (IsName s ∧ IsName t)) (w : World) :
  Calls Tryz.prog 29 #[.string s, .string t] w fun e w' => e = .returned (.bool false) ∧ Below w.heap.size w w' := by
 by_cases h1 : IsName s
 ·have h2 : ¬ IsName t := fun h2 => h ⟨h1, h2⟩
  obtain ⟨a, ha, rfl⟩ := h1
  go_enter Tryz.func29, Tryz.ntmps29
  go_wp2_with fail
  refine (rRight_yes a ha _).mono ?_
  rintro e w1 ⟨rfl, hb1⟩
  go_wp2_with fail
  refine (rRight_no t ht h2 _).mono ?_
  rintro e w2 ⟨rfl, hb2⟩
  go_wp2
  go_ret
  exact ⟨rfl, bthen hb1 hb2⟩
 ·by_cases h2 : IsName t
  ·obtain ⟨b, hb, rfl⟩ := h2
   go_enter Tryz.func29, Tryz.ntmps29
   go_wp2_with fail
   refine (rRight_no s hs h1 _).mono ?_
   rintro e w1 ⟨rfl, hb1⟩
   go_wp2_with fail
   refine (rRight_yes b hb _).mono ?_
   rintro e w2 ⟨rfl, hb2⟩
   go_wp2
   go_ret
   exact ⟨rfl, bthen hb1 hb2⟩
  ·go_enter Tryz.func29, Tryz.ntmps29
   go_wp2_with fail
   refine (rRight_no s hs h1 _).mono ?_
   rintro e w1 ⟨rfl, hb1⟩
   go_wp2_with fail
   refine (rRight_no t ht h2 _).mono ?_
   rintro e w2 ⟨rfl, hb2⟩
   go_wp2
   go_ret
   exact ⟨rfl, bthen hb1 hb2⟩
end Go.Proofs.YtdlcldjlfhmlgaaGreatDoor.U
/- The document's own Under (guidepostref01). -/
namespace Go.Proofs.YtdlcldjlfhmlgaaGreatDoor.U
open Go.RowKit
theorem suffix_at {A B : List (List UInt8)} (hle : B.length ≤ A.length) (h : ∀ i (hi : i < B.length), A[A.length - B.length + i]'(by omega) = B[i]) : B <:+ A := by
 have : A.drop (A.length - B.length) = B := by
  apply List.ext_getElem
  ·simp; omega
  ·intro i h1 h2
   rw [List.getElem_drop]; exact h i h2
 rw [← this]; exact List.drop_suffix _ _
theorem suffix_get {A B : List (List UInt8)} (h : B <:+ A) : B.length ≤ A.length ∧ ∀ i (hi : i < B.length) (hj : A.length - B.length + i < A.length), A[A.length - B.length + i] = B[i] := by
 obtain ⟨p, rfl⟩ := h
 refine ⟨by simp, fun i hi hj => ?_⟩
 have e : (p ++ B).length - B.length + i = p.length + i := by simp
 simp only [e]
 rw [List.getElem_append_right (by omega)]
 simp
set_option maxHeartbeats 2000000 in
theorem rUnder_yes (a b : List (List UInt8)) (ha : OkN a) (hb : OkN b) (w : World) :
  Calls Tryz.prog 31 #[.string (nm a), .string (nm b)] w fun e w' => e = .returned (.bool (undB a b)) ∧ Below w.heap.size w w' := by
 have hca := ha.low.count
 have hcb := hb.low.count
 have hU := undB_iff a b
 generalize undB a b = r at hU ⊢
 have HU := Hid.mk hU
 clear hU
 go_enter Tryz.func31, Tryz.ntmps31
 go_wp2_with fail
 refine (rLower_yes a ha _).mono ?_
 rintro e w1 ⟨rfl, hb1⟩
 go_wp2_with fail
 refine (rLabels_yes (lowN a) ha.low _).mono ?_
 rintro e w2 ⟨⟨va, rfl, hva⟩, hb2⟩
 go_wp2_with fail
 refine (rLower_yes b hb _).mono ?_
 rintro e w3 ⟨rfl, hb3⟩
 go_wp2_with fail
 refine (rLabels_yes (lowN b) hb.low _).mono ?_
 rintro e w4 ⟨⟨vb, rfl, hvb⟩, hb4⟩
 have hva4 := (hva.below (bthen hb3 hb4)).mono (bthen hb3 hb4).size
 have k4 := bthen hb1 (bthen hb2 (bthen hb3 hb4))
 clear hva hb1 hb2 hb3 hb4
 generalize lowN a = A at *
 generalize lowN b = B at *
 obtain ⟨qa, ca, hqa⟩ := hva4.form
 subst hqa
 obtain ⟨qb, cb, hqb⟩ := hvb.form
 subst hqb
 by_cases hlt : A.length < B.length
 ·have hf : r = false := by
   cases hr : r with
   | false => rfl
   | true => have := (suffix_get (HU.out.1 hr)).1; omega
  subst hf
  clear hva4 hvb
  go_wp2
  go_ret
  exact ⟨rfl, k4⟩
 ·have hd : decide ((A.length : Int) < (B.length : Int)) = false := by simp; omega
  go_wp2
  go_loopw [9] (fun i wr => ∃ k : Nat, k ≤ B.length ∧ i = .int .i64 k ∧ Hid (∀ j (hj : j < k) (h1 : A.length - B.length + j < A.length) (h2 : j < B.length), A[A.length - B.length + j] = B[j]) ∧ ∃ n, wr = w4.drewN n) (fun i _ => B.length - (intOf i).toNat)
  case atStart => exact ⟨0, Nat.zero_le _, rfl, fun j hj => absurd hj (by omega), 0, rfl⟩
  case round =>
   obtain ⟨k, hk, rfl, hag, n, rfl⟩ := hrel
   by_cases hkl : k < B.length
   ·obtain ⟨ga, hga, x, hxl, hc1⟩ : ∃ g, qa = some ⟨g, 0, none⟩ ∧ ∃ x : ByteArray, Hid (x.data.toList = A[A.length - B.length + k]'(by omega)) ∧ w4.cell? ⟨g, A.length - B.length + k, none⟩ = some (.string x) := by
     rcases hva4 with ⟨_, h⟩ | ⟨g, cap, hv, hg, hc⟩
     ·rw [h] at hlt; simp at hlt; rw [hlt] at hkl; simp at hkl
     ·cases hv; exact ⟨g, rfl, ⟨(A[A.length - B.length + k]'(by omega)).toArray⟩, rfl, hc _ (by omega)⟩
    obtain ⟨gb, hgb, y, hyl, hc2⟩ : ∃ g, qb = some ⟨g, 0, none⟩ ∧ ∃ y : ByteArray, Hid (y.data.toList = B[k]) ∧ w4.cell? ⟨g, k, none⟩ = some (.string y) := by
     rcases hvb with ⟨_, h⟩ | ⟨g, cap, hv, hg, hc⟩
     ·rw [h] at hkl; simp at hkl
     ·cases hv; exact ⟨g, rfl, ⟨B[k].toArray⟩, rfl, hc _ hkl⟩
    subst hga
    subst hgb
    have hw1 : IntKind.i64.wrap ((A.length : Int) - (B.length : Int)) = ((A.length - B.length : Nat) : Int) := by rw [IntKind.wrap_i64]; omega
    have hw2 : IntKind.i64.wrap (((A.length - B.length : Nat) : Int) + (k : Int)) = ((A.length - B.length + k : Nat) : Int) := by rw [IntKind.wrap_i64]; omega
    have hi1 : A.length - B.length + k < A.length := by omega
    by_cases heq : A[A.length - B.length + k]'(by omega) = B[k]
    ·have hbe : (x.toList == y.toList) = true := by rw [beq_iff_eq, ByteArray.toList_eq, ByteArray.toList_eq, hxl.out, hyl.out]; exact heq
     have HA : Hid (∀ j (hj : j < k + 1) (h1 : A.length - B.length + j < A.length) (h2 : j < B.length), A[A.length - B.length + j] = B[j]) := by
      intro j hj h1 h2
      by_cases e : j = k
      ·subst e; exact heq
      ·exact hag.out j (by omega) h1 h2
     clear heq hag hva4 hvb
     go_wp2
     go_quiet (fail)
     go_wp2
     go_roundw
     case rel => exact ⟨k + 1, by omega, by go_num, HA, _, rfl⟩
     case measure => simp [intOf]; omega
    ·have hbe : (x.toList == y.toList) = false := by rw [beq_eq_false_iff_ne, ByteArray.toList_eq, ByteArray.toList_eq, hxl.out, hyl.out]; exact heq
     have hf : r = false := by
      cases hr : r with
      | false => rfl
      | true => exact absurd ((suffix_get (HU.out.1 hr)).2 k hkl hi1) heq
     subst hf
     clear heq hag hva4 hvb
     go_wp2
     go_quiet (fail)
     go_wp2
     go_ret
     refine ⟨rfl, ?_⟩
     first | exact below_drewN k4 _ | (rw [World.drewN_drewN]; exact below_drewN k4 _)
   ·have ht : r = true := HU.out.2 (suffix_at (by omega) (fun i hi => hag.out i (by omega) (by omega) hi))
    subst ht
    clear hag hva4 hvb
    go_wp2
    go_ret
    exact ⟨rfl, below_drewN k4 _⟩
set_option maxHeartbeats 1000000 in
theorem rUnder_no (s t : ByteArray) (hs : s.size ≤ maxLen) (ht : t.size ≤ maxLen) (h : ¬ (IsName s ∧ IsName t)) (w : World) :
  Calls Tryz.prog 31 #[.string s, .string t] w fun e w' => e = .returned (.bool false) ∧ Below w.heap.size w w' := by
 by_cases h1 : IsName s
 ·have h2 : ¬ IsName t := fun h2 => h ⟨h1, h2⟩
  obtain ⟨a, ha, rfl⟩ := h1
  go_enter Tryz.func31, Tryz.ntmps31
  go_wp2_with fail
  refine (rLower_yes a ha _).mono ?_
  rintro e w1 ⟨rfl, hb1⟩
  go_wp2_with fail
  refine (rLabels_yes (lowN a) ha.low _).mono ?_
  rintro e w2 ⟨⟨va, rfl, hva⟩, hb2⟩
  obtain ⟨qa, ca, hqa⟩ := hva.form
  subst hqa
  clear hva
  go_wp2_with fail
  refine (rLower_no t ht h2 _).mono ?_
  rintro e w3 ⟨rfl, hb3⟩
  go_wp2_with fail
  refine (rLabels_none t ht h2 _).mono ?_
  rintro e w4 ⟨rfl, hb4⟩
  go_wp2
  go_ret
  exact ⟨rfl, bthen hb1 (bthen hb2 (bthen hb3 hb4))⟩
 ·by_cases h2 : IsName t
  ·obtain ⟨b, hb, rfl⟩ := h2
   go_enter Tryz.func31, Tryz.ntmps31
   go_wp2_with fail
   refine (rLower_no s hs h1 _).mono ?_
   rintro e w1 ⟨rfl, hb1⟩
   go_wp2_with fail
   refine (rLabels_none s hs h1 _).mono ?_
   rintro e w2 ⟨rfl, hb2⟩
   go_wp2_with fail
   refine (rLower_yes b hb _).mono ?_
   rintro e w3 ⟨rfl, hb3⟩
   go_wp2_with fail
   refine (rLabels_yes (lowN b) hb.low _).mono ?_
   rintro e w4 ⟨⟨vb, rfl, hvb⟩, hb4⟩
   obtain ⟨qb, cb, hqb⟩ := hvb.form
   subst hqb
   clear hvb
   go_wp2
   go_ret
   exact ⟨rfl, bthen hb1 (bthen hb2 (bthen hb3 hb4))⟩
  ·go_enter Tryz.func31, Tryz.ntmps31
   go_wp2_with fail
   refine (rLower_no s hs h1 _).mono ?_
   rintro e w1 ⟨rfl, hb1⟩
   go_wp2_with fail
   refine (rLabels_none s hs h1 _).mono ?_
   rintro e w2 ⟨rfl, hb2⟩
   go_wp2_with fail
   refine (rLower_no t ht h2 _).mono ?_
   rintro e w3 ⟨rfl, hb3⟩
   go_wp2_with fail
   refine (rLabels_none t ht h2 _).mono ?_
   rintro e w4 ⟨rfl, hb4⟩
   go_wp2
   go_ret
   exact ⟨rfl, bthen hb1 (bthen hb2 (bthen hb3 hb4))⟩
end Go.Proofs.YtdlcldjlfhmlgaaGreatDoor.U
/- The document's calls on names (guidepostref01), of any bytes. -/
namespace Go.Proofs.YtdlcldjlfhmlgaaGreatDoor
open Go.RowKit
theorem rright_in (s : ByteArray) (hs : s.size ≤ maxLen) (w : World) : Calls Tryz.prog 28 #[.string s] w fun e w' => e = .returned (.bool (isN s)) ∧ Below w.heap.size w w' := by
 by_cases h : IsName s
 ·rw [isN_yes h]
  obtain ⟨ls, ho, rfl⟩ := h
  exact rRight_yes ls ho w
 ·rw [isN_no h]; exact rRight_no s hs h w
theorem rlower_in (s : ByteArray) (hs : s.size ≤ maxLen) (w : World) : Calls Tryz.prog 64 #[.string s] w fun e w' => e = .returned (.string (lowF s)) ∧ Below w.heap.size w w' := by
 by_cases h : IsName s
 ·obtain ⟨ls, ho, rfl⟩ := h
  rw [lowF_nm ho]
  exact U.rLower_yes ls ho w
 ·rw [lowF_no h]; exact U.rLower_no s hs h w
theorem runder_in (s t : ByteArray) (hs : s.size ≤ maxLen) (ht : t.size ≤ maxLen) (w : World) : Calls Tryz.prog 31 #[.string s, .string t] w fun e w' => e = .returned (.bool (undF s t)) ∧ Below w.heap.size w w' := by
 by_cases h : IsName s ∧ IsName t
 ·obtain ⟨⟨a, ha, rfl⟩, ⟨b, hb, rfl⟩⟩ := h
  rw [undF_nm ha hb]; exact U.rUnder_yes a b ha hb w
 ·rw [undF_no h]; exact U.rUnder_no s t hs ht h w
theorem requal_in (s t : ByteArray) (hs : s.size ≤ maxLen) (ht : t.size ≤ maxLen) (w : World) : Calls Tryz.prog 29 #[.string s, .string t] w fun e w' => e = .returned (.bool (eqF s t)) ∧ Below w.heap.size w w' := by
 by_cases h : IsName s ∧ IsName t
 ·obtain ⟨⟨a, ha, rfl⟩, ⟨b, hb, rfl⟩⟩ := h
  rw [eqF_nm ha hb]; exact U.rEqual_yes a b ha hb w
 ·rw [eqF_no h]; exact U.rEqual_no s t hs ht h w
open Classical in
noncomputable def manyF (s : ByteArray) : Nat := if IsName s then (lb s).length else 0
theorem manyF_nm {a : N3} (h : OkN a) : manyF (nm a) = a.length := by
 unfold manyF
 rw [if_pos ⟨a, h, rfl⟩, lb_nm h]
theorem rlabels_in (s : ByteArray) (hs : s.size ≤ maxLen) (w : World) : Calls Tryz.prog 63 #[.string s] w fun e w' => (∃ q c b, e = .returned (.tuple #[.slice q (manyF s) c, .bool b])) ∧ Below w.heap.size w w' := by
 by_cases h : IsName s
 ·obtain ⟨ls, ho, rfl⟩ := h
  rw [manyF_nm ho]
  refine (rLabels_yes ls ho w).mono ?_
  rintro e w1 ⟨⟨v, rfl, hv⟩, hb⟩
  obtain ⟨q, c, rfl⟩ := hv.form
  exact ⟨⟨q, c, true, rfl⟩, hb⟩
 ·have e0 : manyF s = 0 := by unfold manyF; rw [if_neg h]
  rw [e0]
  refine (rLabels_none s hs h w).mono ?_
  rintro e w1 ⟨rfl, hb⟩
  exact ⟨⟨none, 0, false, rfl⟩, hb⟩
theorem rmany_in (s : ByteArray) (hs : s.size ≤ maxLen) (w : World) : Calls Tryz.prog 34 #[.string s] w fun e w' => e = .returned (.int .i64 (manyF s : Int)) ∧ Below w.heap.size w w' := by
 have HL := Hid.mk (rlabels_in s hs)
 generalize manyF s = m at HL ⊢
 go_enter Tryz.func34, Tryz.ntmps34
 go_wp2_with fail
 refine (HL.out _).mono ?_
 rintro e w1 ⟨⟨q, c, b, rfl⟩, hb1⟩
 go_wp2
 go_ret
 exact ⟨rfl, hb1⟩
end Go.Proofs.YtdlcldjlfhmlgaaGreatDoor
/- Layer 14: what the document says that zones answer, as lists, is what the program's lists say. -/
namespace Go.Proofs.YtdlcldjlfhmlgaaGreatDoor
open Go.RowKit
theorem pre_mid : ∀ (n f t : N3), cmpR n f ≤ 0 → cmpR f t ≤ 0 → n <+: t → n <+: f
 | [], f, t, _, _, _ => List.nil_prefix
 | x :: n, [], t, h, _, _ => by simp [cmpR] at h
 | x :: n, y :: f, [], _, _, h => by simp at h
 | x :: n, y :: f, z :: t, h1, h2, h3 => by
  obtain ⟨hx, h4⟩ := List.cons_prefix_cons.1 h3
  subst hx
  by_cases e : x = y
  ·subst e
   simp only [cmpR, if_true] at h1 h2
   exact List.cons_prefix_cons.2 ⟨rfl, pre_mid n f t h1 h2 h4⟩
  ·simp only [cmpR, if_neg e, if_neg (fun h => e (Eq.symm h))] at h1 h2
   have h5 := cmpL_anti x y
   have : cmpL x y = 0 := by omega
   exact absurd (cmpL_zero this) e
theorem und_mid {n f t : N3} (h1 : cmpN n f ≤ 0) (h2 : cmpN f t ≤ 0) (h3 : undB t n = true) : undB f n = true := by
 rw [und_rev] at h3 ⊢
 exact pre_mid _ _ _ h1 h2 h3
theorem cmp_eqB {a b : N3} : eqB a b = true ↔ cmpN a b = 0 := by
 unfold eqB cmpN
 rw [decide_eq_true_iff]
 constructor
 ·intro h; rw [h]; exact cmpR_refl _
 ·intro h; exact List.reverse_inj.1 (cmpR_zero h)
theorem eq_und {a b : N3} (h : eqB a b = true) : undB a b = true := by
 rw [undB_iff]
 unfold eqB at h
 rw [of_decide_eq_true h]
 exact List.suffix_refl _
section
variable {α : Type} {lt : α → α → Bool}
theorem filter_mrg1 (p : α → Bool) (a : α) : ∀ (v : List α), (∀ x ∈ v, p x = true → p a = true → lt x a = false) → (So.mrg lt [a] v).filter p = (a :: v).filter p
 | [], _ => by rw [So.mrg_nil]
 | y :: v, h => by
  rw [So.mrg_cons]
  split
  ·rename_i hy
   rw [List.filter_cons, filter_mrg1 p a v (fun x hx => h x (by simp [hx]))]
   cases hp : p y with
   | false =>
    simp only [Bool.false_eq_true, if_false, List.filter_cons, hp]
   | true =>
    have ha : p a = false := by
     cases ha : p a with
     | false => rfl
     | true => rw [h y (by simp) hp ha] at hy; cases hy
    simp only [if_true, List.filter_cons, hp, ha, Bool.false_eq_true, if_false]
  ·rw [So.nil_mrg]
theorem filter_isort (p : α → Bool) : ∀ (l : List α), (∀ x ∈ l, ∀ y ∈ l, p x = true → p y = true → lt x y = false) → (So.isort lt l).filter p = l.filter p
 | [], _ => rfl
 | a :: l, h => by
  rw [So.isort, filter_mrg1 p a _ (fun x hx h1 h2 => h x (by rw [(So.isort_perm l).mem_iff] at hx; simp [hx]) a (by simp) h1 h2), List.filter_cons, List.filter_cons, filter_isort p l (fun x hx y hy => h x (by simp [hx]) y (by simp [hy]))]
end
theorem lt_zero {a b : St} {n : N3} (h1 : cmpN a.ls n = 0) (h2 : cmpN b.ls n = 0) : ltS a b = false := by
 unfold ltS
 have e : cmpN n b.ls = 0 := by rw [So.cmpN_nt]; omega
 have := So.cmpN_le (Int.le_of_eq (show cmpN b.ls n = 0 from h2)) (Int.le_of_eq (show cmpN n a.ls = 0 by rw [So.cmpN_nt]; omega))
 rw [So.cmpN_nt] at this
 exact decide_eq_false (by omega)
theorem sets_eq (ss : List St) (n : N3) (q : St → Bool) : (So.isort ltS ss).filter (fun s => eqB s.ls n && q s) = ss.filter fun s => eqB s.ls n && q s := by
 refine filter_isort _ _ (fun x _ y _ hx hy => ?_)
 simp only [Bool.and_eq_true] at hx hy
 exact lt_zero (cmp_eqB.1 hx.1) (cmp_eqB.1 hy.1)
theorem ris_part (n : N3) : ∀ (l : List St), So.Ris ltS l → ∃ A B, l = A ++ B ∧ (∀ s ∈ A, cmpN s.ls n < 0) ∧ (∀ s ∈ B, 0 ≤ cmpN s.ls n)
 | [], _ => ⟨[], [], rfl, by simp, by simp⟩
 | a :: l, h => by
  obtain ⟨h1, h2⟩ := List.pairwise_cons.1 h
  by_cases ha : cmpN a.ls n < 0
  ·obtain ⟨A, B, e, hA, hB⟩ := ris_part n l h2
   refine ⟨a :: A, B, by rw [e]; rfl, fun s hs => ?_, hB⟩
   rcases List.mem_cons.1 hs with rfl | hs
   ·exact ha
   ·exact hA s hs
  ·refine ⟨[], a :: l, rfl, by simp, fun s hs => ?_⟩
   rcases List.mem_cons.1 hs with rfl | hs
   ·omega
   ·have h3 := h1 s hs
    unfold ltS at h3
    have h3' := of_decide_eq_false h3
    have h4 := So.cmpN_nt s.ls a.ls
    have h5 := So.cmpN_nt a.ls n
    have h6 := So.cmpN_nt s.ls n
    have := So.cmpN_le (a := n) (b := a.ls) (c := s.ls) (by omega) (by omega)
    omega
theorem fst_part {A B : List St} {n : N3} (hA : ∀ s ∈ A, cmpN s.ls n < 0) (hB : ∀ s ∈ B, 0 ≤ cmpN s.ls n) : fstR (A ++ B) n = A.length := by
 unfold fstR
 rw [List.filter_append, List.filter_eq_self.2 (fun s hs => decide_eq_true (hA s hs)), List.filter_eq_nil_iff.2 (fun s hs => by have := hB s hs; simp; omega), List.append_nil]
theorem while_filter (n : N3) : ∀ (B : List St), So.Ris ltS B → (∀ s ∈ B, 0 ≤ cmpN s.ls n) → B.takeWhile (fun s => eqB s.ls n) = B.filter fun s => eqB s.ls n
 | [], _, _ => rfl
 | b :: B, h, hB => by
  obtain ⟨h1, h2⟩ := List.pairwise_cons.1 h
  rw [List.takeWhile_cons, List.filter_cons]
  cases e : eqB b.ls n with
  | true => simp only [if_true]; rw [while_filter n B h2 (fun s hs => hB s (by simp [hs]))]
  | false =>
   simp only [Bool.false_eq_true, if_false]
   symm
   rw [List.filter_eq_nil_iff]
   intro s hs hn
   have h3 := of_decide_eq_false (h1 s hs)
   have h4 := cmp_eqB.1 hn
   have h5 := hB b (by simp)
   have h6 := So.cmpN_nt s.ls b.ls
   have h7 := So.cmpN_le (a := b.ls) (b := s.ls) (c := n) (by omega) (by omega)
   rw [cmp_eqB.2 (by omega)] at e
   cases e
theorem ownR_eq (rs : List Rc) (n : N3) : ownR (zsets rs) n = (setsR rs).filter fun s => eqB s.ls n := by
 have hr : So.Ris ltS (zsets rs) := So.isort_ris wo_s _
 have hf : (zsets rs).filter (fun s => eqB s.ls n) = (setsR rs).filter fun s => eqB s.ls n := by
  have := sets_eq (setsR rs) n (fun _ => true)
  simpa [zsets] using this
 obtain ⟨A, B, e, hA, hB⟩ := ris_part n (zsets rs) hr
 unfold ownR
 rw [← hf, e, fst_part hA hB, List.drop_left, while_filter n B (by rw [e] at hr; exact (List.pairwise_append.1 hr).2.1) hB, List.filter_append]
 have : A.filter (fun s => eqB s.ls n) = [] := by
  rw [List.filter_eq_nil_iff]
  intro s hs hn
  have := hA s hs
  have := cmp_eqB.1 hn
  omega
 rw [this, List.nil_append]
theorem hasR_eq (rs : List Rc) (n : N3) : hasR (zsets rs) n = (setsR rs).any fun s => undB s.ls n := by
 have hr : So.Ris ltS (zsets rs) := So.isort_ris wo_s _
 have hm : (setsR rs).any (fun s => undB s.ls n) = (zsets rs).any fun s => undB s.ls n := by
  refine Bool.eq_iff_iff.2 ?_
  simp only [List.any_eq_true]
  unfold zsets
  exact ⟨fun ⟨s, h1, h2⟩ => ⟨s, (So.isort_perm _).mem_iff.2 h1, h2⟩, fun ⟨s, h1, h2⟩ => ⟨s, (So.isort_perm _).mem_iff.1 h1, h2⟩⟩
 rw [hm]
 obtain ⟨A, B, e, hA, hB⟩ := ris_part n (zsets rs) hr
 unfold hasR
 rw [e, fst_part hA hB]
 have hno : A.any (fun s => undB s.ls n) = false := by
  rw [List.any_eq_false]
  intro s hs hu
  have := und_cmp hu
  have := hA s hs
  omega
 rw [List.any_append, hno, Bool.false_or, List.getElem?_append_right (Nat.le_refl _), Nat.sub_self]
 rw [e] at hr
 have hrB := (List.pairwise_append.1 hr).2.1
 cases B with
 | nil => rfl
 | cons b B =>
  simp only [List.getElem?_cons_zero, List.any_cons]
  cases hb : undB b.ls n with
  | true => rfl
  | false =>
   rw [Bool.false_or]
   symm
   rw [List.any_eq_false]
   intro s hs hu
   have h1 := of_decide_eq_false ((List.pairwise_cons.1 hrB).1 s hs)
   have h2 := hB b (by simp)
   have h3 := So.cmpN_nt s.ls b.ls
   have h4 := So.cmpN_nt b.ls n
   rw [und_mid (n := n) (f := b.ls) (t := s.ls) (by omega) (by omega) hu] at hb
   cases hb
noncomputable def outD (z : Lc) (n : N3) (kind : Int) : List St := ((setsR z.rs).filter fun s => (eqB s.ls n || z.kd == 5) && picks kind s).map fun s => { s with ls := n }
noncomputable def thrD (z : Lc) (n : N3) : Bool := eqB n (lb z.nm) || z.kd == 5 || (setsR z.rs).any fun s => undB s.ls n
noncomputable def ansD (z : Lc) (n : N3) (kind : Int) : Int × List St :=
 if z.kd = 1 then (1, []) else if z.kd = 2 then (2, []) else if 0 < (outD z n kind).length then (3, outD z n kind) else if thrD z n then (4, []) else if z.kd = 4 then (0, []) else (5, [])
theorem chos_eq (ss : List St) (n : N3) (kind : Int) : chosR ss n kind = if 0 < ((ss.filter (picks kind)).map fun s => { s with ls := n }).length then (3, (ss.filter (picks kind)).map fun s => { s with ls := n }) else (4, []) := by
 unfold chosR
 rw [List.length_map]
 by_cases h : (ss.filter (picks kind)).length = 0
 ·rw [if_pos h, if_neg (by omega)]
 ·rw [if_neg h, if_pos (by omega)]
theorem stc_eq (rs : List Rc) (n zn : N3) (kind : Int) : stcR (zsets rs) n zn kind = if 0 < (((setsR rs).filter fun s => eqB s.ls n && picks kind s).map fun s => { s with ls := n }).length then (3, ((setsR rs).filter fun s => eqB s.ls n && picks kind s).map fun s => { s with ls := n }) else if eqB n zn || (setsR rs).any (fun s => undB s.ls n) then (4, []) else (5, []) := by
 unfold stcR thrR
 rw [hasR_eq, ownR_eq, chos_eq, List.filter_filter, Bool.or_comm]
 have e : (setsR rs).filter (fun s => picks kind s && eqB s.ls n) = (setsR rs).filter fun s => eqB s.ls n && picks kind s := by
  congr 1; funext s; rw [Bool.and_comm]
 rw [e]
 split
 ·rfl
 ·rename_i h
  rw [if_neg]
  intro h0
  rw [List.length_map] at h0
  obtain ⟨s, hs⟩ := List.exists_mem_of_length_pos h0
  obtain ⟨hs1, hs2⟩ := List.mem_filter.1 hs
  simp only [Bool.and_eq_true] at hs2
  refine h ?_
  rw [Bool.or_eq_true]
  right
  rw [List.any_eq_true]
  exact ⟨s, hs1, eq_und hs2.1⟩
theorem setsR_mem {rs : List Rc} {s : St} (h : s ∈ setsR rs) : ∃ r ∈ rs, (mks r.ty && rOk r) = true ∧ s.ls = lb r.nm ∧ s.ty = r.ty ∧ s.cl = r.cl := by
 have key : ∀ (l : List Rc) (ss : List St), s ∈ l.foldl stepR ss → (∃ s' ∈ ss, s.ls = s'.ls ∧ s.ty = s'.ty ∧ s.cl = s'.cl) ∨ ∃ r ∈ l, (mks r.ty && rOk r) = true ∧ s.ls = lb r.nm ∧ s.ty = r.ty ∧ s.cl = r.cl := by
  intro l
  induction l with
  | nil => intro ss hs; exact .inl ⟨s, hs, rfl, rfl, rfl⟩
  | cons r l ih =>
   intro ss hs
   rw [List.foldl_cons] at hs
   rcases ih _ hs with ⟨s', h1, h2⟩ | ⟨r', h1, h2⟩
   ·unfold stepR at h1
    split at h1
    ·rename_i hc
     rcases addR_mem h1 with h | rfl | ⟨s'', h3, h4, rfl⟩
     ·exact .inl ⟨s', h, h2⟩
     ·exact .inr ⟨r, by simp, hc, h2⟩
     ·exact .inl ⟨s'', h3, h2⟩
    ·exact .inl ⟨s', h1, h2⟩
   ·exact .inr ⟨r', by simp [h1], h2⟩
 rcases key rs [] h with ⟨s', h1, _⟩ | h
 ·simp at h1
 ·exact h
theorem right_parts {z : Lc} (h : rightR z = true) : ∀ r ∈ z.rs, rcR r = true ∧ plcR r.nm z = true := by
 unfold rightR at h
 simp only [Bool.and_eq_true, List.all_eq_true] at h
 exact fun r hr => h.2 r hr
theorem ansZ_eq {z : Lc} (hz : rightR z = true) (n : N3) (kind : Int) : ansZ z n kind = ansD z n kind := by
 unfold ansZ ansD
 by_cases h1 : z.kd = 1
 ·rw [if_pos h1, if_pos h1]
 rw [if_neg h1, if_neg h1]
 by_cases h2 : z.kd = 2
 ·rw [if_pos h2, if_pos h2]
 rw [if_neg h2, if_neg h2]
 by_cases h5 : z.kd = 5
 ·rw [if_neg (by omega), if_neg (by omega)]
  have hb : (z.kd == 5) = true := by rw [beq_iff_eq]; exact h5
  have e1 : zsets z.rs = setsR z.rs := by
   have hall : ∀ s ∈ setsR z.rs, eqB s.ls (lb z.nm) = true := by
    intro s hs
    obtain ⟨r, hr, hc, e, _⟩ := setsR_mem hs
    have hp := (right_parts hz r hr).2
    unfold plcR at hp
    rw [if_neg (by omega), if_pos h5] at hp
    obtain ⟨g1, g2⟩ := lb_ok (zone_ty hz).1
    have hn : IsName r.nm := by
     simp only [Bool.and_eq_true] at hc
     exact (rOk_parts hc.2).1
    obtain ⟨k1, k2⟩ := lb_ok hn
    rw [k2, g2, eqF_nm k1 g1] at hp
    rw [e]; exact hp
   have e2 := sets_eq (setsR z.rs) (lb z.nm) (fun _ => true)
   rw [List.filter_eq_self.2 (fun s hs => by rw [hall s ((So.isort_perm _).mem_iff.1 hs)]; rfl), List.filter_eq_self.2 (fun s hs => by rw [hall s hs]; rfl)] at e2
   exact e2
  rw [e1, chos_eq]
  have e3 : outD z n kind = ((setsR z.rs).filter (picks kind)).map fun s => { s with ls := n } := by
   unfold outD
   congr 2
   funext s
   rw [hb, Bool.or_true, Bool.true_and]
  rw [e3]
  split
  ·rfl
  ·have : thrD z n = true := by unfold thrD; rw [hb, Bool.or_true, Bool.true_or]
   rw [if_pos this]
 ·have hb : (z.kd == 5) = false := by rw [beq_eq_false_iff_ne]; exact h5
  have e3 : outD z n kind = ((setsR z.rs).filter fun s => eqB s.ls n && picks kind s).map fun s => { s with ls := n } := by
   unfold outD
   congr 2
   funext s
   rw [hb, Bool.or_false]
  have e4 : thrD z n = (eqB n (lb z.nm) || (setsR z.rs).any fun s => undB s.ls n) := by unfold thrD; rw [hb, Bool.or_false]
  rw [e3, e4]
  obtain ⟨_, ⟨hk1, hk2⟩, _⟩ := zone_ty hz
  by_cases h3 : z.kd = 3
  ·rw [if_pos h3, stc_eq, if_neg (by omega : ¬ z.kd = 4)]
  ·have h4 : z.kd = 4 := by omega
   rw [if_neg h3, if_pos h4, if_pos h4]
   unfold trsR
   rw [stc_eq]
   split
   ·rw [if_neg (fun h => by simp at h)]
   ·split
    ·rw [if_neg (fun h => by simp at h)]
    ·rw [if_pos rfl]
structure BestAt (l : List Lc) (s : ByteArray) (i : Nat) (o : Option Nat) : Prop where
 no : o = none → ∀ j (hj : j < l.length), j < i → undF s l[j].nm = false
 yes : ∀ b, o = some b → ∃ hb : b < l.length, b < i ∧ undF s l[b].nm = true ∧ ∀ j (hj : j < l.length), j < i → undF s l[j].nm = true → manyF l[j].nm ≤ manyF l[b].nm
theorem nearR_none {zs : List Lc} : ∀ {n : N3}, nearR zs n = none → ∀ z ∈ zs, ¬ lowN (lb z.nm) <:+ n
 | [], h, z, hz, hs => by
  rw [nearR, List.find?_eq_none] at h
  refine h z hz ?_
  unfold keyZ
  exact decide_eq_true (List.suffix_nil.1 hs)
 | l :: n, h, z, hz, hs => by
  rw [nearR] at h
  split at h
  ·cases h
  ·rename_i h0
   rw [List.find?_eq_none] at h0
   rcases List.suffix_cons_iff.1 hs with e | hs
   ·exact h0 z hz (by unfold keyZ; exact decide_eq_true e)
   ·exact nearR_none h z hz hs
theorem nearR_max {zs : List Lc} : ∀ {n : N3} {z : Lc}, nearR zs n = some z → ∀ y ∈ zs, lowN (lb y.nm) <:+ n → (lb y.nm).length ≤ (lb z.nm).length
 | [], z, h, y, hy, hs => by
  have := List.suffix_nil.1 hs
  have h2 : (lowN (lb y.nm)).length = 0 := by rw [this]; rfl
  rw [lowN_length] at h2
  omega
 | l :: n, z, h, y, hy, hs => by
  rw [nearR] at h
  split at h
  ·rename_i q hq
   cases h
   have hk := List.find?_some hq
   unfold keyZ at hk
   have e := of_decide_eq_true hk
   have h1 := hs.length_le
   rw [← e, lowN_length, lowN_length] at h1
   exact h1
  ·rename_i h0
   rcases List.suffix_cons_iff.1 hs with e | hs
   ·rw [List.find?_eq_none] at h0
    exact absurd (by unfold keyZ; exact decide_eq_true e) (h0 y hy)
   ·exact nearR_max h y hy hs
theorem best_near {l : List Lc} (hok : okL l) {s : ByteArray} {o : Option Nat} (h : BestAt l s l.length o) : near l s = o.bind fun b => l[b]? := by
 by_cases hs : IsName s
 ·obtain ⟨h1, h2⟩ := lb_ok hs
  have hu : ∀ z ∈ l, undF s z.nm = true ↔ lowN (lb z.nm) <:+ lowN (lb s) := by
   intro z hz
   obtain ⟨g1, g2⟩ := lb_ok (zone_ty (hok.1 z hz)).1
   have e : undF s z.nm = undB (lb s) (lb z.nm) := by
    conv => lhs; rw [h2, g2]
    exact undF_nm h1 g1
   rw [e]
   exact undB_iff _ _
  have hmn : ∀ z ∈ l, manyF z.nm = (lb z.nm).length := by
   intro z hz
   unfold manyF
   rw [if_pos (zone_ty (hok.1 z hz)).1]
  unfold near
  rw [isN_yes hs, if_pos rfl]
  cases ho : o with
  | none =>
   show _ = none
   cases hn : nearR l (lowN (lb s)) with
   | none => rfl
   | some z =>
    obtain ⟨m1, m2⟩ := near_mem hn
    obtain ⟨j, hj, rfl⟩ := List.getElem_of_mem m1
    have := h.no ho j hj hj
    rw [(hu _ m1).2 m2] at this
    cases this
  | some b =>
   obtain ⟨hb, _, hub, hmx⟩ := h.yes b ho
   show _ = l[b]?
   rw [List.getElem?_eq_getElem hb]
   have hbm : l[b] ∈ l := List.getElem_mem hb
   cases hn : nearR l (lowN (lb s)) with
   | none => exact absurd ((hu _ hbm).1 hub) (nearR_none hn _ hbm)
   | some z =>
    obtain ⟨m1, m2⟩ := near_mem hn
    have e1 := nearR_max hn _ hbm ((hu _ hbm).1 hub)
    obtain ⟨j, hj, rfl⟩ := List.getElem_of_mem m1
    have e2 := hmx j hj hj ((hu _ m1).2 m2)
    rw [hmn _ m1, hmn _ hbm] at e2
    have e3 : lowN (lb l[j].nm) = lowN (lb l[b].nm) := by
     obtain ⟨p, hp⟩ := m2
     obtain ⟨p', hp'⟩ := (hu _ hbm).1 hub
     have hl : (lowN (lb l[j].nm)).length = (lowN (lb l[b].nm)).length := by rw [lowN_length, lowN_length]; omega
     exact (List.append_inj' (hp.trans hp'.symm) hl).2
    congr 1
    refine near_same hok hbm m1 ?_
    obtain ⟨g1, g2⟩ := lb_ok (zone_ty (hok.1 _ hbm)).1
    obtain ⟨k1, k2⟩ := lb_ok (zone_ty (hok.1 _ m1)).1
    rw [k2, g2, eqF_nm k1 g1]
    unfold eqB
    exact decide_eq_true e3
 ·unfold near
  rw [isN_no hs]
  cases ho : o with
  | none => rfl
  | some b =>
   obtain ⟨hb, _, hub, _⟩ := h.yes b ho
   rw [undF_no (fun h => hs h.1)] at hub
   cases hub
theorem BestAt.first (l : List Lc) (s : ByteArray) : BestAt l s 0 none := ⟨fun _ j _ h => absurd h (Nat.not_lt_zero _), fun b e => by cases e⟩
theorem BestAt.skip {l : List Lc} {s : ByteArray} {i : Nat} {o : Option Nat} (h : BestAt l s i o) (hi : i < l.length) (hu : undF s l[i].nm = false) : BestAt l s (i + 1) o where
 no := fun e j hj hji => by
  rcases Nat.lt_succ_iff_lt_or_eq.1 hji with h1 | h1
  ·exact h.no e j hj h1
  ·subst h1; exact hu
 yes := fun b e => by
  obtain ⟨hb, h1, h2, h3⟩ := h.yes b e
  refine ⟨hb, by omega, h2, fun j hj hji hju => ?_⟩
  rcases Nat.lt_succ_iff_lt_or_eq.1 hji with h4 | h4
  ·exact h3 j hj h4 hju
  ·subst h4; rw [hu] at hju; cases hju
theorem BestAt.take {l : List Lc} {s : ByteArray} {i : Nat} {o : Option Nat} (h : BestAt l s i o) (hi : i < l.length) (hu : undF s l[i].nm = true) (hg : ∀ b (hb : b < l.length), o = some b → manyF l[b].nm < manyF l[i].nm) : BestAt l s (i + 1) (some i) where
 no := fun e => by cases e
 yes := fun b e => by
  cases e
  refine ⟨hi, by omega, hu, fun j hj hji hju => ?_⟩
  rcases Nat.lt_succ_iff_lt_or_eq.1 hji with h4 | h4
  ·cases ho : o with
   | none => rw [h.no ho j hj h4] at hju; cases hju
   | some b =>
    obtain ⟨hb, _, _, h3⟩ := h.yes b ho
    have := h3 j hj h4 hju
    have := hg b hb ho
    omega
  ·subst h4; exact Nat.le_refl _
theorem BestAt.keep {l : List Lc} {s : ByteArray} {i b : Nat} (h : BestAt l s i (some b)) (hi : i < l.length) (hb : b < l.length) (hg : manyF l[i].nm ≤ manyF l[b].nm) : BestAt l s (i + 1) (some b) where
 no := fun e => by cases e
 yes := fun c e => by
  cases e
  obtain ⟨_, h1, h2, h3⟩ := h.yes b rfl
  refine ⟨hb, by omega, h2, fun j hj hji hju => ?_⟩
  rcases Nat.lt_succ_iff_lt_or_eq.1 hji with h4 | h4
  ·exact h3 j hj h4 hju
  ·subst h4; exact hg
end Go.Proofs.YtdlcldjlfhmlgaaGreatDoor
