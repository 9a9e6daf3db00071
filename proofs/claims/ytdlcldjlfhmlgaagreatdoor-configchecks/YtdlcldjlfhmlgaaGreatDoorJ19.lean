/- Texts of this proof, joined: LdR, LdU, RefLabels, UCased, URefLower, URefUnder. -/
import Derived.Test.YtdlcldjlfhmlgaaGreatDoorJ18
import Derived.Test.YtdlcldjlfhmlgaaGreatDoorJ13
import Derived.Test.YtdlcldjlfhmlgaaGreatDoorJ1
import Derived.Test.YtdlcldjlfhmlgaaGreatDoorJ2
import Derived.Lib.ConvBytes
import Derived.Deep.RegionWith
import Derived.Test.YtdlcldjlfhmlgaaGreatDoorJ3
set_option linter.unusedVariables false
set_option linter.unusedSimpArgs false
/- Layer 14: a zone by itself. -/
namespace Go.Proofs.YtdlcldjlfhmlgaaGreatDoor
open Go.RowKit
end Go.Proofs.YtdlcldjlfhmlgaaGreatDoor
/- Layer 14: what letters change. -/
namespace Go.Proofs.YtdlcldjlfhmlgaaGreatDoor
open Go.RowKit
end Go.Proofs.YtdlcldjlfhmlgaaGreatDoor
/- The document's own Labels and Right (guidepostref01). -/
namespace Go.Proofs.YtdlcldjlfhmlgaaGreatDoor
open Go.RowKit
theorem name_next {ls p : List (List UInt8)} (ho : OkN ls) (h : Seq (nm ls) p) : (flat p).length < (nm ls).size ∧
  ∀ hlt : (flat p).length < (nm ls).size, (p = ls ∧ (nm ls)[(flat p).length] = 0 ∧ (flat p).length + 1 = (nm ls).size) ∨
   (∃ m q, ls = p ++ m :: q ∧ (nm ls)[(flat p).length].toNat = m.length ∧ 1 ≤ m.length ∧ m.length ≤ 63 ∧ (flat p).length + 1 + m.length < (nm ls).size) := by
 obtain ⟨q, hq⟩ := h.of_name ho
 have hfl : flat ls = flat p ++ flat q := by rw [← hq, flat_append]
 refine ⟨by rw [nm_size, hfl, List.length_append]; omega, fun hlt => ?_⟩
 cases q with
 | nil =>
  left
  rw [List.append_nil] at hq
  subst hq
  exact ⟨rfl, nm_get_end p hlt, by rw [nm_size]⟩
 | cons m q =>
  right
  have hm := ho.lab m (by rw [← hq]; simp)
  have hc : (nm ls)[(flat p).length] = UInt8.ofNat m.length := by
   rw [← getElem_list _ _ hlt]
   simp [nm_list, nmL, hfl, flat]
  refine ⟨m, q, hq.symm, ?_, hm.1, hm.2, ?_⟩
  ·rw [hc]; simp; omega
  ·rw [nm_size, hfl, List.length_append]; simp only [flat, List.length_cons, List.length_append]; omega
theorem rLabels_long (s : ByteArray) (hm : s.size ≤ maxLen) (h : 255 < s.size) (w : World) :
  Calls Tryz.prog 63 #[.string s] w fun e w' => e = .returned (.tuple #[.slice none 0 0, .bool false]) ∧ Below w.heap.size w w' := by
 unfold maxLen at hm
 go_enter Tryz.func63, Tryz.ntmps63
 go_wp2
 go_ret2
 exact ⟨rfl, Below.refl _ _⟩
theorem strsV_snoc (ls : List (List UInt8)) (s : ByteArray) : strsV (ls ++ [s.data.toList]) = strsV ls ++ [.string s] := by simp [strsV, strV_of]
theorem rowBase {W : World} {n₀ n : Nat} {e : TypeId} {v : Value} {xs : List Value} (h : W.ownsRow n₀ e 1 v n xs) : ∀ k, v.ownBlock = some k → n₀ ≤ k := by
 intro k e
 rcases h.2 with ⟨rfl, _⟩ | ⟨g, cap, cur, rfl, hb, _⟩
 ·simp [Value.ownBlock] at e
 ·obtain rfl : g = k := by simpa [Value.ownBlock] using e
  exact hb
def RefRel (s : ByteArray) (n₀ : Nat) (w : World) (v i : Value) (wr : World) : Prop :=
 ∃ (k : Nat) (p : List (List UInt8)), i = .int .i64 k ∧ Hid (k = (flat p).length) ∧ k ≤ s.size ∧ Seq s p ∧ (∀ l ∈ p, l.length ≤ 63) ∧ wr.ownsRow n₀ 9 1 v p.length (strsV p) ∧ p.length ≤ 127 ∧ Below n₀ w wr
theorem seq_count {s : ByteArray} {p : List (List UInt8)} (h : Seq s p) (hs : s.size ≤ 255) : p.length ≤ 127 := by
 have h1 := flat_count p (fun l hl => (h.lab l hl).1)
 have h2 := h.le
 omega
set_option maxRecDepth 100000 in
set_option maxHeartbeats 2000000 in
theorem rLabels_no (s : ByteArray) (h : s.size ≤ 255) (hn : ¬ IsName s) (w : World) :
  Calls Tryz.prog 63 #[.string s] w fun e w' => e = .returned (.tuple #[.slice none 0 0, .bool false]) ∧ Below w.heap.size w w' := by
 obtain ⟨i0, hi, hz0, hz1, hz2⟩ := info_parts info9
 have hb255 : decide (255 < (s.size : Int)) = false := by simp; omega
 go_enter Tryz.func63, Tryz.ntmps63
 go_wp2
 go_loopw [4, 5] (fun v i wr => RefRel s w.heap.size w v i wr) (fun _ i _ => s.size - (intOf i).toNat)
 case atStart => exact ⟨0, [], rfl, rfl, Nat.zero_le _, Seq.nil s, by simp, World.ownsRow_nil .., by simp, Below.refl _ _⟩
 case round =>
  obtain ⟨k, p, rfl, hk, hle, hsq, h63, hrow, hct, hbl⟩ := hrel
  have hsize := hbl.size
  by_cases hlt : k < s.size
  ·have hu := s[k].toNat_lt
   by_cases hz : s[k].toNat = 0
   ·have hzb : ((s[k].toNat : Int) == 0) = true := by rw [hz]; rfl
    have hne : ((k : Int) == (s.size : Int) - 1) = false := by
     rw [beq_eq_false_iff_ne]
     intro e
     refine hn ⟨p, (hsq.is_name h63 h ?_ (fun l hl => (hsq.lab l hl).1))⟩
     have e2 : s.data.toList = s.data.toList.take k ++ s.data.toList.drop k := (List.take_append_drop k _).symm
     have e3 : s.data.toList.take k = flat p := by
      have := List.prefix_iff_eq_take.1 hsq.pre; rw [hk.out]; exact this.symm
     have e4 : s.data.toList.drop k = [s[k]] := by
      rw [List.drop_eq_getElem_cons (by rw [size_list]; exact hlt), List.drop_of_length_le (by rw [size_list]; omega)]; rfl
     have e5 : s[k] = 0 := UInt8.toNat_inj.1 (by rw [hz]; rfl)
     rw [e2, e3, e4, e5]
    clear hz hk
    go_wp2
    go_ret2
    exact ⟨rfl, hbl⟩
   ·have hzb : ((s[k].toNat : Int) == 0) = false := by rw [beq_eq_false_iff_ne]; omega
    by_cases hbig : 63 < s[k].toNat
    ·clear hk
     go_wp2
     go_ret2
     exact ⟨rfl, hbl⟩
    ·by_cases hfit : k + 1 + s[k].toNat ≤ s.size
     ·have hne0 : s[k] ≠ 0 := fun e => hz (by rw [e]; rfl)
      have HS := Hid.mk (Seq.snoc hsq hk.out hlt hne0 hfit)
      have HL := Hid.mk (Seq.snoc_len hk.out hlt hfit)
      have hsx : (s.extract (k + 1) (k + 1 + s[k].toNat)).size = s[k].toNat := HS.out.2
      have HX := Hid.mk hsx
      clear hne0 hsx hk
      go_wp2_with (at_builtin; refine wpList_append_own _ rfl _ _ 42 rfl w.heap.size 9 i0 (.string ⟨#[]⟩) 1 16 Tryz.underlying42 hi hz0 hz1 hz2 rfl (by decide) _ _ _ rfl (hrow.alloc _) ⟨wr.heap.size, 0, none⟩ 1 1 [.string (s.extract (k + 1) (k + 1 + s[k].toNat))] rfl rfl (cell_one_new _ _ _) (by simp [Value.oneCell']) (by unfold maxLen; omega) (by omega) (by simp; omega) ?_; intro v1 w1 hown1 hgrow1 _)
      go_roundw
      case rel =>
       refine ⟨k + 1 + s[k].toNat, p ++ [(s.extract (k + 1) (k + 1 + s[k].toNat)).data.toList], by go_num, HL.out.symm, hfit, HS.out.1, ?_, ?_, seq_count HS.out.1 h, ?_⟩
       ·intro l hl
        rcases List.mem_append.1 hl with h' | h'
        ·exact h63 l h'
        ·simp only [List.mem_singleton] at h'; subst h'; rw [size_list, HX.out]; omega
       ·rw [List.length_append, strsV_snoc]; exact hown1
       ·exact (hbl.alloc hsize _).grown hgrow1 (by simp; omega) (rowBase hrow)
      case measure => simp [intOf]; omega
     ·have hfit' : s.size < k + 1 + s[k].toNat := by omega
      have hbig' : s[k].toNat ≤ 63 := by omega
      clear hfit hbig hk
      go_wp2
      go_ret2
      exact ⟨rfl, hbl⟩
  ·clear hk
   go_wp2
   go_ret2
   exact ⟨rfl, hbl⟩
set_option maxRecDepth 100000 in
set_option maxHeartbeats 2000000 in
theorem rLabels_own (ls : List (List UInt8)) (ho : OkN ls) (w : World) :
  Calls Tryz.prog 63 #[.string (nm ls)] w fun e w' => (∃ v, e = .returned (.tuple #[v, .bool true]) ∧ w'.ownsRow w.heap.size 9 1 v ls.length (strsV ls)) ∧ Below w.heap.size w w' := by
 have h : (nm ls).size ≤ 255 := by rw [nm_size]; have := ho.len; omega
 obtain ⟨s, hs⟩ : ∃ s, nm ls = s := ⟨_, rfl⟩
 have hnx := fun p => name_next (p := p) ho
 rw [hs] at h hnx ⊢
 have HNX := Hid.mk hnx
 clear hnx
 obtain ⟨i0, hi, hz0, hz1, hz2⟩ := info_parts info9
 have hb255 : decide (255 < (s.size : Int)) = false := by simp; omega
 go_enter Tryz.func63, Tryz.ntmps63
 go_wp2
 go_loopw [4, 5] (fun v i wr => RefRel s w.heap.size w v i wr) (fun _ i _ => s.size - (intOf i).toNat)
 case atStart => exact ⟨0, [], rfl, rfl, Nat.zero_le _, Seq.nil s, by simp, World.ownsRow_nil .., by simp, Below.refl _ _⟩
 case round =>
  obtain ⟨k, p, rfl, hk, hle, hsq, h63, hrow, hct, hbl⟩ := hrel
  have hsize := hbl.size
  obtain ⟨hlt, hcase⟩ := HNX.out p hsq
  have hc' := hcase hlt
  have hkk := hk.out
  have hlt' : k < s.size := by rw [hkk]; exact hlt
  have hge : s[(flat p).length]'hlt = s[k] := by simp only [hkk]
  rw [hge, ← hkk] at hc'
  clear hcase hlt hkk hge
  have hu := s[k].toNat_lt
  rcases hc' with ⟨hp, hz, hend⟩ | ⟨m, q, hls, hm, hm1, hm2, hfit⟩
  ·have hzb : ((s[k].toNat : Int) == 0) = true := by rw [hz]; rfl
   have hne : ((k : Int) == (s.size : Int) - 1) = true := by rw [beq_iff_eq]; omega
   have HP := Hid.mk hp
   clear hp hz hk
   go_wp2
   go_ret2
   refine ⟨⟨_, rfl, ?_⟩, hbl⟩
   rw [← HP.out]; exact hrow
  ·have hzb : ((s[k].toNat : Int) == 0) = false := by rw [beq_eq_false_iff_ne]; omega
   have hbig : s[k].toNat ≤ 63 := by omega
   have hfit' : k + 1 + s[k].toNat ≤ s.size := by omega
   have hne0 : s[k] ≠ 0 := fun e => by rw [e] at hm; simp at hm; omega
   have HS := Hid.mk (Seq.snoc hsq hk.out hlt' hne0 hfit')
   have HL := Hid.mk (Seq.snoc_len hk.out hlt' hfit')
   have hsx : (s.extract (k + 1) (k + 1 + s[k].toNat)).size = s[k].toNat := HS.out.2
   have HX := Hid.mk hsx
   clear hne0 hsx hk hm hls hfit
   go_wp2_with (at_builtin; refine wpList_append_own _ rfl _ _ 42 rfl w.heap.size 9 i0 (.string ⟨#[]⟩) 1 16 Tryz.underlying42 hi hz0 hz1 hz2 rfl (by decide) _ _ _ rfl (hrow.alloc _) ⟨wr.heap.size, 0, none⟩ 1 1 [.string (s.extract (k + 1) (k + 1 + s[k].toNat))] rfl rfl (cell_one_new _ _ _) (by simp [Value.oneCell']) (by unfold maxLen; omega) (by omega) (by simp; omega) ?_; intro v1 w1 hown1 hgrow1 _)
   go_roundw
   case rel =>
    refine ⟨k + 1 + s[k].toNat, p ++ [(s.extract (k + 1) (k + 1 + s[k].toNat)).data.toList], by go_num, HL.out.symm, hfit', HS.out.1, ?_, ?_, seq_count HS.out.1 h, ?_⟩
    ·intro l hl
     rcases List.mem_append.1 hl with h' | h'
     ·exact h63 l h'
     ·simp only [List.mem_singleton] at h'; subst h'; rw [size_list, HX.out]; omega
    ·rw [List.length_append, strsV_snoc]; exact hown1
    ·exact (hbl.alloc hsize _).grown hgrow1 (by simp; omega) (rowBase hrow)
   case measure => simp [intOf]; omega
theorem rLabels_yes (ls : List (List UInt8)) (ho : OkN ls) (w : World) :
  Calls Tryz.prog 63 #[.string (nm ls)] w fun e w' => (∃ v, e = .returned (.tuple #[v, .bool true]) ∧ Strs w'.heap.size w' v ls) ∧ Below w.heap.size w w' :=
 (rLabels_own ls ho w).mono fun e w' ⟨⟨v, he, hr⟩, hb⟩ => ⟨⟨v, he, strs_of_row hr⟩, hb⟩
theorem rLabels_none (s : ByteArray) (hm : s.size ≤ maxLen) (hn : ¬ IsName s) (w : World) :
  Calls Tryz.prog 63 #[.string s] w fun e w' => e = .returned (.tuple #[.slice none 0 0, .bool false]) ∧ Below w.heap.size w w' := by
 by_cases h : s.size ≤ 255
 ·exact rLabels_no s h hn w
 ·exact rLabels_long s hm (by omega) w
theorem rRight_yes (ls : List (List UInt8)) (ho : OkN ls) (w : World) :
  Calls Tryz.prog 28 #[.string (nm ls)] w fun e w' => e = .returned (.bool true) ∧ Below w.heap.size w w' := by
 go_enter Tryz.func28, Tryz.ntmps28
 go_wp2_with fail
 refine (rLabels_yes ls ho _).mono ?_
 rintro e w1 ⟨⟨v, rfl, _⟩, hb1⟩
 go_wp2
 go_ret
 exact ⟨rfl, hb1⟩
theorem rRight_no (s : ByteArray) (hm : s.size ≤ maxLen) (hn : ¬ IsName s) (w : World) :
  Calls Tryz.prog 28 #[.string s] w fun e w' => e = .returned (.bool false) ∧ Below w.heap.size w w' := by
 go_enter Tryz.func28, Tryz.ntmps28
 go_wp2_with fail
 refine (rLabels_none s hm hn _).mono ?_
 rintro e w1 ⟨rfl, hb1⟩
 go_wp2
 go_ret
 exact ⟨rfl, hb1⟩
end Go.Proofs.YtdlcldjlfhmlgaaGreatDoor
/- Cased. -/
namespace Go.Proofs.YtdlcldjlfhmlgaaGreatDoor.U
set_option maxRecDepth 100000
open Go.RowKit
def isLow (b : UInt8) : Bool := decide (97 ≤ b.toNat ∧ b.toNat ≤ 122)
def cnt (l : List UInt8) : Nat := (l.filter isLow).length
def bitAt (bits k : Nat) : Bool := decide (bits / 2 ^ (k % 64) % 2 = 1)
theorem cnt_le (l : List UInt8) : cnt l ≤ l.length := List.length_filter_le _ _
theorem cnt_cons (b : UInt8) (l : List UInt8) : cnt (b :: l) = (if isLow b = true then 1 else 0) + cnt l := by
 unfold cnt
 by_cases h : isLow b = true
 ·simp [h]; omega
 ·simp [h]
theorem bytesWorld_bytes (w : World) (s : ByteArray) : BytesAt (Lib.bytesWorld w 5 s) w.heap.size s.data.toList := by
 intro j hj
 refine ⟨?_, ?_⟩
 ·rw [Lib.bytesWorld_cell w 5 s j (by rw [size_list] at hj; exact hj)]
  rw [show s.data.toList.getD j 0 = s.data.toList[j] by rw [List.getD_eq_getElem?_getD, List.getElem?_eq_getElem hj]; rfl]
 ·have hj' : j < s.size := by rw [size_list] at hj; exact hj
  have hc : s.size ≤ (Lib.bytesCells w 5 s).size := by simp [Lib.bytesCells]
  simp [World.frozen?, Lib.bytesWorld_at_new]
  omega
theorem below_bytes (w : World) (s : ByteArray) : Below w.heap.size w (Lib.bytesWorld w 5 s) :=
 ⟨rfl, rfl, rfl, by rw [Lib.bytesWorld_size]; omega, fun k hk => Lib.bytesWorld_at_old w 5 s k hk⟩
end Go.Proofs.YtdlcldjlfhmlgaaGreatDoor.U
/- The document's own small and Lower (guidepostref01). -/
namespace Go.Proofs.YtdlcldjlfhmlgaaGreatDoor.U
set_option maxRecDepth 100000
open Go.RowKit
theorem toBA (l : List UInt8) : ∃ s : ByteArray, strV l = .string s ∧ s.data.toList = l ∧ s.size = l.length := ⟨⟨l.toArray⟩, rfl, rfl, rfl⟩
set_option maxHeartbeats 1000000 in
theorem small_in (s : ByteArray) (hz : s.size ≤ 255) (w : World) :
  Calls Tryz.prog 96 #[.string s] w fun e w' => e = .returned (.string ⟨(s.data.toList.map lowB).toArray⟩) ∧ Below w.heap.size w w' := by
 have hcv := fun W : World => Lib.run_convert_string_bytes (P := Tryz.prog) W 9 143 5 s Tryz.underlying9 Tryz.underlying143 Tryz.underlying5
 go_enter Tryz.func96, Tryz.ntmps96
 go_wp2
 clear hcv
 have hby0 := bytesWorld_bytes w s
 have hbe0 := below_bytes w s
 go_loopw [4] (fun i wr => ∃ k : Nat, k ≤ s.size ∧ i = .int .i64 k ∧ BytesAt wr w.heap.size (lowTo s.data.toList k) ∧ Below w.heap.size w wr) (fun i _ => s.size - (intOf i).toNat)
 case atStart => exact ⟨0, Nat.zero_le _, rfl, by rw [lowTo_zero]; exact hby0, hbe0⟩
 case round =>
  clear hby0 hbe0
  obtain ⟨k, hk, rfl, hby, hbl⟩ := hrel
  by_cases hlt : k < s.size
  ·have hlt' : k < s.data.toList.length := by rw [size_list]; exact hlt
   have hj := hby k (by rw [lowTo_length]; exact hlt')
   rw [lowTo_get _ _ hlt'] at hj
   obtain ⟨hc, hf⟩ := hj
   have hn := (hby.set k (lowB s.data.toList[k]))
   rw [lowTo_succ _ _ hlt'] at hn
   have hsame : lowB s.data.toList[k] = s.data.toList[k] → lowTo s.data.toList (k + 1) = lowTo s.data.toList k := by
    intro e
    rw [← lowTo_succ _ _ hlt', e]
    have := lowTo_get s.data.toList k hlt'
    conv => lhs; rw [← this]
    exact List.set_getElem_self _
   have HN := Hid.mk hn
   have HS := Hid.mk hsame
   clear hn hsame
   generalize s.data.toList[k] = c at hc HN HS
   have hc8 := c.toNat_lt
   by_cases h1 : 65 ≤ c.toNat
   ·by_cases h2 : c.toNat ≤ 90
    ·have hcb : ((lowB c).toNat : Int) = (c.toNat : Int) + 32 := by rw [lowB_toNat, if_pos ⟨h1, h2⟩]; omega
     have HN1 := HN.out
     rw [hcb] at HN1
     have HN2 := Hid.mk HN1
     clear HN1 hcb
     go_wp2
     go_roundw
     case rel => exact ⟨k + 1, by omega, by go_num, HN2.out, hbl.setCell (p := ⟨w.heap.size, k, none⟩) (Nat.le_refl _) _⟩
     case measure => simp [intOf]; omega
    ·have e : lowB c = c := by unfold lowB; rw [if_neg (by omega)]
     have HE := Hid.mk (HS.out e)
     clear e
     go_wp2
     go_roundw
     case rel => exact ⟨k + 1, by omega, by go_num, by rw [HE.out]; exact hby, hbl⟩
     case measure => simp [intOf]; omega
   ·have e : lowB c = c := by unfold lowB; rw [if_neg (by omega)]
    have HE := Hid.mk (HS.out e)
    clear e
    go_wp2
    go_roundw
    case rel => exact ⟨k + 1, by omega, by go_num, by rw [HE.out]; exact hby, hbl⟩
    case measure => simp [intOf]; omega
  ·have hfin : lowTo s.data.toList k = s.data.toList.map lowB := lowTo_all _ _ (by rw [size_list]; omega)
   rw [hfin] at hby
   have hcv := run_convert_bytes_back (P := Tryz.prog) wr 143 9 5 ⟨w.heap.size, 0, none⟩ (grownCap w s.size 0 5) (s.data.toList.map lowB) Tryz.underlying143 Tryz.underlying5 Tryz.underlying9 (fun j hj => by rw [add_at]; exact (hby j hj).1)
   rw [List.length_map, size_list] at hcv
   clear hfin hby
   go_wp2
   go_ret
   exact ⟨rfl, hbl⟩
theorem rLower_no (s : ByteArray) (hm : s.size ≤ maxLen) (hn : ¬ IsName s) (w : World) :
  Calls Tryz.prog 64 #[.string s] w fun e w' => e = .returned (.string s) ∧ Below w.heap.size w w' := by
 go_enter Tryz.func64, Tryz.ntmps64
 go_wp2_with fail
 refine (rLabels_none s hm hn _).mono ?_
 rintro e w1 ⟨rfl, hb1⟩
 go_wp2
 go_ret
 exact ⟨rfl, hb1⟩
theorem flat_low_le (ls : List (List UInt8)) (k : Nat) : (flat (lowN (ls.take k))).length ≤ (flat ls).length := by
 rw [flat_low_length]
 have : flat ls = flat (ls.take k) ++ flat (ls.drop k) := by rw [← flat_append, List.take_append_drop]
 rw [this, List.length_append]; omega
set_option maxRecDepth 100000 in
set_option maxHeartbeats 4000000 in
theorem rLower_yes (ls : List (List UInt8)) (ho : OkN ls) (w : World) :
  Calls Tryz.prog 64 #[.string (nm ls)] w fun e w' => e = .returned (.string (nm (lowN ls))) ∧ Below w.heap.size w w' := by
 have hlen := ho.len
 have hcnt := ho.count
 have hmo : Tryz.prog.follows Departure.mixedOrders = true := by kernel_rfl
 go_enter Tryz.func64, Tryz.ntmps64
 go_wp2_with fail
 refine (rLabels_yes ls ho _).mono ?_
 rintro e w1 ⟨⟨v, rfl, hv⟩, hb1⟩
 obtain ⟨q, cp, hq⟩ := hv.form
 subst hq
 go_wp2
 go_loopw [5, 6] (fun sv i wr => ∃ (k : Nat) (s : ByteArray), k ≤ ls.length ∧ i = .int .i64 k ∧ sv = .string s ∧ Hid (s.data.toList = flat (lowN (ls.take k))) ∧ s.size ≤ 254 ∧ Below w1.heap.size w1 wr) (fun _ i _ => ls.length - (intOf i).toNat)
 case atStart => exact ⟨0, ⟨#[]⟩, Nat.zero_le _, rfl, rfl, rfl, by decide, Below.refl _ _⟩
 case round =>
  obtain ⟨k, s, hk, rfl, rfl, hfl, hsz, hbl⟩ := hrel
  by_cases hlt : k < ls.length
  ·obtain ⟨g, hg, hgq, hcl⟩ : ∃ g, q = some ⟨g, 0, none⟩ ∧ g < w1.heap.size ∧ w1.cell? ⟨g, k, none⟩ = some (strV ls[k]) := by
    rcases hv with ⟨_, h⟩ | ⟨g, cap, hv, hg, hc⟩
    ·rw [h] at hlt; simp at hlt
    ·cases hv; exact ⟨g, rfl, hg, hc k hlt⟩
   subst hg
   obtain ⟨t, ht1, ht2, ht3⟩ := toBA ls[k]
   have hgd := ho.lab _ (List.getElem_mem hlt)
   have hcx : wr.cell? ⟨g, k, none⟩ = some (.string t) := by rw [← ht1]; exact (hbl.cell (p := ⟨g, k, none⟩) hgq).trans hcl
   have h1 : 1 ≤ t.size := by rw [ht3]; exact hgd.1
   have h2 : t.size ≤ 63 := by rw [ht3]; exact hgd.2
   have hgw : g < wr.heap.size := Nat.lt_of_lt_of_le hgq hbl.size
   have hcv : ∀ (g' : Nat) (W : World), W.cell? ⟨g', 0, none⟩ = some (.int .u8 (t.size : Int)) → (convert 143 9 (.slice (some ⟨g', 0, none⟩) 1 1)).run Tryz.prog W = .ok (.string ⟨#[UInt8.ofNat t.size]⟩) W := fun g' W hW => by
    have := run_convert_bytes_back (P := Tryz.prog) W 143 9 5 ⟨g', 0, none⟩ 1 [UInt8.ofNat t.size] Tryz.underlying143 Tryz.underlying5 Tryz.underlying9 (fun j hj => by
     have e : j = 0 := by simpa using hj
     subst e
     rw [add_at, hW]
     simp; omega)
    simpa using this
   obtain ⟨u, hu⟩ : ∃ u : ByteArray, (⟨(t.data.toList.map lowB).toArray⟩ : ByteArray) = u := ⟨_, rfl⟩
   have hus : u.size = t.size := by rw [← hu, ba_size, List.length_map, size_list]
   have hSm := small_in t (by omega)
   rw [hu] at hSm
   have HSm := Hid.mk hSm
   have HT : Hid (flat (lowN (ls.take (k + 1))) = flat (lowN (ls.take k)) ++ (UInt8.ofNat t.size :: u.data.toList)) := by
    rw [Hid, List.take_succ_eq_append_getElem hlt]
    have : lowN (ls.take k ++ [ls[k]]) = lowN (ls.take k) ++ [ls[k].map lowB] := lowN_append _ _
    rw [this, flat_snoc, List.length_map, ← ht2, size_list, ← hu]
   have hcz : (s ++ ⟨#[UInt8.ofNat t.size]⟩ ++ u).size = s.size + 1 + u.size := by
    rw [ByteArray.size_append, ByteArray.size_append]; rfl
   have hle2 : s.size + 1 + u.size ≤ 254 := by
    have h5 := flat_low_le ls (k + 1)
    rw [HT.out, List.length_append, List.length_cons, ← hfl.out, size_list, size_list] at h5
    omega
   have HCZ := Hid.mk hcz
   have hu63 : u.size ≤ 63 := by omega
   have hw8 : IntKind.u8.wrap (t.size : Int) = (t.size : Int) := by rw [IntKind.wrap_u8]; omega
   clear ht1 ht2 ht3 hcz hu hSm hv hcl hus hgd
   go_wp2
   have hlow : ∀ W W' : World, Below wr.heap.size wr W → Below W.heap.size W W' → Below wr.heap.size wr W' ∧ W'.cell? ⟨g, k, none⟩ = some (.string t) := by
    intro W W' h1 h2
    have h3 : Below wr.heap.size wr W' := h1.trans (h2.mono h1.size)
    exact ⟨h3, (h3.cell (p := ⟨g, k, none⟩) hgw).trans hcx⟩
   have hlow2 : ∀ W' : World, Below ((wr.alloc (.cells #[.int .u8 (t.size : Int)] 5)).drew).heap.size ((wr.alloc (.cells #[.int .u8 (t.size : Int)] 5)).drew) W' → Below wr.heap.size wr W' ∧ W'.cell? ⟨g, k, none⟩ = some (.string t) ∧ W'.cell? ⟨wr.heap.size, 0, none⟩ = some (.int .u8 (t.size : Int)) := by
    intro W' h2
    obtain ⟨h3, h4⟩ := hlow _ W' (((Below.refl _ wr).alloc (Nat.le_refl _) _).drew) h2
    exact ⟨h3, h4, (h2.cell (p := ⟨wr.heap.size, 0, none⟩) (by show wr.heap.size < (wr.heap.push _).size; simp)).trans (Boxed.new wr 5 _).cell⟩
   have HL2 : Hid (∀ (G : Prop) (W' : World), Below ((wr.alloc (.cells #[.int .u8 (t.size : Int)] 5)).drew).heap.size ((wr.alloc (.cells #[.int .u8 (t.size : Int)] 5)).drew) W' → (Below wr.heap.size wr W' → W'.cell? ⟨g, k, none⟩ = some (.string t) → W'.cell? ⟨wr.heap.size, 0, none⟩ = some (.int .u8 (t.size : Int)) → G) → G) :=
    fun G W' h hG => hG (hlow2 W' h).1 (hlow2 W' h).2.1 (hlow2 W' h).2.2
   have HL1 : Hid (∀ (G : Prop) (W' : World), Below wr.drew.heap.size wr.drew W' → (Below wr.heap.size wr W' → W'.cell? ⟨g, k, none⟩ = some (.string t) → wr.heap.size ≤ W'.heap.size → G) → G) :=
    fun G W' h hG => hG (hlow _ W' ((Below.refl _ wr).drew) h).1 (hlow _ W' ((Below.refl _ wr).drew) h).2 h.size
   clear hlow hlow2
   go_region_with (go_at_call 96; refine (HSm.out _).mono ?_; rintro e w3 ⟨rfl, hb3⟩; (first | refine HL2.out _ w3 hb3 ?_ | refine HL1.out _ w3 hb3 ?_); intro hB3 hcx3 hcn3; clear hb3)
   all_goals go_wp2
   all_goals
    refine ⟨⟨k + 1, s ++ ⟨#[UInt8.ofNat t.size]⟩ ++ u, by omega, by go_num, rfl, ?_, ?_, ?_⟩, by simp [intOf]; omega⟩
    ·rw [Hid, HT.out, ← hfl.out, ByteArray.data_append, ByteArray.data_append, Array.toList_append, Array.toList_append, List.append_assoc]; rfl
    ·rw [HCZ.out]; exact hle2
    ·have hZ := hbl.trans (hB3.mono hbl.size)
     first | exact hZ | exact hZ.alloc hZ.size _ | exact (hZ.alloc hZ.size _).drew | exact hZ.drew | exact hZ.drew.alloc hZ.size _
  ·have hall : ls.take k = ls := List.take_of_length_le (by omega)
   have hR : s ++ (⟨#[0]⟩ : ByteArray) = nm (lowN ls) := by
    have hf := hfl.out
    rw [hall] at hf
    apply ba_ext
    rw [ByteArray.data_append, Array.toList_append, hf]; rfl
   have HR := Hid.mk hR
   clear hR hall hv
   go_wp2
   go_ret
   exact ⟨by rw [← HR.out]; rfl, bthen hb1 hbl⟩
theorem rEqual_yes (a b : List (List UInt8)) (ha : OkN a) (hb : OkN b) (w : World) :
  Calls Tryz.prog 29 #[.string (nm a), .string (nm b)] w fun e w' => e = .returned (.bool (eqB a b)) ∧ Below w.heap.size w w' := by
 go_enter Tryz.func29, Tryz.ntmps29
 go_wp2_with fail
 refine (rRight_yes a ha _).mono ?_
 rintro e w1 ⟨rfl, hb1⟩
 go_wp2_with fail
 refine (rRight_yes b hb _).mono ?_
 rintro e w2 ⟨rfl, hb2⟩
 go_wp2_with fail
 refine (rLower_yes a ha _).mono ?_
 rintro e w3 ⟨rfl, hb3⟩
 go_wp2_with fail
 refine (rLower_yes b hb _).mono ?_
 rintro e w4 ⟨rfl, hb4⟩
 go_wp2
 go_ret
 refine ⟨?_, bthen hb1 (bthen hb2 (bthen hb3 hb4))⟩
 show Ending.returned (.bool ((nm (lowN a)).toList == (nm (lowN b)).toList)) = _
 congr 2
 rw [eqB, Bool.eq_iff_iff, beq_iff_eq, decide_eq_true_iff, ByteArray.toList_eq, ByteArray.toList_eq]
 exact ⟨fun h => nm_inj ha.low hb.low (ba_ext h), fun h => by rw [h]⟩
theorem rEqual_no (s t : ByteArray) (hs : s.size ≤ maxLen) (ht : t.size ≤ maxLen) (h : ¬ (IsName s ∧ IsName t)) (w : World) :
  Calls Tryz.prog 29 #[.string s, .string t] w fun e w' => e = .returned (.bool false) ∧ Below w.heap.size w w' := by
 by_cases h1 : IsName s
 ·have h2 : ¬ IsName t := fun h2 => h ⟨h1, h2⟩
  obtain ⟨a, ha, rfl⟩ := h1
  go_enter Tryz.func29, Tryz.ntmps29
  go_wp2_with fail
  refine (rRight_yes a ha _).mono ?_
  rintro e w1 ⟨rfl, hb1⟩
  go_wp2_with fail
  refine (rRight_no t ht h2 _).mono ?_
  rintro e w2 ⟨rfl, hb2⟩
  go_wp2
  go_ret
  exact ⟨rfl, bthen hb1 hb2⟩
 ·by_cases h2 : IsName t
  ·obtain ⟨b, hb, rfl⟩ := h2
   go_enter Tryz.func29, Tryz.ntmps29
   go_wp2_with fail
   refine (rRight_no s hs h1 _).mono ?_
   rintro e w1 ⟨rfl, hb1⟩
   go_wp2_with fail
   refine (rRight_yes b hb _).mono ?_
   rintro e w2 ⟨rfl, hb2⟩
   go_wp2
   go_ret
   exact ⟨rfl, bthen hb1 hb2⟩
  ·go_enter Tryz.func29, Tryz.ntmps29
   go_wp2_with fail
   refine (rRight_no s hs h1 _).mono ?_
   rintro e w1 ⟨rfl, hb1⟩
   go_wp2_with fail
   refine (rRight_no t ht h2 _).mono ?_
   rintro e w2 ⟨rfl, hb2⟩
   go_wp2
   go_ret
   exact ⟨rfl, bthen hb1 hb2⟩
end Go.Proofs.YtdlcldjlfhmlgaaGreatDoor.U
/- The document's own Under (guidepostref01). -/
namespace Go.Proofs.YtdlcldjlfhmlgaaGreatDoor.U
open Go.RowKit
theorem suffix_at {A B : List (List UInt8)} (hle : B.length ≤ A.length) (h : ∀ i (hi : i < B.length), A[A.length - B.length + i]'(by omega) = B[i]) : B <:+ A := by
 have : A.drop (A.length - B.length) = B := by
  apply List.ext_getElem
  ·simp; omega
  ·intro i h1 h2
   rw [List.getElem_drop]; exact h i h2
 rw [← this]; exact List.drop_suffix _ _
theorem suffix_get {A B : List (List UInt8)} (h : B <:+ A) : B.length ≤ A.length ∧ ∀ i (hi : i < B.length) (hj : A.length - B.length + i < A.length), A[A.length - B.length + i] = B[i] := by
 obtain ⟨p, rfl⟩ := h
 refine ⟨by simp, fun i hi hj => ?_⟩
 have e : (p ++ B).length - B.length + i = p.length + i := by simp
 simp only [e]
 rw [List.getElem_append_right (by omega)]
 simp
set_option maxHeartbeats 2000000 in
theorem rUnder_yes (a b : List (List UInt8)) (ha : OkN a) (hb : OkN b) (w : World) :
  Calls Tryz.prog 31 #[.string (nm a), .string (nm b)] w fun e w' => e = .returned (.bool (undB a b)) ∧ Below w.heap.size w w' := by
 have hca := ha.low.count
 have hcb := hb.low.count
 have hU := undB_iff a b
 generalize undB a b = r at hU ⊢
 have HU := Hid.mk hU
 clear hU
 go_enter Tryz.func31, Tryz.ntmps31
 go_wp2_with fail
 refine (rLower_yes a ha _).mono ?_
 rintro e w1 ⟨rfl, hb1⟩
 go_wp2_with fail
 refine (rLabels_yes (lowN a) ha.low _).mono ?_
 rintro e w2 ⟨⟨va, rfl, hva⟩, hb2⟩
 go_wp2_with fail
 refine (rLower_yes b hb _).mono ?_
 rintro e w3 ⟨rfl, hb3⟩
 go_wp2_with fail
 refine (rLabels_yes (lowN b) hb.low _).mono ?_
 rintro e w4 ⟨⟨vb, rfl, hvb⟩, hb4⟩
 have hva4 := (hva.below (bthen hb3 hb4)).mono (bthen hb3 hb4).size
 have k4 := bthen hb1 (bthen hb2 (bthen hb3 hb4))
 clear hva hb1 hb2 hb3 hb4
 generalize lowN a = A at *
 generalize lowN b = B at *
 obtain ⟨qa, ca, hqa⟩ := hva4.form
 subst hqa
 obtain ⟨qb, cb, hqb⟩ := hvb.form
 subst hqb
 by_cases hlt : A.length < B.length
 ·have hf : r = false := by
   cases hr : r with
   | false => rfl
   | true => have := (suffix_get (HU.out.1 hr)).1; omega
  subst hf
  clear hva4 hvb
  go_wp2
  go_ret
  exact ⟨rfl, k4⟩
 ·have hd : decide ((A.length : Int) < (B.length : Int)) = false := by simp; omega
  go_wp2
  go_loopw [9] (fun i wr => ∃ k : Nat, k ≤ B.length ∧ i = .int .i64 k ∧ Hid (∀ j (hj : j < k) (h1 : A.length - B.length + j < A.length) (h2 : j < B.length), A[A.length - B.length + j] = B[j]) ∧ ∃ n, wr = w4.drewN n) (fun i _ => B.length - (intOf i).toNat)
  case atStart => exact ⟨0, Nat.zero_le _, rfl, fun j hj => absurd hj (by omega), 0, rfl⟩
  case round =>
   obtain ⟨k, hk, rfl, hag, n, rfl⟩ := hrel
   by_cases hkl : k < B.length
   ·obtain ⟨ga, hga, x, hxl, hc1⟩ : ∃ g, qa = some ⟨g, 0, none⟩ ∧ ∃ x : ByteArray, Hid (x.data.toList = A[A.length - B.length + k]'(by omega)) ∧ w4.cell? ⟨g, A.length - B.length + k, none⟩ = some (.string x) := by
     rcases hva4 with ⟨_, h⟩ | ⟨g, cap, hv, hg, hc⟩
     ·rw [h] at hlt; simp at hlt; rw [hlt] at hkl; simp at hkl
     ·cases hv; exact ⟨g, rfl, ⟨(A[A.length - B.length + k]'(by omega)).toArray⟩, rfl, hc _ (by omega)⟩
    obtain ⟨gb, hgb, y, hyl, hc2⟩ : ∃ g, qb = some ⟨g, 0, none⟩ ∧ ∃ y : ByteArray, Hid (y.data.toList = B[k]) ∧ w4.cell? ⟨g, k, none⟩ = some (.string y) := by
     rcases hvb with ⟨_, h⟩ | ⟨g, cap, hv, hg, hc⟩
     ·rw [h] at hkl; simp at hkl
     ·cases hv; exact ⟨g, rfl, ⟨B[k].toArray⟩, rfl, hc _ hkl⟩
    subst hga
    subst hgb
    have hw1 : IntKind.i64.wrap ((A.length : Int) - (B.length : Int)) = ((A.length - B.length : Nat) : Int) := by rw [IntKind.wrap_i64]; omega
    have hw2 : IntKind.i64.wrap (((A.length - B.length : Nat) : Int) + (k : Int)) = ((A.length - B.length + k : Nat) : Int) := by rw [IntKind.wrap_i64]; omega
    have hi1 : A.length - B.length + k < A.length := by omega
    by_cases heq : A[A.length - B.length + k]'(by omega) = B[k]
    ·have hbe : (x.toList == y.toList) = true := by rw [beq_iff_eq, ByteArray.toList_eq, ByteArray.toList_eq, hxl.out, hyl.out]; exact heq
     have HA : Hid (∀ j (hj : j < k + 1) (h1 : A.length - B.length + j < A.length) (h2 : j < B.length), A[A.length - B.length + j] = B[j]) := by
      intro j hj h1 h2
      by_cases e : j = k
      ·subst e; exact heq
      ·exact hag.out j (by omega) h1 h2
     clear heq hag hva4 hvb
     go_wp2
     go_quiet (fail)
     go_wp2
     go_roundw
     case rel => exact ⟨k + 1, by omega, by go_num, HA, _, rfl⟩
     case measure => simp [intOf]; omega
    ·have hbe : (x.toList == y.toList) = false := by rw [beq_eq_false_iff_ne, ByteArray.toList_eq, ByteArray.toList_eq, hxl.out, hyl.out]; exact heq
     have hf : r = false := by
      cases hr : r with
      | false => rfl
      | true => exact absurd ((suffix_get (HU.out.1 hr)).2 k hkl hi1) heq
     subst hf
     clear heq hag hva4 hvb
     go_wp2
     go_quiet (fail)
     go_wp2
     go_ret
     refine ⟨rfl, ?_⟩
     first | exact below_drewN k4 _ | (rw [World.drewN_drewN]; exact below_drewN k4 _)
   ·have ht : r = true := HU.out.2 (suffix_at (by omega) (fun i hi => hag.out i (by omega) (by omega) hi))
    subst ht
    clear hag hva4 hvb
    go_wp2
    go_ret
    exact ⟨rfl, below_drewN k4 _⟩
set_option maxHeartbeats 1000000 in
theorem rUnder_no (s t : ByteArray) (hs : s.size ≤ maxLen) (ht : t.size ≤ maxLen) (h : ¬ (IsName s ∧ IsName t)) (w : World) :
  Calls Tryz.prog 31 #[.string s, .string t] w fun e w' => e = .returned (.bool false) ∧ Below w.heap.size w w' := by
 by_cases h1 : IsName s
 ·have h2 : ¬ IsName t := fun h2 => h ⟨h1, h2⟩
  obtain ⟨a, ha, rfl⟩ := h1
  go_enter Tryz.func31, Tryz.ntmps31
  go_wp2_with fail
  refine (rLower_yes a ha _).mono ?_
  rintro e w1 ⟨rfl, hb1⟩
  go_wp2_with fail
  refine (rLabels_yes (lowN a) ha.low _).mono ?_
  rintro e w2 ⟨⟨va, rfl, hva⟩, hb2⟩
  obtain ⟨qa, ca, hqa⟩ := hva.form
  subst hqa
  clear hva
  go_wp2_with fail
  refine (rLower_no t ht h2 _).mono ?_
  rintro e w3 ⟨rfl, hb3⟩
  go_wp2_with fail
  refine (rLabels_none t ht h2 _).mono ?_
  rintro e w4 ⟨rfl, hb4⟩
  go_wp2
  go_ret
  exact ⟨rfl, bthen hb1 (bthen hb2 (bthen hb3 hb4))⟩
 ·by_cases h2 : IsName t
  ·obtain ⟨b, hb, rfl⟩ := h2
   go_enter Tryz.func31, Tryz.ntmps31
   go_wp2_with fail
   refine (rLower_no s hs h1 _).mono ?_
   rintro e w1 ⟨rfl, hb1⟩
   go_wp2_with fail
   refine (rLabels_none s hs h1 _).mono ?_
   rintro e w2 ⟨rfl, hb2⟩
   go_wp2_with fail
   refine (rLower_yes b hb _).mono ?_
   rintro e w3 ⟨rfl, hb3⟩
   go_wp2_with fail
   refine (rLabels_yes (lowN b) hb.low _).mono ?_
   rintro e w4 ⟨⟨vb, rfl, hvb⟩, hb4⟩
   obtain ⟨qb, cb, hqb⟩ := hvb.form
   subst hqb
   clear hvb
   go_wp2
   go_ret
   exact ⟨rfl, bthen hb1 (bthen hb2 (bthen hb3 hb4))⟩
  ·go_enter Tryz.func31, Tryz.ntmps31
   go_wp2_with fail
   refine (rLower_no s hs h1 _).mono ?_
   rintro e w1 ⟨rfl, hb1⟩
   go_wp2_with fail
   refine (rLabels_none s hs h1 _).mono ?_
   rintro e w2 ⟨rfl, hb2⟩
   go_wp2_with fail
   refine (rLower_no t ht h2 _).mono ?_
   rintro e w3 ⟨rfl, hb3⟩
   go_wp2_with fail
   refine (rLabels_none t ht h2 _).mono ?_
   rintro e w4 ⟨rfl, hb4⟩
   go_wp2
   go_ret
   exact ⟨rfl, bthen hb1 (bthen hb2 (bthen hb3 hb4))⟩
end Go.Proofs.YtdlcldjlfhmlgaaGreatDoor.U
