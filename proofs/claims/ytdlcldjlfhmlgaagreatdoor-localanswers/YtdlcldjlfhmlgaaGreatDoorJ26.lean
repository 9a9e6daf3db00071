/- Texts of this proof, joined: DBytes, DRefF, DRefRd, DRefSt, DRefSoa. -/
import Derived.Test.YtdlcldjlfhmlgaaGreatDoorJ6
import Derived.Test.YtdlcldjlfhmlgaaGreatDoorJ9
import Derived.Test.YtdlcldjlfhmlgaaGreatDoorJ7
import Derived.Test.YtdlcldjlfhmlgaaGreatDoorJ20
import Derived.Test.YtdlcldjlfhmlgaaGreatDoorJ25
set_option linter.unusedVariables false
set_option linter.unusedSimpArgs false
/- bytesOf: a number as one, two or four bytes. -/
namespace Go.Proofs.YtdlcldjlfhmlgaaGreatDoor
open Go.RowKit
def bytesB (n w : Nat) : List UInt8 := (List.range w).map fun i => UInt8.ofNat (n / 256 ^ (w - 1 - i))
theorem bytesB_len (n w : Nat) : (bytesB n w).length = w := by simp [bytesB]
theorem byte_back (q : Nat) (b : UInt8) (h : q % 256 = b.toNat) : UInt8.ofNat q = b := by
 apply UInt8.toNat_inj.1
 rw [UInt8.toNat_ofNat']
 exact h
theorem bytesB1 (n : Nat) : bytesB n 1 = [UInt8.ofNat n] := by simp [bytesB, List.range_succ]
theorem bytesB2 (n : Nat) : bytesB n 2 = [UInt8.ofNat (n / 256), UInt8.ofNat n] := by simp [bytesB, List.range_succ]
theorem bytesB4 (n : Nat) : bytesB n 4 = [UInt8.ofNat (n / 16777216), UInt8.ofNat (n / 65536), UInt8.ofNat (n / 256), UInt8.ofNat n] := by simp [bytesB, List.range_succ]
theorem bytesB_num (l : List UInt8) (h : l.length = 1 ∨ l.length = 2 ∨ l.length = 4) : bytesB (numB l) l.length = l := by
 rcases h with h | h | h
 ·match l, h with
  | [a], _ =>
   have ha := a.toNat_lt
   rw [show [a].length = 1 from rfl, bytesB1, byte_back (numB [a]) a (by simp only [numB, List.foldl]; omega)]
 ·match l, h with
  | [a, b], _ =>
   have ha := a.toNat_lt
   have hb := b.toNat_lt
   rw [show [a, b].length = 2 from rfl, bytesB2, byte_back (numB [a, b] / 256) a (by simp only [numB, List.foldl]; omega), byte_back (numB [a, b]) b (by simp only [numB, List.foldl]; omega)]
 ·match l, h with
  | [a, b, c, d], _ =>
   have ha := a.toNat_lt
   have hb := b.toNat_lt
   have hc := c.toNat_lt
   have hd := d.toNat_lt
   rw [show [a, b, c, d].length = 4 from rfl, bytesB4, byte_back (numB [a, b, c, d] / 16777216) a (by simp only [numB, List.foldl]; omega), byte_back (numB [a, b, c, d] / 65536) b (by simp only [numB, List.foldl]; omega), byte_back (numB [a, b, c, d] / 256) c (by simp only [numB, List.foldl]; omega), byte_back (numB [a, b, c, d]) d (by simp only [numB, List.foldl]; omega)]
theorem cells_put {W : World} {b j : Nat} {cs : Array Value} {t : TypeId} (h : W.heap[b]? = some (.cells cs t (0, 0))) (u : Value) : (W.setCell ⟨b, j, none⟩ u).heap[b]? = some (.cells (cs.setIfInBounds j u) t (0, 0)) := by
 simp only [World.setCell, Array.getElem?_modify, h]
 rfl
theorem cells_at {W : World} {b j : Nat} {cs : Array Value} {t : TypeId} {v : Value} (h : W.heap[b]? = some (.cells cs t (0, 0))) (hj : cs[j]? = some v) : W.cell? ⟨b, j, none⟩ = some v ∧ W.frozen? ⟨b, j, none⟩ = false := by
 simp [World.cell?, World.frozen?, h, hj]
theorem wrapu8 (x : Int) (q : Nat) (h : x = (q : Int)) : IntKind.u8.wrap x = (((UInt8.ofNat q).toNat : Nat) : Int) := by
 rw [IntKind.wrap_u8, UInt8.toNat_ofNat', h]
 omega
end Go.Proofs.YtdlcldjlfhmlgaaGreatDoor
/- The document's own reader, on bytes alone: what its steps say of data in pieces. -/
namespace Go.Proofs.YtdlcldjlfhmlgaaGreatDoor
open Go.RowKit
def tkS (n : Nat) (s : ByteArray) : ByteArray := if n ≤ s.size then s.extract 0 n else ⟨#[]⟩
def tkR (n : Nat) (s : ByteArray) : ByteArray := if n ≤ s.size then s.extract n s.size else ⟨#[]⟩
theorem tkR_le (n : Nat) (s : ByteArray) : (tkR n s).size ≤ s.size := by
 unfold tkR
 split
 ·rw [ByteArray.size_extract]; omega
 ·exact Nat.zero_le _
theorem tkS_le (n : Nat) (s : ByteArray) : (tkS n s).size ≤ n ∧ (tkS n s).size ≤ s.size := by
 unfold tkS
 split
 ·rw [ByteArray.size_extract]; omega
 ·exact ⟨Nat.zero_le _, Nat.zero_le _⟩
structure Stp (p : PK) (r : ByteArray) (b : Bool) (s r' : ByteArray) (b' : Bool) : Prop where
 none : passK p r = none → b' = true
 keep : b = true → b' = true
 some : ∀ m, passK p r = some m → b = false → s = r.extract 0 m ∧ r' = r.extract m r.size ∧ b' = false
theorem Stp.or {p : PK} {r s r' : ByteArray} {b b' : Bool} (h : Stp p r b s r' b') (c : Bool) : Stp p r (b || c) s r' (b' || c) := by
 refine ⟨fun e => by rw [h.none e]; rfl, fun e => ?_, fun m e hb => ?_⟩
 ·cases c with
  | true => simp
  | false => rw [Bool.or_false] at e ⊢; exact h.keep e
 ·cases c with
  | true => simp at hb
  | false =>
   rw [Bool.or_false] at hb ⊢
   exact h.some m e hb
inductive Chn : List PK → ByteArray → Bool → List ByteArray → ByteArray → Bool → Prop
 | nil {r : ByteArray} {b : Bool} : Chn [] r b [] r b
 | cons {p : PK} {ps : List PK} {r s r1 r' : ByteArray} {b b1 b' : Bool} {ss : List ByteArray} : Stp p r b s r1 b1 → Chn ps r1 b1 ss r' b' → Chn (p :: ps) r b (s :: ss) r' b'
theorem Chn.keep {ps : List PK} {r r' : ByteArray} {b b' : Bool} {ss : List ByteArray} (h : Chn ps r b ss r' b') : b = true → b' = true := by
 induction h with
 | nil => exact id
 | cons h1 _ ih => exact fun e => ih (h1.keep e)
theorem Chn.cut {ps : List PK} {r r' : ByteArray} {b b' : Bool} {ss : List ByteArray} (h : Chn ps r b ss r' b') (hb : b = false) : (b' = false ∧ cutF ps r = Option.some (ss, r')) ∨ (b' = true ∧ cutF ps r = Option.none) := by
 induction h with
 | nil => exact .inl ⟨hb, rfl⟩
 | @cons p ps r s r1 r' b b1 b' ss h1 h2 ih =>
  cases hp : passK p r with
  | none =>
   right
   refine ⟨h2.keep (h1.none hp), ?_⟩
   rw [cutF, hp]
  | some m =>
   obtain ⟨e1, e2, e3⟩ := h1.some m hp hb
   rcases ih e3 with ⟨k1, k2⟩ | ⟨k1, k2⟩
   ·left
    refine ⟨k1, ?_⟩
    rw [cutF, hp]
    simp only
    rw [← e2, k2, ← e1]
    rfl
   ·right
    refine ⟨k1, ?_⟩
    rw [cutF, hp]
    simp only
    rw [← e2, k2]
    rfl
theorem Chn.split {k : Int} {d r' : ByteArray} {b' : Bool} {ss : List ByteArray} (hk : 0 ≤ k ∧ k ≤ 65535) (h : Chn (formOf k) d false ss r' b') :
  (b' = false ∧ r'.size = 0 ∧ d.size ≤ 2000 ∧ splitR k d = Option.some ss) ∨ ((b' = true ∨ 0 < r'.size ∨ 2000 < d.size) ∧ splitR k d = Option.none) := by
 by_cases hd : d.size ≤ 2000
 ·have e : splitR k d = fin (pfK (formOf k)) (formOf k).length d := if_pos ⟨hk, hd⟩
  rw [fin_eq] at e
  rcases h.cut rfl with ⟨h1, h2⟩ | ⟨h1, h2⟩
  ·rw [h2] at e
   simp only at e
   by_cases h0 : r'.size = 0
   ·left
    rw [if_pos h0] at e
    exact ⟨h1, h0, hd, e⟩
   ·right
    rw [if_neg h0] at e
    exact ⟨.inr (.inl (by omega)), e⟩
  ·right
   rw [h2] at e
   exact ⟨.inl h1, e⟩
 ·right
  exact ⟨.inr (.inr (by omega)), split_none k d (fun h => hd h.2)⟩
theorem stp_take (p : PK) (n : Nat) (hp : ∀ x, passK p x = takeK n x) (s : ByteArray) (b : Bool) : Stp p s b (tkS n s) (tkR n s) (b || decide (s.size < n)) := by
 refine ⟨fun e => ?_, fun e => by rw [e]; rfl, fun m e hb => ?_⟩
 ·rw [hp, takeK] at e
  split at e
  ·cases e
  ·rw [decide_eq_true (by omega)]; simp
 ·rw [hp, takeK] at e
  split at e
  ·rename_i h
   cases e
   refine ⟨by rw [tkS, if_pos h], by rw [tkR, if_pos h], ?_⟩
   rw [hb, decide_eq_false (by omega)]; rfl
  ·cases e
theorem stp_all (s : ByteArray) (b : Bool) : Stp .hex s b s ⟨#[]⟩ (b || decide (s.size < 1)) := by
 refine ⟨fun e => ?_, fun e => by rw [e]; rfl, fun m e hb => ?_⟩
 ·simp only [passK] at e
  split at e
  ·cases e
  ·rw [decide_eq_true (by omega)]; simp
 ·simp only [passK] at e
  split at e
  ·cases e
   refine ⟨by rw [cut_all], by rw [end_cut], ?_⟩
   rw [hb, decide_eq_false (by omega)]; rfl
  ·cases e
def OnWay (r : ByteArray) (n : Nat) : Prop := ∀ ls t, OkN ls → r = nm ls ++ t → ∃ p q, ls = p ++ q ∧ n = (flat p).length
theorem onWay_first (r : ByteArray) : OnWay r 0 := fun ls t _ _ => ⟨[], ls, rfl, rfl⟩
theorem at_way {p q : List (List UInt8)} {t : ByteArray} : (nm (p ++ q) ++ t).data.toList[(flat p).length]? = some (match q with | [] => 0 | l :: _ => UInt8.ofNat l.length) := by
 rw [app_list, nm_list, nmL, flat_append]
 cases q with
 | nil => simp [flat]
 | cons l q => simp [flat]
theorem onWay_at {r : ByteArray} {n : Nat} (h : OnWay r n) {ls : List (List UInt8)} {t : ByteArray} (ho : OkN ls) (e : r = nm ls ++ t) : ∃ hn : n < r.size, (r[n].toNat ≤ 63 ∧ (r[n].toNat = 0 → n = (flat ls).length)) := by
 obtain ⟨p, q, rfl, rfl⟩ := h ls t ho e
 have ha := at_way (p := p) (q := q) (t := t)
 rw [← e] at ha
 obtain ⟨hl, hx⟩ := List.getElem?_eq_some_iff.1 ha
 have hl' : (flat p).length < r.size := by rw [← size_list]; exact hl
 refine ⟨hl', ?_⟩
 rw [getElem_list _ _ hl'] at hx
 rw [hx]
 cases q with
 | nil => exact ⟨by simp, fun _ => by rw [List.append_nil]⟩
 | cons l q =>
  have hm := ho.lab l (by simp)
  have hu : (UInt8.ofNat l.length).toNat = l.length := by rw [UInt8.toNat_ofNat']; omega
  simp only
  rw [hu]
  exact ⟨hm.2, fun h0 => by omega⟩
theorem onWay_next {r : ByteArray} {n : Nat} (h : OnWay r n) (hn : n < r.size) (h0 : r[n].toNat ≠ 0) : OnWay r (n + 1 + r[n].toNat) := by
 intro ls t ho e
 obtain ⟨p, q, rfl, rfl⟩ := h ls t ho e
 have ha := at_way (p := p) (q := q) (t := t)
 rw [← e] at ha
 obtain ⟨hl, hx⟩ := List.getElem?_eq_some_iff.1 ha
 rw [getElem_list _ _ hn] at hx
 cases q with
 | nil => rw [hx] at h0; exact absurd rfl h0
 | cons l q =>
  have hm := ho.lab l (by simp)
  have hu : (UInt8.ofNat l.length).toNat = l.length := by rw [UInt8.toNat_ofNat']; omega
  refine ⟨p ++ [l], q, by simp, ?_⟩
  rw [hx]
  simp only
  rw [hu, flat_append]
  simp [flat]; omega
theorem stp_name {r : ByteArray} {n : Nat} (h : OnWay r n) (hend : ∀ hn : n < r.size, r[n].toNat = 0 ∨ 63 < r[n].toNat) (b c : Bool) (hc : c = true ↔ IsName (tkS (n + 1) r)) :
  Stp .name r b (tkS (n + 1) r) (tkR (n + 1) r) ((b || decide (r.size < n + 1)) || !c) := by
 have key : ∀ m, nameK r = Option.some m → m = n + 1 ∧ n + 1 ≤ r.size ∧ c = true := by
  intro m hm
  obtain ⟨h1, ls, ho, e⟩ := nameK_ok hm
  have hr := split_at r m h1
  rw [e] at hr
  obtain ⟨hn, h2, h3⟩ := onWay_at h ho hr
  have hn0 := hend hn
  have hfl := h3 (by omega)
  have hsz : m = (nm ls).size := by
   rw [← e, ByteArray.size_extract]; omega
  rw [nm_size, ← hfl] at hsz
  subst hsz
  refine ⟨rfl, h1, hc.2 ?_⟩
  rw [tkS, if_pos h1, e]
  exact ⟨ls, ho, rfl⟩
 refine ⟨fun e => ?_, fun e => by rw [e]; rfl, fun m e hb => ?_⟩
 ·cases c with
  | false => simp
  | true =>
   have hn := hc.1 rfl
   by_cases hs : n + 1 ≤ r.size
   ·exfalso
    rw [tkS, if_pos hs] at hn
    have := name_app hn (r.extract (n + 1) r.size)
    rw [← split_at r (n + 1) hs] at this
    have e' : nameK r = Option.none := e
    rw [e'] at this
    cases this
   ·rw [decide_eq_true (by omega)]; simp
 ·obtain ⟨rfl, h2, h3⟩ := key m e
  refine ⟨by rw [tkS, if_pos h2], by rw [tkR, if_pos h2], ?_⟩
  rw [hb, h3, decide_eq_false (by omega)]; rfl
theorem stp_salt (r : ByteArray) (b : Bool) : Stp .salt r b (⟨(UInt8.ofNat (numB (tkS 1 r).data.toList) :: (tkS (numB (tkS 1 r).data.toList) (tkR 1 r)).data.toList).toArray⟩) (tkR (numB (tkS 1 r).data.toList) (tkR 1 r)) ((b || decide (r.size < 1)) || decide ((tkR 1 r).size < numB (tkS 1 r).data.toList)) := by
 refine ⟨fun e => ?_, fun e => by rw [e]; rfl, fun m e hb => ?_⟩
 ·have e' : cntK r = Option.none := e
  rcases list_cases r with rfl | ⟨x, l, rfl⟩
  ·simp [ba_size]
  ·rw [cnt_cons] at e'
   split at e'
   ·cases e'
   ·rename_i hx
    have h1 : (tkS 1 ⟨(x :: l).toArray⟩).data.toList = [x] := by
     rw [tkS, if_pos (by rw [ba_size]; simp), Lib.extract_data]; simp
    have h2 : (tkR 1 ⟨(x :: l).toArray⟩).size = l.length := by
     rw [tkR, if_pos (by rw [ba_size]; simp), ByteArray.size_extract, ba_size]; simp
    rw [h1, h2, show numB [x] = x.toNat by simp [numB], decide_eq_true (show l.length < x.toNat by omega)]
    simp
 ·have e' : cntK r = Option.some m := e
  obtain ⟨x, l, rfl, hx, rfl⟩ := cnt_pos e'
  have hsz : (⟨(x :: l).toArray⟩ : ByteArray).size = l.length + 1 := by rw [ba_size]; simp
  have h1 : (tkS 1 ⟨(x :: l).toArray⟩).data.toList = [x] := by
   rw [tkS, if_pos (by omega), Lib.extract_data]; simp
  have h2 : tkR 1 ⟨(x :: l).toArray⟩ = ⟨l.toArray⟩ := by
   rw [tkR, if_pos (by omega)]
   apply ba_ext
   rw [Lib.extract_data, hsz]; simp
  have h3 : numB [x] = x.toNat := by simp [numB]
  have h4 : (⟨l.toArray⟩ : ByteArray).size = l.length := ba_size l
  rw [h1, h2, h3, tkS, tkR, if_pos (by omega), if_pos (by omega), hb, decide_eq_false (by omega), decide_eq_false (by omega)]
  refine ⟨?_, ?_, rfl⟩
  ·apply ba_ext
   rw [Lib.extract_data, Lib.extract_data, UInt8.ofNat_toNat, show 1 + x.toNat - 0 = x.toNat + 1 by omega]
   simp
  ·apply ba_ext
   rw [Lib.extract_data, Lib.extract_data, hsz, h4, Nat.add_comm 1]
   simp
theorem cnt_num {r : ByteArray} {m : Nat} (h : cntK r = Option.some m) : m = 1 + numB (tkS 1 r).data.toList := by
 obtain ⟨x, l, rfl, hx, rfl⟩ := cnt_pos h
 have h1 : (tkS 1 ⟨(x :: l).toArray⟩).data.toList = [x] := by
  rw [tkS, if_pos (by rw [ba_size]; simp), Lib.extract_data]; simp
 rw [h1]
 simp [numB]
theorem stp_hash {r s r' : ByteArray} {b b' : Bool} (H : Stp .salt r b s r' b') : Stp .hash r b s r' (b' || decide (numB (tkS 1 r).data.toList = 0)) := by
 refine ⟨fun e => ?_, fun e => by rw [H.keep e]; rfl, fun m e hb => ?_⟩
 ·have e' : hashK r = Option.none := e
  unfold hashK at e'
  cases hc : cntK r with
  | none => rw [H.none hc]; rfl
  | some m =>
   rw [hc] at e'
   simp only at e'
   split at e'
   ·cases e'
   ·have := cnt_num hc
    rw [decide_eq_true (by omega), Bool.or_true]
 ·have e' : hashK r = Option.some m := e
  unfold hashK at e'
  cases hc : cntK r with
  | none => rw [hc] at e'; cases e'
  | some j =>
   rw [hc] at e'
   simp only at e'
   split at e'
   ·cases e'
    have := cnt_num hc
    obtain ⟨k1, k2, k3⟩ := H.some m hc hb
    exact ⟨k1, k2, by rw [k3, decide_eq_false (by omega)]; rfl⟩
   ·cases e'
end Go.Proofs.YtdlcldjlfhmlgaaGreatDoor
/- The document's own reader (guidepostref02): the walks of its steps. -/
namespace Go.Proofs.YtdlcldjlfhmlgaaGreatDoor
open Go.RowKit
def RR (W : World) (d : Nat) (s : ByteArray) (b : Bool) : Prop := W.heap[d]? = some (.cells #[.string s, .bool b] 149 (0, 0))
theorem RR.c0 {W : World} {d : Nat} {s : ByteArray} {b : Bool} (h : RR W d s b) : W.cell? ⟨d, 0, none⟩ = some (.string s) ∧ W.frozen? ⟨d, 0, none⟩ = false := cells_at h rfl
theorem RR.c1 {W : World} {d : Nat} {s : ByteArray} {b : Bool} (h : RR W d s b) : W.cell? ⟨d, 1, none⟩ = some (.bool b) ∧ W.frozen? ⟨d, 1, none⟩ = false := cells_at h rfl
theorem RR.lt {W : World} {d : Nat} {s : ByteArray} {b : Bool} (h : RR W d s b) : d < W.heap.size := box_lt h
theorem RR.set0 {W : World} {d : Nat} {s : ByteArray} {b : Bool} (h : RR W d s b) (t : ByteArray) : RR (W.setCell ⟨d, 0, none⟩ (.string t)) d t b := cells_put (j := 0) h (.string t)
theorem RR.set1 {W : World} {d : Nat} {s : ByteArray} {b : Bool} (h : RR W d s b) (c : Bool) : RR (W.setCell ⟨d, 1, none⟩ (.bool c)) d s c := cells_put (j := 1) h (.bool c)
theorem RR.below {W W' : World} {d : Nat} {s : ByteArray} {b : Bool} (h : RR W d s b) (k : Below W.heap.size W W') : RR W' d s b := (k.block d h.lt).trans h
set_option maxRecDepth 100000 in
theorem rTake_in (W : World) (d n : Nat) (s : ByteArray) (b : Bool) (hs : s.size ≤ 140737488355328) (hn : n ≤ 140737488356000) (h : RR W d s b) :
  Calls Tryz.prog 136 #[boxV d, .int .i64 n] W fun e w' => e = .returned (.string (tkS n s)) ∧ RR w' d (tkR n s) (b || decide (s.size < n)) ∧ Kept d W w' := by
 obtain ⟨hc0, hf0⟩ := h.c0
 obtain ⟨hc1, hf1⟩ := h.c1
 by_cases hl : n ≤ s.size
 ·rw [tkS, if_pos hl, tkR, if_pos hl, decide_eq_false (by omega), Bool.or_false]
  have HH := Hid.mk h
  clear h
  go_enter Tryz.func136, Tryz.ntmps136
  go_wp2
  go_ret
  exact ⟨rfl, HH.out.set0 _, Kept.set _ _ _ _⟩
 ·rw [tkS, if_neg hl, tkR, if_neg hl, decide_eq_true (by omega), Bool.or_true]
  have HH := Hid.mk h
  have h2 := (h.set1 true).c0
  obtain ⟨hc2, hf2⟩ := h2
  clear h
  go_enter Tryz.func136, Tryz.ntmps136
  go_wp2
  go_ret
  exact ⟨rfl, (HH.out.set1 true).set0 _, (Kept.set _ _ _ _).trans (Kept.set _ _ _ _)⟩
set_option maxRecDepth 100000 in
set_option maxHeartbeats 1000000 in
theorem rNum_in (W : World) (d n : Nat) (s : ByteArray) (b : Bool) (hs : s.size ≤ 140737488355328) (hn : n ≤ 4) (h : RR W d s b) :
  Calls Tryz.prog 100 #[boxV d, .int .i64 n] W fun e w' => e = .returned (.int .i64 ((numB (tkS n s).data.toList : Nat) : Int)) ∧ RR w' d (tkR n s) (b || decide (s.size < n)) ∧ Kept d W w' := by
 have HT := Hid.mk (rTake_in W d n s b hs (by omega) h)
 have hk := (tkS_le n s).1
 generalize tkS n s = t at HT hk ⊢
 have ht : t.size ≤ 4 := by omega
 clear hk h
 go_enter Tryz.func100, Tryz.ntmps100
 go_wp2_with fail
 refine HT.out.mono ?_
 rintro e w1 ⟨rfl, hr1, hk1⟩
 have HR1 := Hid.mk hr1
 have HK1 := Hid.mk hk1
 clear hr1 hk1 HT
 go_wp2
 go_loopw [6, 7] (fun nv i wr => ∃ k : Nat, k ≤ t.size ∧ i = .int .i64 k ∧ nv = .int .i64 ((numB (t.data.toList.take k) : Nat) : Int) ∧ wr = w1) (fun _ i _ => t.size - (intOf i).toNat)
 case atStart => exact ⟨0, Nat.zero_le _, rfl, rfl, rfl⟩
 case round =>
  obtain ⟨k, hk, rfl, rfl, rfl⟩ := hrel
  by_cases hlt : k < t.size
  ·have hlt' : k < t.data.toList.length := by rw [size_list]; exact hlt
   have hb := t[k].toNat_lt
   have HN : Hid (numB (t.data.toList.take (k + 1)) = numB (t.data.toList.take k) * 256 + t[k].toNat) := by
    rw [Hid, List.take_succ_eq_append_getElem hlt', numB_snoc]; rfl
   have hlt6 : numB (t.data.toList.take k) < 4294967296 := by
    refine Nat.lt_of_lt_of_le (numB_lt _) ?_
    have : (t.data.toList.take k).length ≤ 4 := by rw [List.length_take]; omega
    exact Nat.le_trans (Nat.pow_le_pow_right (by omega) this) (by decide)
   generalize numB (t.data.toList.take k) = q at hlt6 HN ⊢
   go_wp2
   exact ⟨⟨k + 1, by omega, by go_num, by rw [HN.out]; go_num, trivial⟩, by simp [intOf]; omega⟩
  ·have hall : t.data.toList.take k = t.data.toList := List.take_of_length_le (by rw [size_list]; omega)
   rw [hall]
   go_wp2
   go_ret
   exact ⟨rfl, HR1.out, HK1.out⟩
set_option maxRecDepth 100000 in
theorem rAll_in (W : World) (d : Nat) (s : ByteArray) (b : Bool) (hs : s.size ≤ 140737488355328) (h : RR W d s b) :
  Calls Tryz.prog 102 #[boxV d, .int .i64 1] W fun e w' => e = .returned (.string s) ∧ RR w' d ⟨#[]⟩ (b || decide (s.size < 1)) ∧ Kept d W w' := by
 obtain ⟨hc0, hf0⟩ := h.c0
 obtain ⟨hc1, hf1⟩ := h.c1
 have HH := Hid.mk h
 cases b with
 | true =>
  obtain ⟨hc2, hf2⟩ := (h.set1 true).c0
  clear h
  go_enter Tryz.func102, Tryz.ntmps102
  go_wp2
  go_ret
  exact ⟨rfl, (HH.out.set1 true).set0 _, (Kept.set _ _ _ _).trans (Kept.set _ _ _ _)⟩
 | false =>
  have e0 : decide ((s.size : Int) < 1) = decide (s.size < 1) := decide_eq_decide.2 (by omega)
  obtain ⟨hc2, hf2⟩ := (h.set1 (decide ((s.size : Int) < 1))).c0
  have HE := Hid.mk e0
  clear h e0
  go_enter Tryz.func102, Tryz.ntmps102
  go_wp2
  go_ret
  rw [HE.out]
  exact ⟨rfl, (HH.out.set1 _).set0 _, (Kept.set _ _ _ _).trans (Kept.set _ _ _ _)⟩
open Classical in
theorem rRight_all (s : ByteArray) (hm : s.size ≤ maxLen) (w : World) :
  Calls Tryz.prog 28 #[.string s] w fun e w' => e = .returned (.bool (decide (IsName s))) ∧ Below w.heap.size w w' := by
 by_cases h : IsName s
 ·rw [decide_eq_true h]
  obtain ⟨ls, ho, rfl⟩ := h
  exact rRight_yes ls ho w
 ·rw [decide_eq_false h]
  exact rRight_no s hm h w
def NamePost (s : ByteArray) (b : Bool) (d : Nat) (W : World) (e : Ending) (w' : World) : Prop := ∃ t r' b', e = .returned (.string t) ∧ RR w' d r' b' ∧ Kept d W w' ∧ Stp .name s b t r' b' ∧ r'.size ≤ s.size
set_option maxRecDepth 100000 in
set_option maxHeartbeats 2000000 in
open Classical in
theorem rName_in (W : World) (d : Nat) (s : ByteArray) (b : Bool) (hs : s.size ≤ 140737488355328) (h : RR W d s b) :
  Calls Tryz.prog 101 #[boxV d] W fun e w' => NamePost s b d W e w' := by
 obtain ⟨hc0, hf0⟩ := h.c0
 have hs' := hs
 have HH := Hid.mk h
 have HS := Hid.mk hs
 clear h hs
 go_enter Tryz.func101, Tryz.ntmps101
 go_wp2
 go_loopw [3] (fun nv wr => ∃ n : Nat, nv = .int .i64 n ∧ n ≤ s.size + 64 ∧ Hid (OnWay s n) ∧ wr = W) (fun nv _ => s.size + 65 - (intOf nv).toNat)
 case atStart => exact ⟨0, rfl, by omega, onWay_first s, rfl⟩
 case round =>
  obtain ⟨n, rfl, hn, HW, rfl⟩ := hrel
  have key : ∀ (hend : ∀ hn : n < s.size, s[n].toNat = 0 ∨ 63 < s[n].toNat), Hid (Calls Tryz.prog 136 #[boxV d, .int .i64 ((n + 1 : Nat) : Int)] wr fun e w' => e = .returned (.string (tkS (n + 1) s)) ∧ RR w' d (tkR (n + 1) s) (b || decide (s.size < n + 1)) ∧ Kept d wr w') ∧
    Hid (∀ c, c = decide (IsName (tkS (n + 1) s)) → Stp .name s b (tkS (n + 1) s) (tkR (n + 1) s) ((b || decide (s.size < n + 1)) || !c)) ∧ Hid (∀ w, Calls Tryz.prog 28 #[.string (tkS (n + 1) s)] w fun e w' => e = .returned (.bool (decide (IsName (tkS (n + 1) s)))) ∧ Below w.heap.size w w') ∧ Hid ((tkR (n + 1) s).size ≤ s.size) := fun hend =>
   ⟨rTake_in wr d (n + 1) s b HS.out (by omega) HH.out, fun c hc => stp_name HW.out hend b c (by rw [hc, decide_eq_true_iff]), fun w => rRight_all _ (by have := (tkS_le (n + 1) s).2; have := HS.out; unfold maxLen; omega) w, tkR_le _ _⟩
  have hw1 : IntKind.i64.wrap ((n : Int) + 1) = ((n + 1 : Nat) : Int) := by rw [IntKind.wrap_i64]; omega
  by_cases hlt : n < s.size
  ·have hu := s[n].toNat_lt
   by_cases h0 : s[n].toNat = 0
   ·obtain ⟨HT, HP, HRt, HSz⟩ := key (fun _ => .inl h0)
    have hne : ((s[n].toNat : Int) != 0) = false := by rw [h0]; rfl
    clear key HW h0
    generalize tkS (n + 1) s = t at HT HP HRt
    generalize tkR (n + 1) s = r' at HT HP HSz
    generalize (b || decide (s.size < n + 1)) = b1 at HT HP
    have HP' := Hid.mk (HP.out _ rfl)
    generalize decide (IsName t) = cc at HRt HP'
    clear HP
    go_wp2_with fail
    refine HT.out.mono ?_
    rintro e w1 ⟨rfl, hr1, hk1⟩
    go_wp2_with fail
    refine (HRt.out _).mono ?_
    rintro e w2 ⟨rfl, hb2⟩
    have hr2 := hr1.below hb2
    have hk2 : Kept d wr w2 := hk1.trans (Kept.of_below hb2)
    obtain ⟨g1, f1⟩ := hr2.c1
    have HR2 := Hid.mk hr2
    clear hr1 hr2 HT HRt
    cases b1 with
    | true =>
     go_wp2
     go_ret
     exact ⟨t, r', true, rfl, HR2.out.set1 _, hk2.trans (Kept.set _ _ _ _), HP'.out, HSz.out⟩
    | false =>
     go_wp2
     go_ret
     exact ⟨t, r', !cc, rfl, HR2.out.set1 _, hk2.trans (Kept.set _ _ _ _), HP'.out, HSz.out⟩
   ·have hne : ((s[n].toNat : Int) != 0) = true := by rw [bne_iff_ne]; omega
    by_cases h63 : s[n].toNat ≤ 63
    ·have HN := Hid.mk (onWay_next HW.out hlt h0)
     clear key h0
     go_wp2
     exact ⟨⟨n + 1 + s[n].toNat, by go_num, by omega, HN.out, trivial⟩, by simp [intOf]; omega⟩
    ·obtain ⟨HT, HP, HRt, HSz⟩ := key (fun _ => .inr (by omega))
     clear key HW h0
     generalize tkS (n + 1) s = t at HT HP HRt
     generalize tkR (n + 1) s = r' at HT HP HSz
     generalize (b || decide (s.size < n + 1)) = b1 at HT HP
     have HP' := Hid.mk (HP.out _ rfl)
     generalize decide (IsName t) = cc at HRt HP'
     clear HP
     go_wp2_with fail
     refine HT.out.mono ?_
     rintro e w1 ⟨rfl, hr1, hk1⟩
     go_wp2_with fail
     refine (HRt.out _).mono ?_
     rintro e w2 ⟨rfl, hb2⟩
     have hr2 := hr1.below hb2
     have hk2 : Kept d wr w2 := hk1.trans (Kept.of_below hb2)
     obtain ⟨g1, f1⟩ := hr2.c1
     have HR2 := Hid.mk hr2
     clear hr1 hr2 HT HRt
     cases b1 with
     | true =>
      go_wp2
      go_ret
      exact ⟨t, r', true, rfl, HR2.out.set1 _, hk2.trans (Kept.set _ _ _ _), HP'.out, HSz.out⟩
     | false =>
      go_wp2
      go_ret
      exact ⟨t, r', !cc, rfl, HR2.out.set1 _, hk2.trans (Kept.set _ _ _ _), HP'.out, HSz.out⟩
  ·obtain ⟨HT, HP, HRt, HSz⟩ := key (fun h => absurd h hlt)
   clear key HW
   generalize tkS (n + 1) s = t at HT HP HRt
   generalize tkR (n + 1) s = r' at HT HP HSz
   generalize (b || decide (s.size < n + 1)) = b1 at HT HP
   have HP' := Hid.mk (HP.out _ rfl)
   generalize decide (IsName t) = cc at HRt HP'
   clear HP
   go_wp2_with fail
   refine HT.out.mono ?_
   rintro e w1 ⟨rfl, hr1, hk1⟩
   go_wp2_with fail
   refine (HRt.out _).mono ?_
   rintro e w2 ⟨rfl, hb2⟩
   have hr2 := hr1.below hb2
   have hk2 : Kept d wr w2 := hk1.trans (Kept.of_below hb2)
   obtain ⟨g1, f1⟩ := hr2.c1
   have HR2 := Hid.mk hr2
   clear hr1 hr2 HT HRt
   cases b1 with
   | true =>
    go_wp2
    go_ret
    exact ⟨t, r', true, rfl, HR2.out.set1 _, hk2.trans (Kept.set _ _ _ _), HP'.out, HSz.out⟩
   | false =>
    go_wp2
    go_ret
    exact ⟨t, r', !cc, rfl, HR2.out.set1 _, hk2.trans (Kept.set _ _ _ _), HP'.out, HSz.out⟩
end Go.Proofs.YtdlcldjlfhmlgaaGreatDoor
/- The document's own reader at work: what lies where while it takes data apart. -/
namespace Go.Proofs.YtdlcldjlfhmlgaaGreatDoor
open Go.RowKit
structure S0 (W w : World) (a rb : Nat) (r : ByteArray) (b : Bool) (t : TypeId) (zs : Array Value) : Prop where
 rr : RR w rb r b
 res : w.heap[a]? = some (.cells zs t (0, 0))
 bel : Below W.heap.size W w
 ne : a ≠ rb
 ha : W.heap.size ≤ a
 hr : W.heap.size ≤ rb
structure S1 (W w : World) (a rb xb : Nat) (r : ByteArray) (b : Bool) (t : TypeId) (zs cs : Array Value) : Prop where
 s : S0 W w a rb r b t zs
 x : w.heap[xb]? = some (.cells cs t (0, 0))
 nx : xb ≠ rb
 na : a ≠ xb
 hx : W.heap.size ≤ xb
theorem S0.first (W : World) (t : TypeId) (zs : Array Value) (d : ByteArray) : S0 W ((W.alloc (.cells zs t)).alloc (.cells #[.string d, .bool false] 149)) W.heap.size (W.heap.size + 1) d false t zs := by
 have h1 : (W.alloc (.cells zs t)).heap.size = W.heap.size + 1 := by simp
 refine ⟨?_, ?_, ((Below.refl _ _).alloc (Nat.le_refl _) _).alloc (by simp) _, by omega, Nat.le_refl _, by omega⟩
 ·have := heap_new (W.alloc (.cells zs t)) (.cells #[.string d, .bool false] 149)
  rw [h1] at this
  exact this
 ·exact (((Below.refl (W.alloc (.cells zs t)).heap.size _).alloc (Nat.le_refl _) _).block _ (by simp)).trans (heap_new _ _)
theorem S0.call {W w w' : World} {a rb : Nat} {r r' : ByteArray} {b b' : Bool} {t : TypeId} {zs : Array Value} (h : S0 W w a rb r b t zs) (hr : RR w' rb r' b') (hk : Kept rb w w') : S0 W w' a rb r' b' t zs :=
 ⟨hr, (hk.same a (box_lt h.res) h.ne).trans h.res, h.bel.trans (hk.below h.hr h.bel.size), h.ne, h.ha, h.hr⟩
theorem S0.new {W w : World} {a rb : Nat} {r : ByteArray} {b : Bool} {t : TypeId} {zs : Array Value} (h : S0 W w a rb r b t zs) (cs : Array Value) : S1 W (w.alloc (.cells cs t)) a rb w.heap.size r b t zs cs := by
 have hb := (Below.refl w.heap.size w).alloc (Nat.le_refl _) (.cells cs t)
 have h1 := h.rr.lt
 have h2 := box_lt h.res
 exact ⟨⟨h.rr.below hb, (hb.block a h2).trans h.res, h.bel.alloc h.bel.size _, h.ne, h.ha, h.hr⟩, heap_new _ _, by omega, by omega, h.bel.size⟩
theorem S1.call {W w w' : World} {a rb xb : Nat} {r r' : ByteArray} {b b' : Bool} {t : TypeId} {zs cs : Array Value} (h : S1 W w a rb xb r b t zs cs) (hr : RR w' rb r' b') (hk : Kept rb w w') : S1 W w' a rb xb r' b' t zs cs :=
 ⟨h.s.call hr hk, (hk.same xb (box_lt h.x) h.nx).trans h.x, h.nx, h.na, h.hx⟩
theorem S1.put {W w : World} {a rb xb : Nat} {r : ByteArray} {b : Bool} {t : TypeId} {zs cs : Array Value} (h : S1 W w a rb xb r b t zs cs) (j : Nat) (v : Value) : S1 W (w.setCell ⟨xb, j, none⟩ v) a rb xb r b t zs (cs.setIfInBounds j v) :=
 ⟨⟨(Below.heap_setCell w ⟨xb, j, none⟩ v rb (fun e => h.nx e.symm)).trans h.s.rr, (Below.heap_setCell w ⟨xb, j, none⟩ v a h.na).trans h.s.res, h.s.bel.setCell h.hx _, h.s.ne, h.s.ha, h.s.hr⟩, cells_put (j := j) h.x v, h.nx, h.na, h.hx⟩
def NumPost (p : PK) (n : Nat) (s : ByteArray) (b : Bool) (d : Nat) (W : World) (e : Ending) (w' : World) : Prop := ∃ t r' b', e = .returned (.int .i64 ((numB t.data.toList : Nat) : Int)) ∧ RR w' d r' b' ∧ Kept d W w' ∧ Stp p s b t r' b' ∧ r'.size ≤ s.size
theorem rNum_post (p : PK) (n : Nat) (hp : ∀ x, passK p x = takeK n x) (hn : n ≤ 4) (W : World) (d : Nat) (s : ByteArray) (b : Bool) (hs : s.size ≤ 140737488355328) (h : RR W d s b) :
  Calls Tryz.prog 100 #[boxV d, .int .i64 n] W fun e w' => NumPost p n s b d W e w' := by
 refine (rNum_in W d n s b hs hn h).mono ?_
 rintro e w' ⟨rfl, h1, h2⟩
 exact ⟨_, _, _, rfl, h1, h2, stp_take p n hp s b, tkR_le _ _⟩
def AllPost (s : ByteArray) (b : Bool) (d : Nat) (W : World) (e : Ending) (w' : World) : Prop := ∃ r' b', e = .returned (.string s) ∧ RR w' d r' b' ∧ Kept d W w' ∧ Stp .hex s b s r' b' ∧ r'.size = 0
theorem rAll_post (W : World) (d : Nat) (s : ByteArray) (b : Bool) (hs : s.size ≤ 140737488355328) (h : RR W d s b) :
  Calls Tryz.prog 102 #[boxV d, .int .i64 1] W fun e w' => AllPost s b d W e w' := by
 refine (rAll_in W d s b hs h).mono ?_
 rintro e w' ⟨rfl, h1, h2⟩
 exact ⟨_, _, rfl, h1, h2, stp_all s b, rfl⟩
end Go.Proofs.YtdlcldjlfhmlgaaGreatDoor
/- Soa, as the document's own function takes it apart. -/
namespace Go.Proofs.YtdlcldjlfhmlgaaGreatDoor
open Go.RowKit
def RefSoaPost (d : ByteArray) (e : Ending) : Prop := ((∃ t0 t1 t2 t3 t4 t5 t6 : ByteArray, splitR 6 d = some [t0, t1, t2, t3, t4, t5, t6] ∧ e = .returned (.tuple #[.agg #[.string t0, .string t1, .int .i64 ((numB t2.data.toList : Nat) : Int), .int .i64 ((numB t3.data.toList : Nat) : Int), .int .i64 ((numB t4.data.toList : Nat) : Int), .int .i64 ((numB t5.data.toList : Nat) : Int), .int .i64 ((numB t6.data.toList : Nat) : Int)], .bool true])) ∨ (splitR 6 d = none ∧ e = .returned (.tuple #[.agg #[.string ⟨#[]⟩, .string ⟨#[]⟩, .int .i64 0, .int .i64 0, .int .i64 0, .int .i64 0, .int .i64 0], .bool false])))
set_option maxRecDepth 100000 in
set_option maxHeartbeats 8000000 in
theorem refSoa_in (d : ByteArray) (hd : d.size ≤ 140737488355328) (W : World) :
  Calls Tryz.prog 127 #[.string d] W fun e w' => RefSoaPost d e ∧ Below W.heap.size W w' := by
 have hmo : Tryz.prog.follows Departure.mixedOrders = true := by kernel_rfl
 have Q := Hid.mk (S0.first W 183 #[.string ⟨#[]⟩, .string ⟨#[]⟩, .int .i64 0, .int .i64 0, .int .i64 0, .int .i64 0, .int .i64 0] d)
 obtain ⟨r0, hr0⟩ : ∃ r0, r0 = d := ⟨_, rfl⟩
 have hz0 : r0.size ≤ 140737488355328 := by rw [hr0]; exact hd
 rw [show S0 W ((W.alloc (.cells #[.string ⟨#[]⟩, .string ⟨#[]⟩, .int .i64 0, .int .i64 0, .int .i64 0, .int .i64 0, .int .i64 0] 183)).alloc (.cells #[.string d, .bool false] 149)) W.heap.size (W.heap.size + 1) d false 183 #[.string ⟨#[]⟩, .string ⟨#[]⟩, .int .i64 0, .int .i64 0, .int .i64 0, .int .i64 0, .int .i64 0] = S0 W ((W.alloc (.cells #[.string ⟨#[]⟩, .string ⟨#[]⟩, .int .i64 0, .int .i64 0, .int .i64 0, .int .i64 0, .int .i64 0] 183)).alloc (.cells #[.string d, .bool false] 149)) W.heap.size (W.heap.size + 1) r0 false 183 #[.string ⟨#[]⟩, .string ⟨#[]⟩, .int .i64 0, .int .i64 0, .int .i64 0, .int .i64 0, .int .i64 0] by rw [hr0]] at Q
 have HR0 := Hid.mk hr0
 clear hr0
 go_enter Tryz.func127, Tryz.ntmps127
 go_wp2_with fail
 refine (rName_in _ (W.heap.size + 1) r0 false hz0 Q.out.rr).mono ?_
 rintro e w1 ⟨t0, r1, b1, rfl, hr, hk, hs0, hz⟩
 have hz1 : r1.size ≤ 140737488355328 := by omega
 replace Q := Hid.mk (Q.out.call hr hk)
 have P0 := Hid.mk hs0
 clear hr hk hs0 hz hz0
 go_wp2_with fail
 refine (rName_in _ (W.heap.size + 1) r1 b1 hz1 Q.out.rr).mono ?_
 rintro e w2 ⟨t1, r2, b2, rfl, hr, hk, hs1, hz⟩
 have hz2 : r2.size ≤ 140737488355328 := by omega
 replace Q := Hid.mk (Q.out.call hr hk)
 have P1 := Hid.mk hs1
 clear hr hk hs1 hz hz1
 replace Q := Hid.mk (Q.out.new #[.string t0, .string t1, .int .i64 0, .int .i64 0, .int .i64 0, .int .i64 0, .int .i64 0])
 go_wp2_with fail
 refine (rNum_post (.num 4) 4 (fun _ => rfl) (by omega) _ (W.heap.size + 1) r2 b2 hz2 Q.out.s.rr).mono ?_
 rintro e w3 ⟨t2, r3, b3, rfl, hr, hk, hs2, hz⟩
 have hz3 : r3.size ≤ 140737488355328 := by omega
 replace Q := Hid.mk (Q.out.call hr hk)
 have P2 := Hid.mk hs2
 clear hr hk hs2 hz hz2
 obtain ⟨g2, f2⟩ := cells_at (v := .int .i64 0) (j := 2) Q.out.x rfl
 replace Q := Hid.mk (Q.out.put 2 (.int .i64 ((numB t2.data.toList : Nat) : Int)))
 go_wp2_with fail
 refine (rNum_post (.num 4) 4 (fun _ => rfl) (by omega) _ (W.heap.size + 1) r3 b3 hz3 Q.out.s.rr).mono ?_
 rintro e w4 ⟨t3, r4, b4, rfl, hr, hk, hs3, hz⟩
 have hz4 : r4.size ≤ 140737488355328 := by omega
 replace Q := Hid.mk (Q.out.call hr hk)
 have P3 := Hid.mk hs3
 clear hr hk hs3 hz hz3
 obtain ⟨g3, f3⟩ := cells_at (v := .int .i64 0) (j := 3) Q.out.x rfl
 replace Q := Hid.mk (Q.out.put 3 (.int .i64 ((numB t3.data.toList : Nat) : Int)))
 go_wp2_with fail
 refine (rNum_post (.num 4) 4 (fun _ => rfl) (by omega) _ (W.heap.size + 1) r4 b4 hz4 Q.out.s.rr).mono ?_
 rintro e w5 ⟨t4, r5, b5, rfl, hr, hk, hs4, hz⟩
 have hz5 : r5.size ≤ 140737488355328 := by omega
 replace Q := Hid.mk (Q.out.call hr hk)
 have P4 := Hid.mk hs4
 clear hr hk hs4 hz hz4
 obtain ⟨g4, f4⟩ := cells_at (v := .int .i64 0) (j := 4) Q.out.x rfl
 replace Q := Hid.mk (Q.out.put 4 (.int .i64 ((numB t4.data.toList : Nat) : Int)))
 go_wp2_with fail
 refine (rNum_post (.num 4) 4 (fun _ => rfl) (by omega) _ (W.heap.size + 1) r5 b5 hz5 Q.out.s.rr).mono ?_
 rintro e w6 ⟨t5, r6, b6, rfl, hr, hk, hs5, hz⟩
 have hz6 : r6.size ≤ 140737488355328 := by omega
 replace Q := Hid.mk (Q.out.call hr hk)
 have P5 := Hid.mk hs5
 clear hr hk hs5 hz hz5
 obtain ⟨g5, f5⟩ := cells_at (v := .int .i64 0) (j := 5) Q.out.x rfl
 replace Q := Hid.mk (Q.out.put 5 (.int .i64 ((numB t5.data.toList : Nat) : Int)))
 go_wp2_with fail
 refine (rNum_post (.num 4) 4 (fun _ => rfl) (by omega) _ (W.heap.size + 1) r6 b6 hz6 Q.out.s.rr).mono ?_
 rintro e w7 ⟨t6, r7, b7, rfl, hr, hk, hs6, hz⟩
 have hz7 : r7.size ≤ 140737488355328 := by omega
 replace Q := Hid.mk (Q.out.call hr hk)
 have P6 := Hid.mk hs6
 clear hr hk hs6 hz hz6
 obtain ⟨g6, f6⟩ := cells_at (v := .int .i64 0) (j := 6) Q.out.x rfl
 replace Q := Hid.mk (Q.out.put 6 (.int .i64 ((numB t6.data.toList : Nat) : Int)))
 have HC : Hid (Chn (formOf 6) r0 false [t0, t1, t2, t3, t4, t5, t6] r7 b7) := (Chn.cons P0.out (Chn.cons P1.out (Chn.cons P2.out (Chn.cons P3.out (Chn.cons P4.out (Chn.cons P5.out (Chn.cons P6.out Chn.nil)))))))
 have HSP := Hid.mk (HC.out.split (by omega))
 rw [HR0.out] at HSP
 clear HC P0 P1 P2 P3 P4 P5 P6
 obtain ⟨u0, v0⟩ := Q.out.s.rr.c0
 obtain ⟨u1, v1⟩ := Q.out.s.rr.c1
 obtain ⟨x0, y0⟩ := cells_at (v := .string t0) (j := 0) Q.out.x rfl
 obtain ⟨x1, y1⟩ := cells_at (v := .string t1) (j := 1) Q.out.x rfl
 obtain ⟨x2, y2⟩ := cells_at (v := .int .i64 ((numB t2.data.toList : Nat) : Int)) (j := 2) Q.out.x rfl
 obtain ⟨x3, y3⟩ := cells_at (v := .int .i64 ((numB t3.data.toList : Nat) : Int)) (j := 3) Q.out.x rfl
 obtain ⟨x4, y4⟩ := cells_at (v := .int .i64 ((numB t4.data.toList : Nat) : Int)) (j := 4) Q.out.x rfl
 obtain ⟨x5, y5⟩ := cells_at (v := .int .i64 ((numB t5.data.toList : Nat) : Int)) (j := 5) Q.out.x rfl
 obtain ⟨x6, y6⟩ := cells_at (v := .int .i64 ((numB t6.data.toList : Nat) : Int)) (j := 6) Q.out.x rfl
 obtain ⟨a0, c0⟩ := cells_at (v := .string ⟨#[]⟩) (j := 0) Q.out.s.res rfl
 obtain ⟨a1, c1⟩ := cells_at (v := .string ⟨#[]⟩) (j := 1) Q.out.s.res rfl
 obtain ⟨a2, c2⟩ := cells_at (v := .int .i64 0) (j := 2) Q.out.s.res rfl
 obtain ⟨a3, c3⟩ := cells_at (v := .int .i64 0) (j := 3) Q.out.s.res rfl
 obtain ⟨a4, c4⟩ := cells_at (v := .int .i64 0) (j := 4) Q.out.s.res rfl
 obtain ⟨a5, c5⟩ := cells_at (v := .int .i64 0) (j := 5) Q.out.s.res rfl
 obtain ⟨a6, c6⟩ := cells_at (v := .int .i64 0) (j := 6) Q.out.s.res rfl
 clear g2 f2 g3 f3 g4 f4 g5 f5
 rcases HSP.out with ⟨e1, e2, e3, e4⟩ | ⟨e1, e4⟩
 ·have HE := Hid.mk e4
  subst e1
  obtain rfl := ba_empty _ e2
  clear e4 HSP
  go_wp2
  have hfin : ((((((((w7.setCell ⟨w2.heap.size, 6, none⟩ (.int .i64 ((numB t6.data.toList : Nat) : Int))).setCell ⟨W.heap.size, 0, none⟩ (.string t0)).setCell ⟨W.heap.size, 1, none⟩ (.string t1)).setCell ⟨W.heap.size, 2, none⟩ (.int .i64 ((numB t2.data.toList : Nat) : Int))).setCell ⟨W.heap.size, 3, none⟩ (.int .i64 ((numB t3.data.toList : Nat) : Int))).setCell ⟨W.heap.size, 4, none⟩ (.int .i64 ((numB t4.data.toList : Nat) : Int))).setCell ⟨W.heap.size, 5, none⟩ (.int .i64 ((numB t5.data.toList : Nat) : Int))).setCell ⟨W.heap.size, 6, none⟩ (.int .i64 ((numB t6.data.toList : Nat) : Int))).heap[W.heap.size]? = some (.cells #[.string t0, .string t1, .int .i64 ((numB t2.data.toList : Nat) : Int), .int .i64 ((numB t3.data.toList : Nat) : Int), .int .i64 ((numB t4.data.toList : Nat) : Int), .int .i64 ((numB t5.data.toList : Nat) : Int), .int .i64 ((numB t6.data.toList : Nat) : Int)] 183 (0, 0)) := cells_put (j := 6) (cells_put (j := 5) (cells_put (j := 4) (cells_put (j := 3) (cells_put (j := 2) (cells_put (j := 1) (cells_put (j := 0) (Q.out.s.res) (.string t0)) (.string t1)) (.int .i64 ((numB t2.data.toList : Nat) : Int))) (.int .i64 ((numB t3.data.toList : Nat) : Int))) (.int .i64 ((numB t4.data.toList : Nat) : Int))) (.int .i64 ((numB t5.data.toList : Nat) : Int))) (.int .i64 ((numB t6.data.toList : Nat) : Int))
  refine bodyPost_ret (v := .tuple #[.agg #[.string t0, .string t1, .int .i64 ((numB t2.data.toList : Nat) : Int), .int .i64 ((numB t3.data.toList : Nat) : Int), .int .i64 ((numB t4.data.toList : Nat) : Int), .int .i64 ((numB t5.data.toList : Nat) : Int), .int .i64 ((numB t6.data.toList : Nat) : Int)], .bool true]) (by simp [results, Tryz.results127, go_sem, (cells_at (v := .string t0) (j := 0) hfin rfl).1, (cells_at (v := .string t1) (j := 1) hfin rfl).1, (cells_at (v := .int .i64 ((numB t2.data.toList : Nat) : Int)) (j := 2) hfin rfl).1, (cells_at (v := .int .i64 ((numB t3.data.toList : Nat) : Int)) (j := 3) hfin rfl).1, (cells_at (v := .int .i64 ((numB t4.data.toList : Nat) : Int)) (j := 4) hfin rfl).1, (cells_at (v := .int .i64 ((numB t5.data.toList : Nat) : Int)) (j := 5) hfin rfl).1, (cells_at (v := .int .i64 ((numB t6.data.toList : Nat) : Int)) (j := 6) hfin rfl).1]) rfl ⟨.inl ⟨t0, t1, t2, t3, t4, t5, t6, HE.out, rfl⟩, (((((((Q.out.s.bel).setCell (p := ⟨W.heap.size, 0, none⟩) (Nat.le_refl _) _).setCell (p := ⟨W.heap.size, 1, none⟩) (Nat.le_refl _) _).setCell (p := ⟨W.heap.size, 2, none⟩) (Nat.le_refl _) _).setCell (p := ⟨W.heap.size, 3, none⟩) (Nat.le_refl _) _).setCell (p := ⟨W.heap.size, 4, none⟩) (Nat.le_refl _) _).setCell (p := ⟨W.heap.size, 5, none⟩) (Nat.le_refl _) _).setCell (p := ⟨W.heap.size, 6, none⟩) (Nat.le_refl _) _⟩
 ·have HE := Hid.mk e4
  clear e4 HSP
  cases b7 with
  | true =>
   clear e1
   go_wp2
   have hfin : ((((((((w7.setCell ⟨w2.heap.size, 6, none⟩ (.int .i64 ((numB t6.data.toList : Nat) : Int))).setCell ⟨W.heap.size, 0, none⟩ (.string ⟨#[]⟩)).setCell ⟨W.heap.size, 1, none⟩ (.string ⟨#[]⟩)).setCell ⟨W.heap.size, 2, none⟩ (.int .i64 0)).setCell ⟨W.heap.size, 3, none⟩ (.int .i64 0)).setCell ⟨W.heap.size, 4, none⟩ (.int .i64 0)).setCell ⟨W.heap.size, 5, none⟩ (.int .i64 0)).setCell ⟨W.heap.size, 6, none⟩ (.int .i64 0)).heap[W.heap.size]? = some (.cells #[.string ⟨#[]⟩, .string ⟨#[]⟩, .int .i64 0, .int .i64 0, .int .i64 0, .int .i64 0, .int .i64 0] 183 (0, 0)) := cells_put (j := 6) (cells_put (j := 5) (cells_put (j := 4) (cells_put (j := 3) (cells_put (j := 2) (cells_put (j := 1) (cells_put (j := 0) (Q.out.s.res) (.string ⟨#[]⟩)) (.string ⟨#[]⟩)) (.int .i64 0)) (.int .i64 0)) (.int .i64 0)) (.int .i64 0)) (.int .i64 0)
   refine bodyPost_ret (v := .tuple #[.agg #[.string ⟨#[]⟩, .string ⟨#[]⟩, .int .i64 0, .int .i64 0, .int .i64 0, .int .i64 0, .int .i64 0], .bool false]) (by simp [results, Tryz.results127, go_sem, (cells_at (v := .string ⟨#[]⟩) (j := 0) hfin rfl).1, (cells_at (v := .string ⟨#[]⟩) (j := 1) hfin rfl).1, (cells_at (v := .int .i64 0) (j := 2) hfin rfl).1, (cells_at (v := .int .i64 0) (j := 3) hfin rfl).1, (cells_at (v := .int .i64 0) (j := 4) hfin rfl).1, (cells_at (v := .int .i64 0) (j := 5) hfin rfl).1, (cells_at (v := .int .i64 0) (j := 6) hfin rfl).1]) rfl ⟨.inr ⟨HE.out, rfl⟩, (((((((Q.out.s.bel).setCell (p := ⟨W.heap.size, 0, none⟩) (Nat.le_refl _) _).setCell (p := ⟨W.heap.size, 1, none⟩) (Nat.le_refl _) _).setCell (p := ⟨W.heap.size, 2, none⟩) (Nat.le_refl _) _).setCell (p := ⟨W.heap.size, 3, none⟩) (Nat.le_refl _) _).setCell (p := ⟨W.heap.size, 4, none⟩) (Nat.le_refl _) _).setCell (p := ⟨W.heap.size, 5, none⟩) (Nat.le_refl _) _).setCell (p := ⟨W.heap.size, 6, none⟩) (Nat.le_refl _) _⟩
  | false =>
   by_cases h0 : 0 < r7.size
   ·obtain ⟨hn1, hn2⟩ := ne_text r7 h0
    have hn3 := ne_bne r7 h0
    clear e1
    go_wp2
    have hfin : ((((((((w7.setCell ⟨w2.heap.size, 6, none⟩ (.int .i64 ((numB t6.data.toList : Nat) : Int))).setCell ⟨W.heap.size, 0, none⟩ (.string ⟨#[]⟩)).setCell ⟨W.heap.size, 1, none⟩ (.string ⟨#[]⟩)).setCell ⟨W.heap.size, 2, none⟩ (.int .i64 0)).setCell ⟨W.heap.size, 3, none⟩ (.int .i64 0)).setCell ⟨W.heap.size, 4, none⟩ (.int .i64 0)).setCell ⟨W.heap.size, 5, none⟩ (.int .i64 0)).setCell ⟨W.heap.size, 6, none⟩ (.int .i64 0)).heap[W.heap.size]? = some (.cells #[.string ⟨#[]⟩, .string ⟨#[]⟩, .int .i64 0, .int .i64 0, .int .i64 0, .int .i64 0, .int .i64 0] 183 (0, 0)) := cells_put (j := 6) (cells_put (j := 5) (cells_put (j := 4) (cells_put (j := 3) (cells_put (j := 2) (cells_put (j := 1) (cells_put (j := 0) (Q.out.s.res) (.string ⟨#[]⟩)) (.string ⟨#[]⟩)) (.int .i64 0)) (.int .i64 0)) (.int .i64 0)) (.int .i64 0)) (.int .i64 0)
    refine bodyPost_ret (v := .tuple #[.agg #[.string ⟨#[]⟩, .string ⟨#[]⟩, .int .i64 0, .int .i64 0, .int .i64 0, .int .i64 0, .int .i64 0], .bool false]) (by simp [results, Tryz.results127, go_sem, (cells_at (v := .string ⟨#[]⟩) (j := 0) hfin rfl).1, (cells_at (v := .string ⟨#[]⟩) (j := 1) hfin rfl).1, (cells_at (v := .int .i64 0) (j := 2) hfin rfl).1, (cells_at (v := .int .i64 0) (j := 3) hfin rfl).1, (cells_at (v := .int .i64 0) (j := 4) hfin rfl).1, (cells_at (v := .int .i64 0) (j := 5) hfin rfl).1, (cells_at (v := .int .i64 0) (j := 6) hfin rfl).1]) rfl ⟨.inr ⟨HE.out, rfl⟩, (((((((Q.out.s.bel).setCell (p := ⟨W.heap.size, 0, none⟩) (Nat.le_refl _) _).setCell (p := ⟨W.heap.size, 1, none⟩) (Nat.le_refl _) _).setCell (p := ⟨W.heap.size, 2, none⟩) (Nat.le_refl _) _).setCell (p := ⟨W.heap.size, 3, none⟩) (Nat.le_refl _) _).setCell (p := ⟨W.heap.size, 4, none⟩) (Nat.le_refl _) _).setCell (p := ⟨W.heap.size, 5, none⟩) (Nat.le_refl _) _).setCell (p := ⟨W.heap.size, 6, none⟩) (Nat.le_refl _) _⟩
   ·have e3 : 2000 < d.size := by
     rcases e1 with h | h | h
     ·cases h
     ·omega
     ·exact h
    obtain rfl := ba_empty _ (by omega : r7.size = 0)
    clear e1
    go_wp2
    have hfin : ((((((((w7.setCell ⟨w2.heap.size, 6, none⟩ (.int .i64 ((numB t6.data.toList : Nat) : Int))).setCell ⟨W.heap.size, 0, none⟩ (.string ⟨#[]⟩)).setCell ⟨W.heap.size, 1, none⟩ (.string ⟨#[]⟩)).setCell ⟨W.heap.size, 2, none⟩ (.int .i64 0)).setCell ⟨W.heap.size, 3, none⟩ (.int .i64 0)).setCell ⟨W.heap.size, 4, none⟩ (.int .i64 0)).setCell ⟨W.heap.size, 5, none⟩ (.int .i64 0)).setCell ⟨W.heap.size, 6, none⟩ (.int .i64 0)).heap[W.heap.size]? = some (.cells #[.string ⟨#[]⟩, .string ⟨#[]⟩, .int .i64 0, .int .i64 0, .int .i64 0, .int .i64 0, .int .i64 0] 183 (0, 0)) := cells_put (j := 6) (cells_put (j := 5) (cells_put (j := 4) (cells_put (j := 3) (cells_put (j := 2) (cells_put (j := 1) (cells_put (j := 0) (Q.out.s.res) (.string ⟨#[]⟩)) (.string ⟨#[]⟩)) (.int .i64 0)) (.int .i64 0)) (.int .i64 0)) (.int .i64 0)) (.int .i64 0)
    refine bodyPost_ret (v := .tuple #[.agg #[.string ⟨#[]⟩, .string ⟨#[]⟩, .int .i64 0, .int .i64 0, .int .i64 0, .int .i64 0, .int .i64 0], .bool false]) (by simp [results, Tryz.results127, go_sem, (cells_at (v := .string ⟨#[]⟩) (j := 0) hfin rfl).1, (cells_at (v := .string ⟨#[]⟩) (j := 1) hfin rfl).1, (cells_at (v := .int .i64 0) (j := 2) hfin rfl).1, (cells_at (v := .int .i64 0) (j := 3) hfin rfl).1, (cells_at (v := .int .i64 0) (j := 4) hfin rfl).1, (cells_at (v := .int .i64 0) (j := 5) hfin rfl).1, (cells_at (v := .int .i64 0) (j := 6) hfin rfl).1]) rfl ⟨.inr ⟨HE.out, rfl⟩, (((((((Q.out.s.bel).setCell (p := ⟨W.heap.size, 0, none⟩) (Nat.le_refl _) _).setCell (p := ⟨W.heap.size, 1, none⟩) (Nat.le_refl _) _).setCell (p := ⟨W.heap.size, 2, none⟩) (Nat.le_refl _) _).setCell (p := ⟨W.heap.size, 3, none⟩) (Nat.le_refl _) _).setCell (p := ⟨W.heap.size, 4, none⟩) (Nat.le_refl _) _).setCell (p := ⟨W.heap.size, 5, none⟩) (Nat.le_refl _) _).setCell (p := ⟨W.heap.size, 6, none⟩) (Nat.le_refl _) _⟩
end Go.Proofs.YtdlcldjlfhmlgaaGreatDoor
