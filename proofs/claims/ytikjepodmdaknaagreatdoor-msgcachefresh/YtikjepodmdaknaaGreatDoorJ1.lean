/- Texts of this proof, joined: RcT, Plain, Each, Right, LabelsOf, Shared. -/
import Derived.OpenShut
import Derived.WalkKit
import Derived.ProofKit
import Derived.Lib.LaidTab
import Derived.Lib.SmallJoins
import Derived.Deep.SlicePairs
import Derived.Deep.DeepHandedRow
import Derived.Test.YtikjepodmdaknaaGreatDoorTie
import Derived.Test.YtikjepodmdaknaaGreatDoorCards
import Derived.Lib.Strings
import Derived.Lib.IndexBytes
import Derived.RangeFuncNested
import Derived.RangeFuncBound
import Derived.RangeFuncCalls
import Derived.RangeFuncLeaves
import Derived.RangeFuncBox
import Derived.Shelf.Abstract
import Derived.Shelf.RegionOpen
import Derived.WalkSpells
import Derived.WalkLawsBesides
import Derived.OwnWalkIn
import Derived.TacticsInMore
import Derived.LoopNIn
import Derived.LoopIn
import Derived.Test.YtikjepodmdaknaaGreatDoorRows
import Derived.Maps.AppendAt
import Derived.Lib.Buffer
import Derived.Deep.QuietTactic
import Derived.BigQuiet
import Derived.OrdersHeld
import Derived.KernelRfl
set_option linter.unusedVariables false
set_option linter.unusedSimpArgs false
/- Layer 16: a world for the witnesses. -/
namespace Go.Proofs.YtikjepodmdaknaaGreatDoor
open Go.RowKit
structure ZG (W : World) : Prop where
 ok : True
theorem zg_of {W : World} {l : List (String × DataW Unit)} (h : laidMet Tryz.prog l W) (hs : W.ShapedOpen Tryz.prog) : ZG W := ⟨trivial⟩
def klit1 : DataW Unit → List Value
 | .lit (.int k n) => [.int k n]
 | .lit (.string s) => [.string ⟨s.toArray⟩]
 | _ => []
def kflat2 : DataW Unit → Array Value
 | .agg l => (l.flatMap fun x => match x with
  | .agg l2 => l2.flatMap klit1
  | x => klit1 x).toArray
 | _ => #[]
def kerrS : DataW Unit → ByteArray
 | .iface _ (.ptr (.agg [.lit (.string s)])) => ⟨s.toArray⟩
 | _ => ⟨#[]⟩
noncomputable def laidWorld (os : Os) : World :=
 let N := (World.settled Tryz.prog os).heap.size
 let w0 := World.holding Tryz.prog os ⟨#[.cells #[.string (kerrS Rows.laid_strconv_ErrSyntax)] 375, .cells #[.string (kerrS Rows.laid_strconv_ErrRange)] 375], #[], []⟩
 let put (h : Array Obj) (g : Nat) (cs : Array Value) : Array Obj := h.modify g fun
  | .cells _ t frozen => .cells cs t frozen
  | o => o
 let h0 := put w0.heap 1 (kflat2 Rows.laid_guidepost_data_typeTexts)
 let h2 := put h0 2 (kflat2 Rows.laid_internal_strconv_uint64pow10)
 let h3 := put h2 3 #[.iface 373 (.pointer (some ⟨N, 0, none⟩))]
 let h4 := put h3 4 #[.iface 373 (.pointer (some ⟨N + 1, 0, none⟩))]
 let h5 := put h4 7 (kflat2 Rows.laid_math_bits_deBruijn32tab)
 let h6 := put h5 8 (kflat2 Rows.laid_math_bits_deBruijn64tab)
 let h7 := put h6 5 (kflat2 Rows.laid_unicode_utf8_first)
 let h8 := put h7 6 (kflat2 Rows.laid_unicode_utf8_acceptRanges)
 { w0 with heap := h8 }
end Go.Proofs.YtikjepodmdaknaaGreatDoor
/- Plain facts on names: a name is the list of its labels; its bytes are each label behind its length, and a byte 0. Nothing here speaks of the program. -/
namespace Go.Proofs.YtikjepodmdaknaaGreatDoor
def flat : List (List UInt8) → List UInt8
 | [] => []
 | l :: ls => UInt8.ofNat l.length :: (l ++ flat ls)
def nmL (ls : List (List UInt8)) : List UInt8 := flat ls ++ [0]
def nm (ls : List (List UInt8)) : ByteArray := ⟨(nmL ls).toArray⟩
structure OkN (ls : List (List UInt8)) : Prop where
 lab : ∀ l ∈ ls, 1 ≤ l.length ∧ l.length ≤ 63
 len : (flat ls).length ≤ 254
def IsName (s : ByteArray) : Prop := ∃ ls, OkN ls ∧ s = nm ls
theorem flat_append (a b : List (List UInt8)) : flat (a ++ b) = flat a ++ flat b := by
 induction a with
 | nil => rfl
 | cons l ls ih => simp [flat, ih]
theorem flat_snoc (a : List (List UInt8)) (l : List UInt8) : flat (a ++ [l]) = flat a ++ (UInt8.ofNat l.length :: l) := by
 rw [flat_append]; simp [flat]
theorem size_list (s : ByteArray) : s.data.toList.length = s.size := rfl
theorem ba_ext {s t : ByteArray} (h : s.data.toList = t.data.toList) : s = t := by
 cases s; cases t; congr; exact Array.toList_inj.1 h
theorem ba_toList (l : List UInt8) : (ByteArray.mk l.toArray).data.toList = l := rfl
theorem ba_size (l : List UInt8) : (ByteArray.mk l.toArray).size = l.length := rfl
theorem nm_list (ls : List (List UInt8)) : (nm ls).data.toList = nmL ls := rfl
theorem nm_size (ls : List (List UInt8)) : (nm ls).size = (flat ls).length + 1 := by
 show (nmL ls).length = _; simp [nmL]
theorem getElem_list (s : ByteArray) (k : Nat) (h : k < s.size) : s.data.toList[k]'(by rw [size_list]; exact h) = s[k] := rfl
structure Seq (s : ByteArray) (p : List (List UInt8)) : Prop where
 pre : flat p <+: s.data.toList
 lab : ∀ l ∈ p, 1 ≤ l.length ∧ l.length ≤ 255
def Ends (s : ByteArray) (k : Nat) : Prop := ∀ h : k < s.size, s[k] = 0 ∨ s.size < k + 1 + s[k].toNat
theorem Seq.nil (s : ByteArray) : Seq s [] := ⟨⟨_, rfl⟩, by simp⟩
theorem Seq.le {s : ByteArray} {p : List (List UInt8)} (h : Seq s p) : (flat p).length ≤ s.size := by
 have := h.pre.length_le; rwa [size_list] at this
theorem Seq.snoc {s : ByteArray} {p : List (List UInt8)} (h : Seq s p) {k : Nat} (hk : k = (flat p).length) (hlt : k < s.size) (hc : s[k] ≠ 0) (hn : k + 1 + s[k].toNat ≤ s.size) :
  Seq s (p ++ [((s.extract (k + 1) (k + 1 + s[k].toNat)).data.toList)]) ∧ (s.extract (k + 1) (k + 1 + s[k].toNat)).size = s[k].toNat := by
 have hsz : (s.extract (k + 1) (k + 1 + s[k].toNat)).size = s[k].toNat := by
  rw [ByteArray.size_extract]; omega
 refine ⟨⟨?_, ?_⟩, hsz⟩
 ·rw [flat_snoc, size_list, hsz, UInt8.ofNat_toNat]
  have e1 : s.data.toList = s.data.toList.take k ++ s.data.toList.drop k := (List.take_append_drop k _).symm
  have e2 : s.data.toList.take k = flat p := by
   have := List.prefix_iff_eq_take.1 h.pre; rw [hk]; exact this.symm
  have e3 : s.data.toList.drop k = s[k] :: s.data.toList.drop (k + 1) := by
   rw [List.drop_eq_getElem_cons (by rw [size_list]; exact hlt)]; rfl
  have e4 : (s.extract (k + 1) (k + 1 + s[k].toNat)).data.toList = (s.data.toList.drop (k + 1)).take (s[k].toNat) := by
   rw [Lib.extract_data]; simp
  rw [e1, e2, e3, e4]
  refine (List.prefix_append_right_inj _).2 ?_
  exact List.cons_prefix_cons.2 ⟨rfl, List.take_prefix _ _⟩
 ·intro l hl
  rcases List.mem_append.1 hl with h1 | h1
  ·exact h.lab l h1
  ·simp only [List.mem_singleton] at h1
   subst h1
   rw [size_list, hsz]
   have : s[k].toNat ≠ 0 := fun e => hc (by rw [← UInt8.ofNat_toNat (x := s[k]), e]; rfl)
   have := s[k].toNat_lt
   omega
theorem Seq.snoc_len {s : ByteArray} {p : List (List UInt8)} {k : Nat} (hk : k = (flat p).length) (hlt : k < s.size) (hn : k + 1 + s[k].toNat ≤ s.size) :
  (flat (p ++ [((s.extract (k + 1) (k + 1 + s[k].toNat)).data.toList)])).length = k + 1 + s[k].toNat := by
 rw [flat_snoc, List.length_append, List.length_cons, size_list, ByteArray.size_extract]; omega
theorem ofNat_inj {a b : Nat} (ha : a ≤ 255) (hb : b ≤ 255) (h : UInt8.ofNat a = UInt8.ofNat b) : a = b := by
 have := congrArg UInt8.toNat h
 simpa [UInt8.toNat_ofNat', Nat.mod_eq_of_lt (show a < 256 by omega), Nat.mod_eq_of_lt (show b < 256 by omega)] using this
theorem flat_prefix : ∀ (p ls : List (List UInt8)), (∀ l ∈ p, 1 ≤ l.length ∧ l.length ≤ 255) → (∀ l ∈ ls, 1 ≤ l.length ∧ l.length ≤ 63) → flat p <+: flat ls ++ [0] → p <+: ls
 | [], _, _, _, _ => List.nil_prefix
 | l :: p, [], hp, _, h => by
  have := (List.cons_prefix_cons.1 (show UInt8.ofNat l.length :: (l ++ flat p) <+: 0 :: [] from h)).1
  have h1 := hp l (by simp)
  have := ofNat_inj h1.2 (by omega : 0 ≤ 255) this
  omega
 | l :: p, m :: ls, hp, hl, h => by
  have hh := List.cons_prefix_cons.1 (show UInt8.ofNat l.length :: (l ++ flat p) <+: UInt8.ofNat m.length :: ((m ++ flat ls) ++ [0]) from h)
  have h1 := hp l (by simp)
  have h2 := hl m (by simp)
  have e := ofNat_inj h1.2 (by omega : m.length ≤ 255) hh.1
  have h3 := hh.2
  rw [List.append_assoc] at h3
  have elm : l = m := by
   have a1 : l <+: m ++ (flat ls ++ [0]) := (List.prefix_append _ _).trans h3
   have a2 : m <+: m ++ (flat ls ++ [0]) := List.prefix_append _ _
   exact (List.prefix_of_prefix_length_le a1 a2 (by omega)).eq_of_length e
  subst elm
  have h4 := (List.prefix_append_right_inj _).1 h3
  exact List.cons_prefix_cons.2 ⟨rfl, flat_prefix p ls (fun x hx => hp x (by simp [hx])) (fun x hx => hl x (by simp [hx])) h4⟩
theorem Seq.of_name {ls p : List (List UInt8)} (ho : OkN ls) (h : Seq (nm ls) p) : p <+: ls :=
 flat_prefix p ls h.lab ho.lab h.pre
theorem nm_get_end (ls : List (List UInt8)) (h : (flat ls).length < (nm ls).size) : (nm ls)[(flat ls).length] = 0 := by
 rw [← getElem_list _ _ h]
 simp [nm_list, nmL]
theorem Seq.all_name {ls p : List (List UInt8)} (ho : OkN ls) (h : Seq (nm ls) p) (he : Ends (nm ls) (flat p).length) : p = ls := by
 obtain ⟨q, hq⟩ := h.of_name ho
 cases q with
 | nil => simpa using hq
 | cons m q =>
  exfalso
  have hm := ho.lab m (by rw [← hq]; simp)
  have hfl : flat ls = flat p ++ (UInt8.ofNat m.length :: (m ++ flat q)) := by rw [← hq, flat_append]; rfl
  have hlt : (flat p).length < (nm ls).size := by rw [nm_size, hfl]; simp; omega
  have hc : (nm ls)[(flat p).length] = UInt8.ofNat m.length := by
   rw [← getElem_list _ _ hlt]
   simp [nm_list, nmL, hfl]
  have ht : (UInt8.ofNat m.length).toNat = m.length := by simp [UInt8.toNat_ofNat']; omega
  rcases he hlt with e | e
  ·rw [hc] at e
   have := ofNat_inj (by omega) (by omega : 0 ≤ 255) e
   omega
  ·rw [hc, ht, nm_size, hfl] at e
   simp at e; omega
theorem Seq.is_name {s : ByteArray} {p : List (List UInt8)} (_h : Seq s p) (h63 : ∀ l ∈ p, l.length ≤ 63) (hs : s.size ≤ 255) (hd : s.data.toList = flat p ++ [0]) (h1 : ∀ l ∈ p, 1 ≤ l.length) : OkN p ∧ s = nm p := by
 refine ⟨⟨fun l hl => ⟨h1 l hl, h63 l hl⟩, ?_⟩, ba_ext hd⟩
 rw [← size_list, hd] at hs; simp at hs; omega
end Go.Proofs.YtikjepodmdaknaaGreatDoor
/- eachLabel and what it hands back: over any bytes (at most 255) the labels come one behind the other, each with the place of its length byte. -/
namespace Go.Proofs.YtikjepodmdaknaaGreatDoor
open Go.RowKit Go.Shelf
attribute [local go_sem] Oper.semAt_some
abbrev Lab (N : Nat) := { x : Nat × ByteArray // x.1 < N ∧ x.2.size ≤ 255 }
variable {N : Nat}
abbrev labEnc (x : Lab N) : Array Value := #[.int .i64 (x.1.1 : Int), .string x.1.2]
def labs (p : List (Lab N)) : List (List UInt8) := p.map fun x => x.1.2.data.toList
theorem labs_snoc (p : List (Lab N)) (x : Lab N) : labs (p ++ [x]) = labs p ++ [x.1.2.data.toList] := by simp [labs]
def Placed : List (Lab N) → Prop := fun p => ∀ i (h : i < p.length), (p[i]).1.1 = (flat (labs (p.take i))).length
theorem Placed.nil : Placed ([] : List (Lab N)) := fun i h => by simp at h
theorem Placed.snoc {p : List (Lab N)} (h : Placed p) {x : Lab N} (hx : x.1.1 = (flat (labs p)).length) : Placed (p ++ [x]) := by
 intro i hi
 rw [List.length_append, List.length_singleton] at hi
 by_cases e : i < p.length
 ·rw [List.getElem_append_left e, h i e, List.take_append_of_le_length (by omega)]
 ·obtain rfl : i = p.length := by omega
  simp [hx]
def KeepCell (b : Nat) (W W' : World) : Prop := ∀ v, W.cell? ⟨b, 0, none⟩ = some v → W'.cell? ⟨b, 0, none⟩ = some v
theorem KeepCell.t {b : Nat} {A B C : World} (h : KeepCell b A B) (k : KeepCell b B C) : KeepCell b A C := fun v hv => k v (h v hv)
theorem KeepCell.b {b N' : Nat} (W : World) (l : Nat) (o o' : Obj) (_ : N' ≤ l) (h : W.heap[l]? = some o) (hc : o.isCells = false) (_ : o.isWalk = false) : KeepCell b W (W.putObj l o') :=
 fun _ hv => cell_kept hv (grownBy_putObj' W l o') (fun r e => by cases e; exact ⟨o, h, hc⟩)
theorem KeepCell.of_block {b : Nat} {W W' : World} (h : W'.heap[b]? = W.heap[b]?) : KeepCell b W W' := fun v hv => (World.cell?_of_block (w := W) (a := ⟨b, 0, none⟩) h).trans hv
theorem KeepCell.setCell {b B : Nat} (W : World) (v : Value) (hne : b ≠ B) : KeepCell b W (W.setCell ⟨B, 0, none⟩ v) := KeepCell.of_block (Below.heap_setCell _ _ _ _ hne)
theorem flat_count : ∀ (p : List (List UInt8)), (∀ l ∈ p, 1 ≤ l.length) → 2 * p.length ≤ (flat p).length
 | [], _ => by simp [flat]
 | l :: p, h => by
  have h1 := h l (by simp)
  have h2 := flat_count p (fun x hx => h x (by simp [hx]))
  simp [flat]; omega
theorem labs_short {s : ByteArray} {p : List (Lab N)} (h : Seq s (labs p)) (hs : s.size ≤ 255) : p.length < 256 := by
 have h1 := flat_count _ (fun l hl => (h.lab l hl).1)
 have h2 := h.le
 simp [labs] at h1; simp [labs] at h2; omega
theorem eachLabel_in (s : ByteArray) (w : World) :
  Calls Tryz.prog 147 #[.string s] w fun e w' => e = .returned (.func (.func 178) #[] #[.pointer (some ⟨w.heap.size, 0, none⟩)]) ∧ w' = w.alloc (.cells #[.string s] 9) := by
 go_enter Tryz.func147, Tryz.ntmps147
 go_wp2
 go_ret
 exact ⟨rfl, rfl⟩
set_option maxRecDepth 100000 in
set_option maxHeartbeats 1000000 in
theorem each1_in (F : Fence) (n : Nat) (h6 : F.fn 178) (hro : F.round = none) (hn : 1 ≤ n) (l Bn : Nat) (s : ByteArray) (hs : s.size ≤ 255) (J Jx : List (Lab s.size) → World → Prop)
  (hY : ∀ pre x W, J pre W → pre.length < 256 → YieldAt F (n - 1) Tryz.prog l (labEnc x) W fun e W' =>
   (e = .returned (.bool true) ∧ J (pre ++ [x]) W' ∧ KeepCell Bn W W') ∨ (e = .returned (.bool false) ∧ Jx (pre ++ [x]) W'))
  (W : World) (hBn : W.cell? ⟨Bn, 0, none⟩ = some (.string s)) (h0 : J [] W) :
  CallsIn F n Tryz.prog 178 #[.func (.yield l) #[] #[], .pointer (some ⟨Bn, 0, none⟩)] W fun e W' => (∃ v, e = .returned v) ∧
   ((∃ ys : List (Lab s.size), (Seq s (labs ys) ∧ Placed ys ∧ Ends s (flat (labs ys)).length) ∧ J ys W') ∨ (∃ pre : List (Lab s.size), (Seq s (labs pre) ∧ Placed pre) ∧ Jx pre W')) := by
 refine callsIn_of_wp Tryz.func178 rfl h6 ?_ hro
 simp only [Tryz.ntmps178, List.size_toArray, List.length_cons, List.length_nil, Nat.reduceAdd, Nat.reduceSub, Array.replicate_succ, Array.replicate_zero, List.push_toArray, List.append_toArray, List.nil_append, List.cons_append]
 gi_wp2
 gi_loopw [3] (fun i wr => ∃ (k : Nat) (pre : List (Lab s.size)), i = .int .i64 k ∧ k = (flat (labs pre)).length ∧ Seq s (labs pre) ∧ Placed pre ∧ J pre wr ∧ wr.cell? ⟨Bn, 0, none⟩ = some (.string s))
  (fun i _ => s.size - (intOf i).toNat)
 case atStart => exact ⟨0, [], rfl, rfl, Seq.nil s, Placed.nil, h0, hBn⟩
 case round =>
  obtain ⟨k, pre, rfl, hk, hsq, hpl, hJs, hcx⟩ := hrel
  have HK : Hid (k = (flat (labs pre)).length) := hk
  clear hk
  have hkle : k ≤ s.size := by rw [HK.out]; exact hsq.le
  by_cases hlt : k < s.size
  ·by_cases hz : s[k] = 0
   ·have hzb : ((s[k].toNat : Int) != 0) = false := by rw [hz]; rfl
    have hE : Hid (Ends s (flat (labs pre)).length) := by
     show Ends s _; rw [← HK.out]; exact fun _ => .inl hz
    clear hz
    gi_wp2
    go_end0
    exact ⟨⟨_, rfl⟩, .inl ⟨pre, ⟨hsq, hpl, hE.out⟩, hJs⟩⟩
   ·have hzb : ((s[k].toNat : Int) != 0) = true := by
     rw [bne_iff_ne]; intro e; exact hz (by rw [← UInt8.ofNat_toNat (x := s[k]), show s[k].toNat = 0 by omega]; rfl)
    by_cases hfit : k + 1 + s[k].toNat ≤ s.size
    ·have hu := s[k].toNat_lt
     have hsz : (s.extract (k + 1) (k + 1 + s[k].toNat)).size ≤ 255 := by rw [ByteArray.size_extract]; omega
     obtain ⟨fn, tmps, assign, body, hy, hR⟩ := hY _ ⟨(k, s.extract (k + 1) (k + 1 + s[k].toNat)), hlt, hsz⟩ wr hJs (labs_short hsq hs)
     dsimp only [labEnc] at hy
     have HS := Seq.snoc hsq HK.out hlt hz hfit
     have HL := Seq.snoc_len HK.out hlt hfit
     have HS' : Hid _ := HS
     have HL' : Hid _ := HL
     clear HS HL hz
     gi_wp2
     refine hR.mono ?_
     rintro e W3 (⟨rfl, hJ3, hk3⟩ | ⟨rfl, hJx3⟩)
     ·gi_wp2
      go_roundw
      case rel => exact ⟨k + 1 + s[k].toNat, _, by go_num, by rw [labs_snoc]; exact HL'.out.symm, by rw [labs_snoc]; exact HS'.out.1, hpl.snoc HK.out, hJ3, hk3 _ hcx⟩
      case measure => simp [intOf]; omega
     ·gi_wp2
      refine bodyPost_ret (results_none rfl _ _ _) rfl ?_
      exact ⟨⟨_, rfl⟩, .inr ⟨_, ⟨by rw [labs_snoc]; exact HS'.out.1, hpl.snoc HK.out⟩, hJx3⟩⟩
    ·have hE : Hid (Ends s (flat (labs pre)).length) := by
      show Ends s _; rw [← HK.out]; exact fun _ => .inr (by omega)
     have hu := s[k].toNat_lt
     have hfit' : s.size < k + 1 + s[k].toNat := by omega
     clear hz hfit
     gi_wp2
     refine ⟨fun _ h => (by cases h), ?_⟩
     gi_wp2
     refine bodyPost_ret (results_none rfl _ _ _) rfl ?_
     exact ⟨⟨_, rfl⟩, .inl ⟨pre, ⟨hsq, hpl, hE.out⟩, hJs⟩⟩
  ·have hE : Hid (Ends s (flat (labs pre)).length) := by
    show Ends s _; rw [← HK.out]; exact fun h => absurd h hlt
   gi_wp2
   go_end0
   exact ⟨⟨_, rfl⟩, .inl ⟨pre, ⟨hsq, hpl, hE.out⟩, hJs⟩⟩
theorem eachLabel_stops (F : Fence) (n : Nat) (h6 : F.fn 178) (hro : F.round = none) (hn : 1 ≤ n) (Bn : Nat) (s : ByteArray) (hs : s.size ≤ 255) (w : World) (hBw : Bn < w.heap.size)
  (hBn : w.cell? ⟨Bn, 0, none⟩ = some (.string s)) :
  SeqStopsK F n Tryz.prog 178 #[.pointer (some ⟨Bn, 0, none⟩)] labEnc (KeepCell Bn) (fun ys : List (Lab s.size) => Seq s (labs ys) ∧ Placed ys ∧ Ends s (flat (labs ys)).length) (fun pre : List (Lab s.size) => Seq s (labs pre) ∧ Placed pre) 256 w :=
 fun l J Jx W hW _ _ hY h0 => each1_in F n h6 hro hn l Bn s hs J Jx hY W ((hW.cell (p := ⟨Bn, 0, none⟩) hBw).trans hBn) h0
end Go.Proofs.YtikjepodmdaknaaGreatDoor
/- Right: of any bytes it tells whether they are a name. -/
namespace Go.Proofs.YtikjepodmdaknaaGreatDoor
open Go.RowKit Go.Shelf
attribute [local go_sem] Oper.semAt_some
variable {N : Nat}
def endOf (p : List (Lab N)) : Nat := match p.getLast? with | none => 0 | some x => x.1.1 + 1 + x.1.2.size
theorem endOf_snoc (p : List (Lab N)) (x : Lab N) : endOf (p ++ [x]) = x.1.1 + 1 + x.1.2.size := by simp [endOf]
theorem endOf_placed : ∀ {p : List (Lab N)}, Placed p → endOf p = (flat (labs p)).length := by
 intro p h
 rcases List.eq_nil_or_concat p with rfl | ⟨q, x, rfl⟩
 ·rfl
 ·rw [List.concat_eq_append] at h ⊢
  rw [endOf_snoc, labs_snoc, flat_snoc]
  have := h q.length (by simp)
  simp at this
  simp [this]; omega
theorem Hid.mk {p : Prop} (h : p) : Hid p := h
theorem right_fin {s : ByteArray} {ys : List (Lab N)} (hsq : Seq s (labs ys)) (hpl : Placed ys) (hen : Ends s (flat (labs ys)).length) (h3 : ∀ l ∈ labs ys, l.length ≤ 63) (h : s.size ≤ 255) :
  (((s.extract (endOf ys) s.size).toList == [0]) = true) ↔ IsName s := by
 rw [endOf_placed hpl, beq_iff_eq, ByteArray.toList_eq]
 have hx : (s.extract (flat (labs ys)).length s.size).data.toList = s.data.toList.drop (flat (labs ys)).length := by
  rw [Lib.extract_data]; exact List.take_of_length_le (by rw [List.length_drop, size_list]; exact Nat.le_refl _)
 have hs : s.data.toList = flat (labs ys) ++ s.data.toList.drop (flat (labs ys)).length := by
  have := List.prefix_iff_eq_take.1 hsq.pre
  conv => lhs; rw [← List.take_append_drop (flat (labs ys)).length s.data.toList, ← this]
 rw [hx]
 constructor
 ·intro e
  rw [e] at hs
  obtain ⟨h1, h2⟩ := hsq.is_name h3 h hs (fun l hl => (hsq.lab l hl).1)
  exact ⟨_, h1, h2⟩
 ·rintro ⟨ls, ho, rfl⟩
  have hp : labs ys = ls := hsq.all_name ho hen
  rw [hp, nm_list]; simp [nmL]
theorem right_stop {s : ByteArray} {pre : List (Lab N)} (hsq : Seq s (labs pre)) {l : List UInt8} (hl : l ∈ labs pre) (h63 : 63 < l.length) : (false = true ↔ IsName s) := by
 refine ⟨fun h => (by cases h), ?_⟩
 rintro ⟨ls, ho, rfl⟩
 have := ho.lab l ((hsq.of_name ho).subset hl)
 omega
theorem right_long (s : ByteArray) (w : World) (hm : s.size ≤ maxLen) (h : 255 < s.size) :
  Calls Tryz.prog 105 #[.string s] w fun e w' => e = .returned (.bool false) ∧ Below w.heap.size w w' := by
 unfold maxLen at hm
 go_enter Tryz.func105, Tryz.ntmps105
 go_wp2
 refine bodyPost_ret (v := .bool false) (by simp [results, Tryz.results105, go_sem]) rfl ⟨rfl, ?_⟩
 exact (Below.refl _ _).alloc (Nat.le_refl _) _
set_option maxRecDepth 100000 in
set_option maxHeartbeats 1000000 in
theorem right_short (s : ByteArray) (w : World) (h : s.size ≤ 255) :
  Calls Tryz.prog 105 #[.string s] w fun e w' => (∃ b, e = .returned (.bool b) ∧ (b = true ↔ IsName s)) ∧ Below w.heap.size w w' := by
 have hb255 : decide (255 < (s.size : Int)) = false := by simp; omega
 refine (callsIn_wide (n := 5)).1 ?_
 refine callsIn_of_wp_marks Tryz.func105 rfl trivial ?_ rfl
 simp only [Tryz.ntmps105, List.size_toArray, List.length_cons, List.length_nil, Nat.reduceAdd, Nat.reduceSub, Array.replicate_succ, Array.replicate_zero, List.push_toArray, List.append_toArray, List.nil_append, List.cons_append]
 gi_wp2_with (refine ⟨trivial, ?_⟩; gi_at_call 147; refine (callsIn_wide.2 (eachLabel_in _ _)).mono ?_; rintro e w' ⟨rfl, rfl⟩)
 have hs : ((((w.alloc (.cells #[.bool false] 4)).alloc (.cells #[.int .i64 0] 3))).alloc (.cells #[.string s] 9)).cell? ⟨w.heap.size + 1 + 1, 0, none⟩ = some (.string s) := by
  have := (Boxed.new (((w.alloc (.cells #[.bool false] 4)).alloc (.cells #[.int .i64 0] 3))) 9 (.string s)).cell
  rwa [World.size_alloc, World.size_alloc] at this
 refine wpIn_rangeFunc_ownF rfl (by omega) (gf := 178) (lb := #[.pointer (some ⟨w.heap.size + 1 + 1, 0, none⟩)]) rfl trivial (enters_of Tryz.func178 (by kernel_rfl) rfl)
  (eachLabel_stops Fence.wide (5 - 1) trivial rfl (by omega) (w.heap.size + 1 + 1) s h _ (by simp) hs) KeepCell.t KeepCell.b (Below.refl _ _) (fun _ => rfl)
  (fun pre W => (Boxed W w.heap.size 4 (.bool false) ∧ Boxed W (w.heap.size + 1) 3 (.int .i64 (endOf pre)) ∧ (∀ l ∈ labs pre, l.length ≤ 63)) ∧ Below w.heap.size w W)
  (fun c pre W => (c = .ret ∧ Boxed W w.heap.size 4 (.bool false) ∧ ∃ l ∈ labs pre, 63 < l.length) ∧ Below w.heap.size w W)
  ?hI ?hIx ?h0 (fun x => { tmps := #[.string s, undef, .pointer (some ⟨w.heap.size, 0, none⟩), .pointer (some ⟨w.heap.size + 1, 0, none⟩), .int .i64 (x.1.1 : Int), .string x.1.2, .string s, .int .i64 s.size, .bool false, .string s, .func (.func 178) #[] #[.pointer (some ⟨w.heap.size + 1 + 1, 0, none⟩)], .int .i64 (x.1.1 : Int), .string x.1.2, undef, undef, undef, undef, undef, undef, undef, undef, undef, undef, undef, undef], defers := [] }) ?assign ?body ?done ?stop
 case hI =>
  exact OwnFrom.and (OwnFrom.and (Own.from (boxed_own _ _ _) _) (OwnFrom.and (Own.from (boxed_own _ _ _) _) (ownFrom_pure _ _))) (ownFrom_below (Nat.le_refl _) (by simp; omega))
 case hIx =>
  intro c
  exact OwnFrom.and (OwnFrom.and (ownFrom_pure _ _) (OwnFrom.and (Own.from (boxed_own _ _ _) _) (ownFrom_pure _ _))) (ownFrom_below (Nat.le_refl _) (by simp; omega))
 case h0 =>
  refine ⟨⟨((Boxed.new _ _ _).alloc _).alloc _, ?_, by simp [labs]⟩, (((Below.refl _ _).alloc (Nat.le_refl _) _).alloc (by simp) _).alloc (by simp; omega) _⟩
  have := (Boxed.new (w.alloc (.cells #[.bool false] 4)) 3 (.int .i64 0)).alloc (.cells #[.string s] 9)
  rwa [World.size_alloc] at this
 case assign =>
  intro l x W K hK
  gi_wp2
  exact hK
 case body =>
  rintro l pre x W ⟨⟨h1, h2, h3⟩, hB⟩ _
  have hx1 := x.2.1
  have hx2 := x.2.2
  have hc1 := h1.cell
  have hf1 := h1.frozen
  have hc2 := h2.cell
  have hf2 := h2.frozen
  by_cases hlen : x.1.2.size ≤ 63
  ·gi_wp2
   refine ⟨KeepsOthers.setCell _ _ _, KeepCell.setCell _ _ (by omega), ⟨h1.other (by omega) _, ?_, ?_⟩, hB.setCell (p := ⟨w.heap.size + 1, 0, none⟩) (by simp) _⟩
   ·have := h2.set (.int .i64 ((endOf (pre ++ [x]) : Nat) : Int))
    rw [endOf_snoc] at this ⊢
    exact this
   ·rw [labs_snoc]; intro l' hl'
    rcases List.mem_append.1 hl' with h' | h'
    ·exact h3 l' h'
    ·simp only [List.mem_singleton] at h'; subst h'; exact hlen
  ·gi_wp2
   refine ⟨KeepsOthers.setCell _ _ _, ⟨rfl, h1.set _, ?_⟩, hB.setCell (p := ⟨w.heap.size, 0, none⟩) (by simp) _⟩
   rw [labs_snoc]; exact ⟨x.1.2.data.toList, by simp, by rw [size_list]; omega⟩
 case done =>
  rintro D ys W hD ⟨hsq, hpl, hen⟩ ⟨⟨h1, h2, h3⟩, hB⟩ hK
  have hc1 := h1.cell
  have hf1 := h1.frozen
  have hc2 := h2.cell
  have he : endOf ys ≤ s.size := by rw [endOf_placed hpl]; exact hsq.le
  have Hfin : Hid ((((s.extract (endOf ys) s.size).toList == [0]) = true) ↔ IsName s) := right_fin hsq hpl hen h3 h
  generalize hbv : ((s.extract (endOf ys) s.size).toList == [0]) = bv at Hfin
  have HBV := Hid.mk hbv
  clear hbv h3
  gi_wp2
  rw [HBV.out]
  have hK' := (KeepsOthers.setCell W ⟨w.heap.size, 0, none⟩ (.bool bv)).same D _ hK rfl
  refine ⟨by simp, .inl ⟨_, _, rfl, run_takeDeferred hK', ?_⟩⟩
  have hc5 := cell_kept (World.cell?_setCell_same' W ⟨w.heap.size, 0, none⟩ (.bool bv) (by rw [hc1]; rfl)) (grownBy_putObj' _ D (.deferred none)) (fun r e => by cases e; exact ⟨_, hK', rfl⟩)
  refine ⟨.bool bv, ?_, ⟨bv, rfl, Hfin.out⟩, (hB.setCell (p := ⟨w.heap.size, 0, none⟩) (by simp) _).trans (belowK_b (w := w) (Nat.le_refl _) _ D _ _ (by simp at hD; omega) hK' rfl rfl)⟩
  simp [results, Tryz.f105, go_sem, hc5]
 case stop =>
  rintro D c pre W hD ⟨hsq, hpl⟩ ⟨⟨rfl, h1, l, hl, h63⟩, hB⟩ hK
  gi_wp2
  refine ⟨by simp, .inl ⟨_, _, rfl, run_takeDeferred hK, ?_⟩⟩
  have hc5 := cell_kept h1.cell (grownBy_putObj' _ D (.deferred none)) (fun r e => by cases e; exact ⟨_, hK, rfl⟩)
  refine ⟨.bool false, ?_, ⟨false, rfl, right_stop hsq hl h63⟩, hB.trans (belowK_b (w := w) (Nat.le_refl _) W D _ _ (by simp at hD; omega) hK rfl rfl)⟩
  simp [results, Tryz.f105, go_sem, hc5]
theorem right_yes (ls : List (List UInt8)) (ho : OkN ls) (w : World) :
  Calls Tryz.prog 105 #[.string (nm ls)] w fun e w' => e = .returned (.bool true) ∧ Below w.heap.size w w' :=
 (right_short (nm ls) w (by rw [nm_size]; have := ho.len; omega)).mono fun e w' ⟨⟨b, he, hb⟩, h⟩ => ⟨by rw [he, hb.2 ⟨ls, ho, rfl⟩], h⟩
theorem right_no (s : ByteArray) (hn : ¬ IsName s) (hm : s.size ≤ maxLen) (w : World) :
  Calls Tryz.prog 105 #[.string s] w fun e w' => e = .returned (.bool false) ∧ Below w.heap.size w w' := by
 by_cases h : s.size ≤ 255
 ·refine (right_short s w h).mono fun e w' ⟨⟨b, he, hb⟩, hB⟩ => ⟨?_, hB⟩
  cases b with
  | false => exact he
  | true => exact absurd (hb.1 rfl) hn
 ·exact right_long s w hm (by omega)
end Go.Proofs.YtikjepodmdaknaaGreatDoor
/- labelsOf: the labels of a name, in a new array. -/
namespace Go.Proofs.YtikjepodmdaknaaGreatDoor
open Go.RowKit Go.Shelf
attribute [local go_sem] Oper.semAt_some
theorem info9 : (Tryz.prog.info? 9).map (fun i => (i.zero, i.size, i.bytes)) = some (some (.string ⟨#[]⟩), 1, 16) := by kernel_rfl
end Go.Proofs.YtikjepodmdaknaaGreatDoor
/- sharedEnd: how many of the last labels of two lists are the same. -/
namespace Go.Proofs.YtikjepodmdaknaaGreatDoor
open Go.RowKit
end Go.Proofs.YtikjepodmdaknaaGreatDoor
namespace Go.Proofs.YtikjepodmdaknaaGreatDoor
open Go.RowKit
theorem wT {P : Program} {ops : Array Oper} {Q : Exit → Act → World → Prop} {md : Region.Mode} {S : World → Prop} {i : Nat} {oi : Oper} {v : Value} {fuel : Nat} {listed : Array Bool} {a : Act} {w : World} (hi : ops[i]? = some oi) (hy : YieldsIf P ops S oi v a) (hS : S w) (h : wpAnyH P md ops Q S fuel (listed.setIfInBounds i true) (a.put oi.dst v) w)
  (hs : Region.noSelect ops = true := by kernel_rfl) (hf : Region.free md ops listed i = true := by kernel_rfl) (hr : (Region.ready md ops listed).contains i = true := by kernel_rfl) (hQ : ∀ c a w, Q (.panic c) (a.put oi.dst v) w → Q (.panic c) a w := by exact fun _ _ _ h => h) : wpAnyH P md ops Q S (fuel + 1) listed a w := wpAnyH_take hi hs hf hr hQ hy hS h
theorem wU {P : Program} {ops : Array Oper} {Q : Exit → Act → World → Prop} {md : Region.Mode} {S : World → Prop} {i : Nat} {oi : Oper} {v : Value} {fuel : Nat} {listed : Array Bool} {a : Act} {w : World} (hi : ops[i]? = some oi) (hy : ∀ w, S w → (execOp a.eval oi).run P w = .ok (.value v) w) (hS : S w) (h : wpAnyH P md ops Q S fuel (listed.setIfInBounds i true) (a.put oi.dst v) w)
  (hs : Region.noSelect ops = true := by kernel_rfl) (hf : Region.free md ops listed i = true := by kernel_rfl) (hr : (Region.ready md ops listed).contains i = true := by kernel_rfl) (hQ : ∀ c a w, Q (.panic c) (a.put oi.dst v) w → Q (.panic c) a w := by exact fun _ _ _ h => h) (hg : Region.wanted oi (yielded ops a.tmps) = true := by kernel_rfl) : wpAnyH P md ops Q S (fuel + 1) listed a w := wpAnyH_take hi hs hf hr hQ (Or.inl ⟨hg, hy⟩) hS h
end Go.Proofs.YtikjepodmdaknaaGreatDoor
