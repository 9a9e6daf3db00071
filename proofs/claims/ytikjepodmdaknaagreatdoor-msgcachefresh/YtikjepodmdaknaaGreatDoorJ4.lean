/- Texts of this proof, joined: DSound, DSplit2, DOther, Shelf, DTold, Draft. -/
import Derived.Deep.RegionWith
import Derived.Test.YtikjepodmdaknaaGreatDoorJ3
import Derived.Shelf.Strings.Builder1
import Derived.Shelf.Strings.Builder2
import Derived.Shelf.Strings.OnBuilder
import Derived.Shelf.Small.Bits
import Derived.Shelf.Small.Strs
import Derived.Shelf.Small.Wraps
import Derived.Shelf.Strings.BuilderF
import Derived.Shelf.Strconv.Itoa0
import Derived.Shelf.Strconv.Itoa1
import Derived.Shelf.LaysM
import Derived.Shelf.Strconv.Itoa2
import Derived.Shelf.Strconv.Itoa3
import Derived.Shelf.Strconv.Itoa4
import Derived.Shelf.Strconv.ParseIntEmpty
import Derived.Shelf.Strconv.Clone
import Derived.Shelf.Strconv.SyntaxError
import Derived.Shelf.LaysC
import Derived.Shelf.Strconv.ToError
import Derived.Shelf.Strconv.Lower
import Derived.Shelf.Strconv.ParseUint10
import Derived.Shelf.Strconv.ParseUint10Empty
import Derived.Shelf.Strconv.ParseUint10Any
import Derived.Shelf.Strconv.ParseInt10
import Derived.Shelf.Strconv.RangeError
import Derived.Shelf.Strconv.ToErrorRange
import Derived.Shelf.Strconv.ParseUintEmpty
import Derived.Shelf.Strconv.ParseUint10b64
import Derived.Shelf.Strconv.ParseUint10b32
import Derived.Shelf.Strconv.ParseUint10b16
import Derived.Shelf.Strconv.ParseUint10b8
import Derived.Shelf.Strconv.ParseUint10At
import Derived.Shelf.Strconv.ParseInt10At64
import Derived.Shelf.Strconv.ParseInt10At32
import Derived.Shelf.Strconv.ParseInt10At16
import Derived.Shelf.Strconv.ParseInt10At8
import Derived.Shelf.Strconv.ParseInt10All
import Derived.Shelf.Strconv.ParseIntPublic10
import Derived.Shelf.Strings.Search1
import Derived.Shelf.Strings.Search2
import Derived.Shelf.Strings.Search3
import Derived.Shelf.Strings.Cut
import Derived.Shelf.Strings.Count
import Derived.Shelf.Strings.Shaped
import Derived.Shelf.Sort.Plain
import Derived.Shelf.Strings.Prefix
import Derived.Shelf.Strings.Split
import Derived.Shelf.Strings.SplitShaped
import Derived.Shelf.Unicode.DecodeSlow
import Derived.Shelf.Slices.Equal
import Derived.Shelf.Slices.CompactS
import Derived.Shelf.Slices.Cells
import Derived.Shelf.Slices.In.SortNone
import Derived.Shelf.Slices.Empties2
import Derived.Test.YtikjepodmdaknaaGreatDoorProg
import Derived.Lib.AppendStr
import Derived.Maps.AppendAt
import Derived.RangeFuncBox
import Derived.Test.YtikjepodmdaknaaGreatDoorJ2
set_option linter.unusedVariables false
set_option linter.unusedSimpArgs false
/- split: data in pieces, or none; sound, which recovers. -/
namespace Go.Proofs.YtikjepodmdaknaaGreatDoor
open Go.RowKit
def PartsPost (n : Nat) (pf : Nat → ByteArray → Option Nat) (w : World) (e : Ending) (w' : World) : Prop :=
 ∃ g P, e = .returned (.slice (some ⟨g, 0, none⟩) n n) ∧ PartsIn w' g n P ∧ (∀ k, k < n → Enters (P k).pass) ∧
  (∀ k, k < n → ∀ (W' : World) (d : Nat) (s' : ByteArray), Below w'.heap.size w' W' → w'.heap.size ≤ d → Rd W' d s' → s'.size ≤ 2000 →
   Calls Tryz.prog (P k).pass (#[boxV d] ++ (P k).passC) W' fun e w'' => PassPost (pf k s') s' d W' w'' e) ∧ Below w.heap.size w w'
theorem box_cell {W : World} {b : Nat} {v : Value} {t : TypeId} (h : W.heap[b]? = some (.cells #[v] t (0, 0))) : W.cell? ⟨b, 0, none⟩ = some v := by simp [World.cell?, h]
theorem box_frozen {W : World} {b : Nat} {v : Value} {t : TypeId} (h : W.heap[b]? = some (.cells #[v] t (0, 0))) : W.frozen? ⟨b, 0, none⟩ = false := by simp [World.frozen?, h]
theorem box_lt {W : World} {b : Nat} {o : Obj} (h : W.heap[b]? = some o) : b < W.heap.size := (Array.getElem?_eq_some_iff.1 h).1
theorem box_set {W : World} {b : Nat} {v : Value} {t : TypeId} (h : W.heap[b]? = some (.cells #[v] t (0, 0))) (u : Value) : (W.setCell ⟨b, 0, none⟩ u).heap[b]? = some (.cells #[u] t (0, 0)) := by
 simp only [World.setCell, Array.getElem?_modify, h]
 rfl
theorem row_kept' {W W' : World} {n₀ n b : Nat} {e : TypeId} {v : Value} {xs : List Value} (h : W.ownsRow n₀ e 1 v n xs) (k : Kept b W W') (hb : b < n₀) : W'.ownsRow n₀ e 1 v n xs := by
 refine ⟨h.1, ?_⟩
 rcases h.2 with h' | ⟨g', cap', cur, hv, hb', hg', hr⟩
 ·exact .inl h'
 ·exact .inr ⟨g', cap', cur, hv, hb', (k.same g' (box_lt hg') (by omega)).trans hg', hr⟩
theorem row_down {W : World} {n₀ n₁ n : Nat} {e : TypeId} {v : Value} {xs : List Value} (h : W.ownsRow n₁ e 1 v n xs) (hn : n₀ ≤ n₁) : W.ownsRow n₀ e 1 v n xs :=
 ⟨h.1, h.2.imp id fun ⟨g', cap', cur, hv, hb', hr⟩ => ⟨g', cap', cur, hv, by omega, hr⟩⟩
theorem with_dummy {G : Prop} (w : World) (h : G) (d : wpAny Tryz.prog .any #[] (fun _ _ _ => True) 0 #[] { tmps := #[], defers := [] } w) : G := h
theorem row_as {W : World} {n₀ n : Nat} {e : TypeId} {v : Value} {xs : List Value} (h : W.ownsRow n₀ e 1 v n xs) : ∃ q cap, v = .slice q n cap := by
 rcases h.2 with ⟨rfl, rfl⟩ | ⟨g, cap, cur, hv, _⟩
 ·exact ⟨none, 0, rfl⟩
 ·exact ⟨_, _, hv⟩
def WorkPost (R : Option (List ByteArray)) (b : Nat) (W : World) (e : Ending) (w' : World) : Prop := (match R with
 | some ps => e = .returned (.tuple #[]) ∧ ∃ v, w'.ownsRow W.heap.size 9 1 v ps.length (baV ps) ∧ w'.heap[b]? = some (.cells #[v] 32 (0, 0))
 | none => e = .panicked mustV ∧ w'.heap[b]? = W.heap[b]?) ∧ Kept b W w'
set_option maxRecDepth 100000 in
set_option maxHeartbeats 4000000 in
theorem split1_in (W : World) (bk bd bp n : Nat) (hn : n ≤ 20) (k : Int) (s : ByteArray) (hs : s.size ≤ 2000) (v0 : Value) (pf : Nat → ByteArray → Option Nat)
  (hk : W.heap[bk]? = some (.cells #[.int .i64 k] 3 (0, 0))) (hd : W.heap[bd]? = some (.cells #[.string s] 9 (0, 0))) (hp : W.heap[bp]? = some (.cells #[v0] 32 (0, 0)))
  (hparts : ∀ w, Calls Tryz.prog 161 #[.int .i64 k] w fun e w' => PartsPost n pf w e w') :
  Calls Tryz.prog 169 #[boxV bk, boxV bd, boxV bp] W fun e w' => WorkPost (fin pf n s) bp W e w' := by
 have ck := box_cell hk
 have cd := box_cell hd
 have HP := Hid.mk hparts
 clear hparts
 have hmo : Tryz.prog.follows Departure.mixedOrders = true := by kernel_rfl
 have HL : Hid (∀ (G : Prop) (w1 : World), Below W.drew.heap.size W.drew w1 → (w1.cell? ⟨bd, 0, none⟩ = some (.string s) → w1.heap[bp]? = some (.cells #[v0] 32 (0, 0)) → Kept bp W w1 → W.heap.size ≤ w1.heap.size → G) → G) := by
  intro G w1 hb hG
  have hb' : Below W.heap.size W w1 := ⟨hb.os, hb.tape, hb.output, hb.size, hb.block⟩
  exact hG ((hb'.cell (p := ⟨bd, 0, none⟩) (box_lt hd)).trans cd) ((hb'.block bp (box_lt hp)).trans hp) (Kept.of_below hb') hb.size
 have HQ := Hid.mk (fun (w1 : World) (g : Nat) (P : Nat → Part) (hP : PartsIn w1 g n P) hen hpf => piecesOf_in w1 g n n hn s hs P hP pf hen hpf)
 obtain ⟨R, hR⟩ : ∃ R, fin pf n s = R := ⟨_, rfl⟩
 rw [hR] at HQ ⊢
 clear hR
 cases R with
 | none =>
  go_enter Tryz.func169, Tryz.ntmps169
  go_wp2
  go_region_with (first
   | (go_at_call 161; refine (HP.out _).mono ?_; rintro e w1 ⟨g, P, rfl, hP, hen, hpf, hb1⟩; refine HL.out _ w1 hb1 ?_; intro cd1 hp1 kk1 sz1)
   | (go_at_call 170; refine (HQ.out w1 g P hP hen hpf).mono ?_; rintro e w2 ⟨rfl, hb2⟩; refine with_dummy w2 ⟨rfl, ⟨rfl, ((hb2.block bp (box_lt hp1)).trans hp1).trans hp.symm⟩, kk1.trans (Kept.of_below hb2)⟩ ?_))
  all_goals trivial
 | some ps =>
  have HF : Hid (∀ (G : Prop) (v : Value) (w1 w2 : World), w2.ownsRow w1.heap.size 9 1 v ps.length (baV ps) → w1.heap[bp]? = some (.cells #[v0] 32 (0, 0)) → Below w1.heap.size w1 w2 →
    (∀ q c, v = .slice q ps.length c → w2.heap[bp]? = some (.cells #[v0] 32 (0, 0)) → w2.cell? ⟨bp, 0, none⟩ = some v0 → w2.frozen? ⟨bp, 0, none⟩ = false → G) → G) := by
   intro G v w1 w2 hr h1 hb hG
   have h2 := (hb.block bp (box_lt h1)).trans h1
   obtain ⟨q, c, hv⟩ := row_as hr
   exact hG q c hv h2 (box_cell h2) (box_frozen h2)
  go_enter Tryz.func169, Tryz.ntmps169
  go_wp2
  go_region_with (first
   | (go_at_call 161; refine (HP.out _).mono ?_; rintro e w1 ⟨g, P, rfl, hP, hen, hpf, hb1⟩; refine HL.out _ w1 hb1 ?_; intro cd1 hp1 kk1 sz1)
   | (go_at_call 170; refine (HQ.out w1 g P hP hen hpf).mono ?_; rintro e w2 ⟨⟨v, rfl, hrow⟩, hb2⟩; refine HF.out _ v w1 w2 hrow hp1 hb2 ?_; intro q c hv hp2 cp2 fp2; subst hv))
  all_goals
   go_wp2
   refine bodyPost_end (results_none rfl _ _ _) rfl ⟨⟨rfl, _, ?_, box_set hp2 _⟩, (kk1.trans (Kept.of_below hb2)).trans (Kept.set _ _ _ _)⟩
   exact row_kept' (row_down hrow sz1) (Kept.set _ _ _ _) (box_lt hp)
theorem catch_panic (p : Nat) (w : World) (b : Bool) (h : w.heap[p]? = some (.cells #[.bool b] 4 (0, 0))) (older : List PanicEntry) :
  CallsD Tryz.prog 164 #[boxV p] (.panicking ({ v := .iface 25 (.int .i64 6), recovered := false } :: older)) w fun e u' w' =>
   e = .returned (.tuple #[]) ∧ u' = .panicking ({ v := .iface 25 (.int .i64 6), recovered := true } :: older) ∧ w' = w.setCell ⟨p, 0, none⟩ (.bool false) := by
 have hc := box_cell h
 have hz := box_frozen h
 refine callsD_of_wpS Tryz.func164 rfl fun c₀ cs hu => ?_
 apply wpS_seq
 apply wpS_region
 simp [wpOpsS, go_sem, recoverD, hu, Tryz.ntmps164, Exit.thenS]
 refine wpS_cond (t := true) (by simp [Act.eval, Array.replicate]) ?_
 simp only [if_true]
 apply wpS_region
 simp [wpOpsS, go_sem, hc, hz, bodyPostS, results, Tryz.results164]
theorem catch_idle (p : Nat) (w : World) :
  CallsD Tryz.prog 164 #[boxV p] .returning w fun e u' w' => e = .returned (.tuple #[]) ∧ u' = .returning ∧ w' = w := by
 refine callsD_of_wpS Tryz.func164 rfl fun c₀ cs hu => ?_
 apply wpS_seq
 apply wpS_region
 simp [wpOpsS, go_sem, recoverD, hu, Tryz.ntmps164, Exit.thenS]
 refine wpS_cond (t := false) (by simp [Act.eval, Array.replicate]) ?_
 simp only [Bool.false_eq_true, if_false]
 refine wpS_of_wp (wp_skip ?_)
 cases c₀
 simp_all [bodyPostS, results, Tryz.results164]
end Go.Proofs.YtikjepodmdaknaaGreatDoor
/- split, with sound around its work; Right. -/
namespace Go.Proofs.YtikjepodmdaknaaGreatDoor
open Go.RowKit
def SoundPost (R : Option (List ByteArray)) (b : Nat) (W : World) (e : Ending) (w' : World) : Prop := (match R with
 | some ps => e = .returned (.bool true) ∧ ∃ v, w'.ownsRow W.heap.size 9 1 v ps.length (baV ps) ∧ w'.heap[b]? = some (.cells #[v] 32 (0, 0))
 | none => e = .returned (.bool false) ∧ w'.heap[b]? = W.heap[b]?) ∧ Kept b W w'
theorem alloc_old (W : World) (o : Obj) (b : Nat) (hb : b < W.heap.size) : (W.alloc o).heap[b]? = W.heap[b]? := ((Below.refl W.heap.size W).alloc (Nat.le_refl _) o).block b hb
theorem kept_box {bp : Nat} {W w1 : World} {o : Obj} (h : Kept bp (W.alloc o) w1) (v : Value) : Kept bp W (w1.setCell ⟨W.heap.size, 0, none⟩ v) := by
 have hs := h.size
 simp at hs
 refine ⟨h.os, h.tape, h.output, by simp [World.setCell]; omega, fun b hb hd => ?_⟩
 rw [Below.heap_setCell w1 ⟨W.heap.size, 0, none⟩ v b (show b ≠ W.heap.size by omega), h.same b (by simp; omega) hd, alloc_old W o b hb]
set_option maxRecDepth 100000 in
set_option maxHeartbeats 2000000 in
theorem soundSplit_in (W : World) (bk bd bp n : Nat) (hn : n ≤ 20) (k : Int) (s : ByteArray) (hs : s.size ≤ 2000) (v0 : Value) (pf : Nat → ByteArray → Option Nat)
  (hk : W.heap[bk]? = some (.cells #[.int .i64 k] 3 (0, 0))) (hd : W.heap[bd]? = some (.cells #[.string s] 9 (0, 0))) (hp : W.heap[bp]? = some (.cells #[v0] 32 (0, 0)))
  (hparts : ∀ w, Calls Tryz.prog 161 #[.int .i64 k] w fun e w' => PartsPost n pf w e w') :
  Calls Tryz.prog 124 #[fnV 169 #[boxV bk, boxV bd, boxV bp]] W fun e w' => SoundPost (fin pf n s) bp W e w' := by
 have hmf := mkf
 have hal : ∀ o, Below W.heap.size W (W.alloc o) := fun o => (Below.refl _ _).alloc (Nat.le_refl _) o
 have HW := Hid.mk (fun (o : Obj) => split1_in (W.alloc o) bk bd bp n hn k s hs v0 pf (((hal o).block bk (box_lt hk)).trans hk) (((hal o).block bd (box_lt hd)).trans hd) (((hal o).block bp (box_lt hp)).trans hp) hparts)
 clear hparts
 obtain ⟨R, hR⟩ : ∃ R, fin pf n s = R := ⟨_, rfl⟩
 rw [hR] at HW ⊢
 clear hR
 cases R with
 | none =>
  go_enter_defers Tryz.func124, Tryz.ntmps124
  go_wp2_with fail
  refine (HW.out _).mono ?_
  rintro e w1 ⟨⟨rfl, hb⟩, hkp⟩
  have hbox : w1.heap[W.heap.size]? = some (.cells #[.bool false] 4 (0, 0)) := (hkp.same _ (by simp) (by have := box_lt hp; omega)).trans (heap_new _ _)
  go_wp2
  refine leaves_cons (f := 164) (args := #[boxV W.heap.size]) (by simp) (by simp [go_sem]) ?_
  refine (catch_panic W.heap.size w1 false hbox []).mono ?_
  rintro e u' w2 ⟨rfl, rfl, rfl⟩
  have hbp := box_lt hp
  have hs2 := box_cell (box_set hbox (.bool false))
  simp [Leaves, settle, results, Tryz.results124, go_sem, hs2]
  refine ⟨⟨rfl, ?_⟩, kept_box hkp _⟩
  rw [Below.heap_setCell w1 ⟨W.heap.size, 0, none⟩ _ bp (show bp ≠ W.heap.size by omega), hb, alloc_old W _ bp hbp]
 | some ps =>
  go_enter_defers Tryz.func124, Tryz.ntmps124
  go_wp2_with fail
  refine (HW.out _).mono ?_
  rintro e w1 ⟨⟨rfl, v, hrow, hb⟩, hkp⟩
  have hbox : w1.heap[W.heap.size]? = some (.cells #[.bool false] 4 (0, 0)) := (hkp.same _ (by simp) (by have := box_lt hp; omega)).trans (heap_new _ _)
  have hbc := box_cell hbox
  have hbf := box_frozen hbox
  go_wp2
  refine leaves_cons (f := 164) (args := #[boxV W.heap.size]) (by simp) (by simp [go_sem]) ?_
  refine (catch_idle W.heap.size _).mono ?_
  rintro e u' w2 ⟨rfl, rfl, rfl⟩
  have hbp := box_lt hp
  have hs2 := box_cell (box_set hbox (.bool true))
  simp [Leaves, settle, results, Tryz.results124, go_sem, hs2]
  refine ⟨⟨rfl, v, ?_, ?_⟩, kept_box hkp _⟩
  ·refine row_down (n₁ := (W.alloc (.cells #[.bool false] 4)).heap.size) (row_kept' hrow (Kept.set _ _ _ _) (by simp)) (by simp)
  ·rw [Below.heap_setCell w1 ⟨W.heap.size, 0, none⟩ _ bp (show bp ≠ W.heap.size by omega)]; exact hb
def SplitPost (R : Option (List ByteArray)) (W : World) (e : Ending) (w' : World) : Prop := (match R with
 | some ps => ∃ v, e = .returned (.tuple #[v, .bool true]) ∧ w'.ownsRow W.heap.size 9 1 v ps.length (baV ps)
 | none => e = .returned (.tuple #[.slice none 0 0, .bool false])) ∧ Below W.heap.size W w'
set_option maxRecDepth 100000 in
theorem split_long (W : World) (k : Int) (s : ByteArray) (hm : s.size ≤ maxLen) (h : decide (0 ≤ k ∧ k ≤ 65535) = false ∨ 2000 < s.size) :
  Calls Tryz.prog 127 #[.int .i64 k, .string s] W fun e w' => SplitPost none W e w' := by
 unfold maxLen at hm
 cases hd : decide (0 ≤ k ∧ k ≤ 65535) with
 | false =>
  go_enter Tryz.func127, Tryz.ntmps127
  go_wp2_with fail
  refine (isType_in k _).mono ?_
  rintro e w1 ⟨rfl, rfl⟩
  rw [hd]
  go_wp2
  refine bodyPost_ret (v := .tuple #[.slice none 0 0, .bool false]) (by simp [results, Tryz.results127, go_sem]) rfl ⟨rfl, ?_⟩
  exact (((Below.refl _ _).alloc (Nat.le_refl _) _).alloc (by simp) _).alloc (by simp; omega) _
 | true =>
  have hl : 2000 < s.size := by
   rcases h with h | h
   ·rw [hd] at h; cases h
   ·exact h
  clear h
  go_enter Tryz.func127, Tryz.ntmps127
  go_wp2_with fail
  refine (isType_in k _).mono ?_
  rintro e w1 ⟨rfl, rfl⟩
  rw [hd]
  go_wp2
  refine bodyPost_ret (v := .tuple #[.slice none 0 0, .bool false]) (by simp [results, Tryz.results127, go_sem]) rfl ⟨rfl, ?_⟩
  exact (((Below.refl _ _).alloc (Nat.le_refl _) _).alloc (by simp) _).alloc (by simp; omega) _
set_option maxRecDepth 100000 in
set_option maxHeartbeats 2000000 in
theorem split_in (W : World) (n : Nat) (hn : n ≤ 20) (k : Int) (hk : 0 ≤ k ∧ k ≤ 65535) (s : ByteArray) (hs : s.size ≤ 2000) (pf : Nat → ByteArray → Option Nat)
  (hparts : ∀ w, Calls Tryz.prog 161 #[.int .i64 k] w fun e w' => PartsPost n pf w e w') :
  Calls Tryz.prog 127 #[.int .i64 k, .string s] W fun e w' => SplitPost (fin pf n s) W e w' := by
 have hmf := mkf
 have hd : decide (0 ≤ k ∧ k ≤ 65535) = true := by simp [hk]
 obtain ⟨W3, hW3⟩ : ∃ W3, W3 = (((W.alloc (.cells #[.int .i64 k] 3)).alloc (.cells #[.string s] 9)).alloc (.cells #[.slice none 0 0] 32)) := ⟨_, rfl⟩
 have hk3 : W3.heap[W.heap.size]? = some (.cells #[.int .i64 k] 3 (0, 0)) := by
  rw [hW3, alloc_old _ _ _ (by simp; omega), alloc_old _ _ _ (by simp)]; exact heap_new _ _
 have hd3 : W3.heap[W.heap.size + 1]? = some (.cells #[.string s] 9 (0, 0)) := by
  rw [hW3, alloc_old _ _ _ (by simp)]
  have := heap_new (W.alloc (.cells #[.int .i64 k] 3)) (.cells #[.string s] 9)
  rwa [World.size_alloc] at this
 have hp3 : W3.heap[W.heap.size + 1 + 1]? = some (.cells #[.slice none 0 0] 32 (0, 0)) := by
  rw [hW3]
  have := heap_new ((W.alloc (.cells #[.int .i64 k] 3)).alloc (.cells #[.string s] 9)) (.cells #[.slice none 0 0] 32)
  rwa [World.size_alloc, World.size_alloc] at this
 have hsz3 : W3.heap.size = W.heap.size + 3 := by rw [hW3]; simp
 have hbl3 : Below W.heap.size W W3 := by
  rw [hW3]; exact (((Below.refl _ _).alloc (Nat.le_refl _) _).alloc (by simp) _).alloc (by simp; omega) _
 have HS := Hid.mk (soundSplit_in W3 W.heap.size (W.heap.size + 1) (W.heap.size + 1 + 1) n hn k s hs _ pf hk3 hd3 hp3 hparts)
 obtain ⟨R, hR⟩ : ∃ R, fin pf n s = R := ⟨_, rfl⟩
 rw [hR] at HS ⊢
 have HP3 := Hid.mk hp3
 clear hR hk3 hd3 hparts hp3
 have HW3 := Hid.mk hW3
 cases R with
 | none =>
  go_enter Tryz.func127, Tryz.ntmps127
  go_wp2_with fail
  refine (isType_in k _).mono ?_
  rintro e w1 ⟨rfl, rfl⟩
  rw [hd]
  go_wp2_with fail
  rw [← HW3.out]
  refine HS.out.mono ?_
  rintro e w2 ⟨⟨rfl, hb⟩, hkp⟩
  have hb2 := hb.trans HP3.out
  have hc2 := box_cell hb2
  have hf2 := box_frozen hb2
  clear hW3
  go_wp2
  have hc4 := box_cell (box_set hb2 (.slice none 0 0))
  refine bodyPost_ret (v := .tuple #[.slice none 0 0, .bool false]) (by simp [results, Tryz.results127, go_sem, hc4]) rfl ⟨rfl, ?_⟩
  exact (hbl3.trans (hkp.below (n := W.heap.size) (by omega) (by omega))).setCell (p := ⟨W.heap.size + 1 + 1, 0, none⟩) (show W.heap.size ≤ W.heap.size + 1 + 1 by omega) _
 | some ps =>
  go_enter Tryz.func127, Tryz.ntmps127
  go_wp2_with fail
  refine (isType_in k _).mono ?_
  rintro e w1 ⟨rfl, rfl⟩
  rw [hd]
  go_wp2_with fail
  rw [← HW3.out]
  refine HS.out.mono ?_
  rintro e w2 ⟨⟨rfl, v, hrow, hb2⟩, hkp⟩
  obtain ⟨q, c, hv⟩ := row_as hrow
  subst hv
  have hc2 := box_cell hb2
  have hf2 := box_frozen hb2
  clear hW3
  go_wp2
  have hc4 := box_cell (box_set hb2 (.slice q ps.length c))
  refine bodyPost_ret (v := .tuple #[.slice q ps.length c, .bool true]) (by simp [results, Tryz.results127, go_sem, hc4]) rfl ⟨⟨_, rfl, ?_⟩, ?_⟩
  ·exact row_down (row_kept' hrow (Kept.set (W.heap.size + 1 + 1) 0 _ _) (by omega)) (by omega)
  ·exact (hbl3.trans (hkp.below (n := W.heap.size) (by omega) (by omega))).setCell (p := ⟨W.heap.size + 1 + 1, 0, none⟩) (show W.heap.size ≤ W.heap.size + 1 + 1 by omega) _
theorem right_of {k : Int} {s : ByteArray} {R : Option (List ByteArray)} (h : ∀ W, Calls Tryz.prog 127 #[.int .i64 k, .string s] W fun e w' => SplitPost R W e w') (W : World) :
  Calls Tryz.prog 156 #[.int .i64 k, .string s] W fun e w' => e = .returned (.bool R.isSome) ∧ Below W.heap.size W w' := by
 have H := Hid.mk h
 clear h
 cases R with
 | none =>
  go_enter Tryz.func156, Tryz.ntmps156
  go_wp2_with fail
  refine (H.out _).mono ?_
  rintro e w1 ⟨rfl, hb⟩
  go_wp2
  go_ret
  exact ⟨rfl, hb⟩
 | some ps =>
  go_enter Tryz.func156, Tryz.ntmps156
  go_wp2_with fail
  refine (H.out _).mono ?_
  rintro e w1 ⟨⟨v, rfl, _⟩, hb⟩
  go_wp2
  go_ret
  exact ⟨rfl, hb⟩
end Go.Proofs.YtikjepodmdaknaaGreatDoor
/- Types that are none of the table: any bytes. -/
namespace Go.Proofs.YtikjepodmdaknaaGreatDoor
open Go.RowKit
theorem enters_by {f : Nat} {fn : Func} {c : Code} (hf : Tryz.prog.funcs[f]? = some fn) (hname : (fn.name == "runtime.NumGoroutine") = false) (hb : fn.body = some c) : Enters f := by
 intro args w
 have h1 : fn.name ≠ "runtime.NumGoroutine" := by simpa using hname
 simp [callFunc, hf, h1, hb]
theorem anyPass_in (W : World) (d : Nat) (s : ByteArray) (hs : s.size ≤ 2000) (h : Rd W d s) :
  Calls Tryz.prog 247 #[boxV d] W fun e w' => PassPost (some s.size) s d W w' e := by
 go_enter Tryz.func247, Tryz.ntmps247
 go_wp2_with fail
 refine (all_in W d s (by unfold maxLen; omega) h).mono ?_
 rintro e w1 ⟨rfl, rfl⟩
 go_wp2
 have e2 : s.extract s.size s.size = ⟨#[]⟩ := by apply ByteArray.ext; simp
 refine bodyPost_end (results_none rfl _ _ _) rfl ⟨Nat.le_refl _, rfl, ?_, Kept.set _ _ _ _⟩
 rw [e2]; exact h.set _
def otherPart : Part := ⟨247, #[], 248, #[], 250, #[], false⟩
end Go.Proofs.YtikjepodmdaknaaGreatDoor
/- The library's contracts, laid by program for this dump. -/
namespace Go.Proofs
open Go.Shelf
def Tryz.lays156_ren : Go.Shelf.Ren := ⟨fun | 156 => 126 | 165 => 165 | 166 => 166 | 169 => 167 | 240 => 201 | 241 => 202 | 276 => 257 | 277 => 258 | n => n, fun | 31 => 32 | 9 => 9 | 3 => 3 | 4 => 4 | 0 => 0 | 20 => 20 | 72 => 267 | 76 => 270 | 70 => 265 | 37 => 151 | 75 => 269 | 127 => 273 | 164 => 310 | 5 => 5 | 80 => 236 | n => n, fun | n => n⟩
theorem Tryz.lays156 : Go.Proofs.Lays.n156 Tryz.prog Tryz.lays156_ren := {
 mixed := by kernel_rfl
 f156 := Tryz.func126.trans (congrArg some (by kernel_rfl))
 f165 := Tryz.func165.trans (congrArg some (by kernel_rfl))
 f166 := Tryz.func166.trans (congrArg some (by kernel_rfl))
 f169 := Tryz.func167.trans (congrArg some (by kernel_rfl))
 f240 := Tryz.func201.trans (congrArg some (by kernel_rfl))
 f241 := Tryz.func202.trans (congrArg some (by kernel_rfl))
 f276 := Tryz.func257.trans (congrArg some (by kernel_rfl))
 f277 := Tryz.func258.trans (congrArg some (by kernel_rfl))
 t0 := Tryz.underlying0
 a0 := Tryz.isAgg0
 z0 := Tryz.sizeOf0
 v0 := Tryz.zeroValue0
 t3 := Tryz.underlying3
 a3 := Tryz.isAgg3
 z3 := Tryz.sizeOf3
 v3 := Tryz.zeroValue3
 t4 := Tryz.underlying4
 a4 := Tryz.isAgg4
 z4 := Tryz.sizeOf4
 v4 := Tryz.zeroValue4
 t9 := Tryz.underlying9
 a9 := Tryz.isAgg9
 z9 := Tryz.sizeOf9
 v9 := Tryz.zeroValue9
 t20 := Tryz.underlying20
 a20 := Tryz.isAgg20
 z20 := Tryz.sizeOf20
 v20 := Tryz.zeroValue20
 t31 := Tryz.underlying32
 a31 := Tryz.isAgg32
 z31 := Tryz.sizeOf32
 v31 := Tryz.zeroValue32
 t37 := Tryz.underlying151
 a37 := Tryz.isAgg151
 z37 := Tryz.sizeOf151
 v37 := Tryz.zeroValue151
 t70 := Tryz.underlying265
 a70 := Tryz.isAgg265
 z70 := Tryz.sizeOf265
 v70 := Tryz.zeroValue265
 t72 := Tryz.underlying267
 a72 := Tryz.isAgg267
 z72 := Tryz.sizeOf267
 v72 := Tryz.zeroValue267
 t75 := Tryz.underlying269
 a75 := Tryz.isAgg269
 z75 := Tryz.sizeOf269
 v75 := Tryz.zeroValue269
 t76 := Tryz.underlying270
 a76 := Tryz.isAgg270
 z76 := Tryz.sizeOf270
 v76 := Tryz.zeroValue270
 t127 := Tryz.underlying273
 a127 := Tryz.isAgg273
 z127 := Tryz.sizeOf273
 v127 := Tryz.zeroValue273
 t164 := Tryz.underlying310
 a164 := Tryz.isAgg310
 z164 := Tryz.sizeOf310
 v164 := Tryz.zeroValue310 }
theorem Tryz.Builder_Extra_156 : Builder.Extra Tryz.prog Tryz.lays156_ren := {
 sizeBuilder := by kernel_rfl
 liesBuilder := by kernel_rfl
 t5 := Tryz.underlying5
 a5 := Tryz.isAgg5
 z5 := Tryz.sizeOf5
 v5 := Tryz.zeroValue5
 infoByte := by kernel_rfl
 cellsByte := by kernel_rfl
 sizeByte := by kernel_rfl
 neB5 := by decide }
open Go.RowKit in
theorem Tryz.strings_Join_none (a : Option Addr) (c : Nat) (sep : ByteArray) (w : World) :
  Calls Tryz.prog 126 #[.slice a 0 c, .string sep] w fun e w' => e = .returned (.string ⟨#[]⟩) ∧ w' = w := Any.strings_Join_none Tryz.lays156 Tryz.Builder_Extra_156 a c sep w
open Go.RowKit in
theorem Tryz.strings_Join (bk o c : Nat) (xs : List ByteArray) (sep : ByteArray) (w : World) (hcells : ∀ (j : Nat) x, xs[j]? = some x → w.cell? ⟨bk, o + j, none⟩ = some (.string x)) (hbk : bk < w.heap.size) (hN : xs.length ≤ 140737488355328) (hcap : xs.length ≤ c) (hlen : (Lib.join (xs.map (·.data.toList)) sep.data.toList).length ≤ 140737488355328) :
  Calls Tryz.prog 126 #[.slice (some ⟨bk, o, none⟩) xs.length c, .string sep] w fun e w' => e = .returned (.string ⟨(Lib.join (xs.map (·.data.toList)) sep.data.toList).toArray⟩) ∧ Below w.heap.size w w' := Any.strings_Join Tryz.lays156 Tryz.Builder_Extra_156 bk o c xs sep w hcells hbk hN hcap hlen
def Tryz.lays190_ren : Go.Shelf.Ren := ⟨fun | 190 => 123 | 125 => 163 | 258 => 162 | 128 => 199 | 129 => 200 | 302 => 190 | 303 => 191 | 304 => 192 | 305 => 193 | 306 => 194 | 307 => 195 | 308 => 196 | 309 => 197 | 310 => 198 | 333 => 251 | 329 => 252 | 330 => 253 | 334 => 254 | 335 => 255 | 336 => 256 | 344 => 274 | n => n, fun | 31 => 32 | 9 => 9 | 3 => 3 | 46 => 162 | 0 => 0 | 51 => 293 | 53 => 295 | 4 => 4 | 183 => 286 | 182 => 285 | 131 => 290 | 5 => 5 | 218 => 304 | 222 => 308 | 228 => 327 | 229 => 328 | n => n, fun | n => n⟩
theorem Tryz.lays190 : Go.Proofs.Lays.n190 Tryz.prog Tryz.lays190_ren := {
 mixed := by kernel_rfl
 f125 := Tryz.func163.trans (congrArg some (by kernel_rfl))
 f128 := Tryz.func199.trans (congrArg some (by kernel_rfl))
 f129 := Tryz.func200.trans (congrArg some (by kernel_rfl))
 f190 := Tryz.func123.trans (congrArg some (by kernel_rfl))
 f258 := Tryz.func162.trans (congrArg some (by kernel_rfl))
 f302 := Tryz.func190.trans (congrArg some (by kernel_rfl))
 f303 := Tryz.func191.trans (congrArg some (by kernel_rfl))
 f304 := Tryz.func192.trans (congrArg some (by kernel_rfl))
 f305 := Tryz.func193.trans (congrArg some (by kernel_rfl))
 f306 := Tryz.func194.trans (congrArg some (by kernel_rfl))
 f307 := Tryz.func195.trans (congrArg some (by kernel_rfl))
 f308 := Tryz.func196.trans (congrArg some (by kernel_rfl))
 f309 := Tryz.func197.trans (congrArg some (by kernel_rfl))
 f310 := Tryz.func198.trans (congrArg some (by kernel_rfl))
 f329 := Tryz.func252.trans (congrArg some (by kernel_rfl))
 f330 := Tryz.func253.trans (congrArg some (by kernel_rfl))
 f333 := Tryz.func251.trans (congrArg some (by kernel_rfl))
 f334 := Tryz.func254.trans (congrArg some (by kernel_rfl))
 f335 := Tryz.func255.trans (congrArg some (by kernel_rfl))
 f336 := Tryz.func256.trans (congrArg some (by kernel_rfl))
 f344 := Tryz.func274.trans (congrArg some (by kernel_rfl))
 t0 := Tryz.underlying0
 a0 := Tryz.isAgg0
 z0 := Tryz.sizeOf0
 v0 := Tryz.zeroValue0
 t3 := Tryz.underlying3
 a3 := Tryz.isAgg3
 z3 := Tryz.sizeOf3
 v3 := Tryz.zeroValue3
 t4 := Tryz.underlying4
 a4 := Tryz.isAgg4
 z4 := Tryz.sizeOf4
 v4 := Tryz.zeroValue4
 t5 := Tryz.underlying5
 a5 := Tryz.isAgg5
 z5 := Tryz.sizeOf5
 v5 := Tryz.zeroValue5
 t9 := Tryz.underlying9
 a9 := Tryz.isAgg9
 z9 := Tryz.sizeOf9
 v9 := Tryz.zeroValue9
 t31 := Tryz.underlying32
 a31 := Tryz.isAgg32
 z31 := Tryz.sizeOf32
 v31 := Tryz.zeroValue32
 t46 := Tryz.underlying162
 a46 := Tryz.isAgg162
 z46 := Tryz.sizeOf162
 v46 := Tryz.zeroValue162
 t51 := Tryz.underlying293
 a51 := Tryz.isAgg293
 z51 := Tryz.sizeOf293
 v51 := Tryz.zeroValue293
 t53 := Tryz.underlying295
 a53 := Tryz.isAgg295
 z53 := Tryz.sizeOf295
 v53 := Tryz.zeroValue295
 t131 := Tryz.underlying290
 a131 := Tryz.isAgg290
 z131 := Tryz.sizeOf290
 v131 := Tryz.zeroValue290
 t182 := Tryz.underlying285
 a182 := Tryz.isAgg285
 z182 := Tryz.sizeOf285
 v182 := Tryz.zeroValue285
 t183 := Tryz.underlying286
 a183 := Tryz.isAgg286
 z183 := Tryz.sizeOf286
 v183 := Tryz.zeroValue286
 t218 := Tryz.underlying304
 a218 := Tryz.isAgg304
 z218 := Tryz.sizeOf304
 v218 := Tryz.zeroValue304
 t222 := Tryz.underlying308
 a222 := Tryz.isAgg308
 z222 := Tryz.sizeOf308
 v222 := Tryz.zeroValue308
 t228 := Tryz.underlying327
 a228 := Tryz.isAgg327
 z228 := Tryz.sizeOf327
 v228 := Tryz.zeroValue327
 t229 := Tryz.underlying328
 a229 := Tryz.isAgg328
 z229 := Tryz.sizeOf328
 v229 := Tryz.zeroValue328 }
open Go.Sort Go.RowKit in
theorem Tryz.slices_Sort_string (blk off cap : Nat) (ss : List (List UInt8)) (w : World) (hH : Holds encStr w blk off ss.toArray) (hblk : blk < w.heap.size) (hsz : ss.length < 4611686018427387904) :
  Calls Tryz.prog 123 #[.slice (some ⟨blk, off, none⟩) ss.length cap] w fun e w' =>
   e = .returned (.tuple #[]) ∧ ∃ n os, w' = grow (putRow encStr (Sort.ahead w n) blk off (ss.mergeSort fun x y => decide (x ≤ y)).toArray) os := Any.slices_Sort_string Tryz.lays190 blk off cap ss w hH hblk hsz
def Tryz.lays194_ren : Go.Shelf.Ren := ⟨fun | 194 => 157 | n => n, fun | 31 => 32 | 9 => 9 | 3 => 3 | 4 => 4 | 0 => 0 | n => n, fun | n => n⟩
theorem Tryz.lays194 : Go.Proofs.Lays.n194 Tryz.prog Tryz.lays194_ren := {
 mixed := by kernel_rfl
 f194 := Tryz.func157.trans (congrArg some (by kernel_rfl))
 t0 := Tryz.underlying0
 a0 := Tryz.isAgg0
 z0 := Tryz.sizeOf0
 v0 := Tryz.zeroValue0
 t3 := Tryz.underlying3
 a3 := Tryz.isAgg3
 z3 := Tryz.sizeOf3
 v3 := Tryz.zeroValue3
 t4 := Tryz.underlying4
 a4 := Tryz.isAgg4
 z4 := Tryz.sizeOf4
 v4 := Tryz.zeroValue4
 t9 := Tryz.underlying9
 a9 := Tryz.isAgg9
 z9 := Tryz.sizeOf9
 v9 := Tryz.zeroValue9
 t31 := Tryz.underlying32
 a31 := Tryz.isAgg32
 z31 := Tryz.sizeOf32
 v31 := Tryz.zeroValue32 }
open Go.RowKit Go.Lib Go.Sort in
theorem Tryz.slices_Compact_string (blk off cap : Nat) (zs : List (List UInt8)) (w : World) (hH : Holds encStr w blk off zs.toArray) (hsz : zs.length ≤ 9223372036854775807) (hcap : zs.length ≤ cap) :
  Calls Tryz.prog 157 #[.slice (some ⟨blk, off, none⟩) zs.length cap] w fun e w' => e = .returned (.slice (some ⟨blk, off, none⟩) (Lib.compact zs).length cap) ∧ ∃ q, w' = putRow encStr (Sort.ahead w q) blk off (Lib.compact zs ++ List.replicate (zs.length - (Lib.compact zs).length) []).toArray := Any.slices_Compact_string Tryz.lays194 blk off cap zs w hH hsz hcap
open Go.RowKit Go.Sort in
theorem Tryz.slices_Sort_string_none (p : Option Addr) (cap : Nat) (w : World) :
  Calls Tryz.prog 123 #[.slice p 0 cap] w fun e w' => e = .returned (.tuple #[]) ∧ w' = w := Any.slices_Sort_string_none Tryz.lays190 p cap w
end Go.Proofs
/- told: data as a text. -/
namespace Go.Proofs.YtikjepodmdaknaaGreatDoor
open Go.RowKit
theorem row_bel {W W' : World} {n₀ n : Nat} {e : TypeId} {v : Value} {xs : List Value} (h : W.ownsRow n₀ e 1 v n xs) (hb : Below W.heap.size W W') : W'.ownsRow n₀ e 1 v n xs := by
 refine ⟨h.1, ?_⟩
 rcases h.2 with h' | ⟨g, cap, cur, hv, hb', hg, hr⟩
 ·exact .inl h'
 ·exact .inr ⟨g, cap, cur, hv, hb', (hb.block g (box_lt hg)).trans hg, hr⟩
theorem rowBaseB {W : World} {n₀ n : Nat} {e : TypeId} {v : Value} {xs : List Value} (h : W.ownsRow n₀ e 1 v n xs) : ∀ k, v.ownBlock = some k → n₀ ≤ k := by
 intro k e
 rcases h.2 with ⟨rfl, _⟩ | ⟨g, cap, cur, rfl, hb, _⟩
 ·simp [Value.ownBlock] at e
 ·obtain rfl : g = k := by simpa [Value.ownBlock] using e
  exact hb
theorem row_cell {W : World} {n₀ n c : Nat} {e : TypeId} {q : Option Addr} {ps : List ByteArray} (h : W.ownsRow n₀ e 1 (.slice q n c) n (baV ps)) (j : Nat) (hj : j < ps.length) : ∃ g, q = some ⟨g, 0, none⟩ ∧ g < W.heap.size ∧ W.cell? ⟨g, j, none⟩ = some (.string ps[j]) := by
 have hn : ps.length = n := by have := h.1; simpa [baV] using this
 rcases h.2 with ⟨_, h0⟩ | ⟨g, cap, cur, hv, _, hg, _, _, _, ht⟩
 ·omega
 ·cases hv
  refine ⟨g, rfl, box_lt hg, ?_⟩
  have := Lib.cells_of_row (w := W) hg n j (.string ps[j]) (by rw [Nat.mul_one] at ht; rw [ht]; simp [baV, hj])
  rwa [add_at] at this
theorem join_row {W : World} {n₀ : Nat} {v : Value} {ws : List ByteArray} (sep : ByteArray) (h : W.ownsRow n₀ 9 1 v ws.length (baV ws)) (hl : ws.length ≤ 1000000) (hj : (Lib.join (ws.map (·.data.toList)) sep.data.toList).length ≤ 140737488355328) :
  Calls Tryz.prog 126 #[v, .string sep] W fun e w' => e = .returned (.string ⟨(Lib.join (ws.map (·.data.toList)) sep.data.toList).toArray⟩) ∧ Below W.heap.size W w' := by
 rcases h.2 with ⟨rfl, h0⟩ | ⟨g, cap, cur, rfl, _, hg, hc, _, _, ht⟩
 ·obtain rfl : ws = [] := List.length_eq_zero_iff.1 h0
  refine (Tryz.strings_Join_none none 0 sep W).mono ?_
  rintro e w' ⟨rfl, rfl⟩
  exact ⟨rfl, Below.refl _ _⟩
 ·refine Tryz.strings_Join g 0 cap ws sep W (fun j x hx => ?_) (box_lt hg) (by omega) hc hj
  obtain ⟨hjl, he⟩ := List.getElem?_eq_some_iff.1 hx
  have := Lib.cells_of_row (w := W) hg ws.length j (.string x) (by rw [Nat.mul_one] at ht; rw [ht]; simp [baV, hx])
  rw [add_at] at this
  rw [Nat.zero_add]; exact this
end Go.Proofs.YtikjepodmdaknaaGreatDoor
/- The draft of a name: newDraft, add, name. -/
namespace Go.Proofs.YtikjepodmdaknaaGreatDoor
open Go.RowKit
end Go.Proofs.YtikjepodmdaknaaGreatDoor
