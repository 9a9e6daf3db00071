/- understood, with sound around its work; Read. -/
import Derived.Test.YtkohkkakbcjgcabGreatDoorDUnder
namespace Go.Proofs.YtkohkkakbcjgcabGreatDoor
set_option linter.unusedVariables false
open Go.RowKit

def jn (ps : List ByteArray) : ByteArray := ⟨(Lib.join (ps.map (·.data.toList)) []).toArray⟩

/-- what sound makes of the work of understood. -/
def SoundU (R : Option (List ByteArray)) (b : Nat) (W : World) (e : Ending) (w' : World) : Prop := (match R with
  | some ps => e = .returned (.bool true) ∧ w'.heap[b]? = some (.cells #[.string (jn ps)] 9 (0, 0))
  | none => e = .returned (.bool false) ∧ w'.heap[b]? = W.heap[b]?) ∧ Kept b W w'

set_option maxRecDepth 100000 in
set_option maxHeartbeats 2000000 in
theorem soundUnder_in (W : World) (bt bk bd n : Nat) (hn : n ≤ 20) (k : Int) (s : ByteArray) (hs : s.size ≤ 1000000) (v0 : ByteArray) (dm : Nat → ByteArray → Prop) (hdm0 : dm 0 s) (rf : Nat → ByteArray → Option (ByteArray × ByteArray))
    (ht : W.heap[bt]? = some (.cells #[.string s] 9 (0, 0))) (hk : W.heap[bk]? = some (.cells #[.int .i64 k] 3 (0, 0))) (hd : W.heap[bd]? = some (.cells #[.string v0] 9 (0, 0)))
    (hG : Glob W) (hrf : ∀ k s q, rf k s = some q → s.size ≤ 1000000 → q.1.size ≤ 1000000 ∧ q.2.size ≤ 1000000)
    (hdmS : ∀ k s q, dm k s → rf k s = some q → dm (k + 1) q.2)
    (hparts : ∀ w, Glob w → Calls Tryz.prog 47 #[.int .i64 k] w fun e w' => ReadsPost n dm rf w e w') :
    Calls Tryz.prog 52 #[fnV 53 #[boxV bt, boxV bk, boxV bd]] W fun e w' => SoundU (readP rf n 0 s) bd W e w' := by
  have hmf := mkf
  have hal : ∀ o, Below W.heap.size W (W.alloc o) := fun o => (Below.refl _ _).alloc (Nat.le_refl _) o
  have HW := Hid.mk (fun (o : Obj) => under1_in (W.alloc o) bt bk bd n hn k s hs v0 dm hdm0 rf (((hal o).block bt (box_lt ht)).trans ht) (((hal o).block bk (box_lt hk)).trans hk) (((hal o).block bd (box_lt hd)).trans hd) (hG.below (hal o)) hrf hdmS hparts)
  clear hparts hrf
  obtain ⟨R, hR⟩ : ∃ R, readP rf n 0 s = R := ⟨_, rfl⟩
  rw [hR] at HW ⊢
  clear hR
  have hbd := box_lt hd
  cases R with
  | none =>
    go_enter_defers Tryz.func52, Tryz.ntmps52
    go_wp2_with fail
    refine (HW.out _).mono ?_
    rintro e w1 ⟨⟨rfl, hb⟩, hkp⟩
    have hbox : w1.heap[W.heap.size]? = some (.cells #[.bool false] 4 (0, 0)) := (hkp.same _ (by simp) (by omega)).trans (heap_new _ _)
    go_wp2
    refine leaves_cons (f := 81) (args := #[boxV W.heap.size]) (by simp) (by simp [go_sem]) ?_
    refine (catch_panic W.heap.size w1 false hbox []).mono ?_
    rintro e u' w2 ⟨rfl, rfl, rfl⟩
    have hs2 := box_cell (box_set hbox (.bool false))
    simp [Leaves, settle, results, Tryz.results52, go_sem, hs2]
    refine ⟨⟨rfl, ?_⟩, kept_box hkp _⟩
    rw [Below.heap_setCell w1 ⟨W.heap.size, 0, none⟩ _ bd (show bd ≠ W.heap.size by omega), hb, alloc_old W _ bd hbd]
  | some ps =>
    go_enter_defers Tryz.func52, Tryz.ntmps52
    go_wp2_with fail
    refine (HW.out _).mono ?_
    rintro e w1 ⟨⟨rfl, hb⟩, hkp⟩
    have hbox : w1.heap[W.heap.size]? = some (.cells #[.bool false] 4 (0, 0)) := (hkp.same _ (by simp) (by omega)).trans (heap_new _ _)
    have hbc := box_cell hbox
    have hbf := box_frozen hbox
    go_wp2
    refine leaves_cons (f := 81) (args := #[boxV W.heap.size]) (by simp) (by simp [go_sem]) ?_
    refine (catch_idle W.heap.size _).mono ?_
    rintro e u' w2 ⟨rfl, rfl, rfl⟩
    have hs2 := box_cell (box_set hbox (.bool true))
    simp [Leaves, settle, results, Tryz.results52, go_sem, hs2]
    refine ⟨⟨rfl, ?_⟩, kept_box hkp _⟩
    rw [Below.heap_setCell w1 ⟨W.heap.size, 0, none⟩ _ bd (show bd ≠ W.heap.size by omega)]; exact hb

/-- what understood hands back. -/
def UnPost (R : Option (List ByteArray)) (W : World) (e : Ending) (w' : World) : Prop := (match R with
  | some ps => e = .returned (.tuple #[.string (jn ps), .bool true])
  | none => e = .returned (.tuple #[.string ⟨#[]⟩, .bool false])) ∧ Below W.heap.size W w'

set_option maxRecDepth 100000 in
set_option maxHeartbeats 2000000 in
theorem understood_in (W : World) (n : Nat) (hn : n ≤ 20) (k : Int) (s : ByteArray) (hs : s.size ≤ 1000000) (dm : Nat → ByteArray → Prop) (hdm0 : dm 0 s) (rf : Nat → ByteArray → Option (ByteArray × ByteArray))
    (hG : Glob W) (hrf : ∀ k s q, rf k s = some q → s.size ≤ 1000000 → q.1.size ≤ 1000000 ∧ q.2.size ≤ 1000000)
    (hdmS : ∀ k s q, dm k s → rf k s = some q → dm (k + 1) q.2)
    (hparts : ∀ w, Glob w → Calls Tryz.prog 47 #[.int .i64 k] w fun e w' => ReadsPost n dm rf w e w') :
    Calls Tryz.prog 32 #[.int .i64 k, .string s] W fun e w' => UnPost (readP rf n 0 s) W e w' := by
  have hmf := mkf
  obtain ⟨W3, hW3⟩ : ∃ W3, W3 = (((W.alloc (.cells #[.int .i64 k] 3)).alloc (.cells #[.string s] 9)).alloc (.cells #[.string ⟨#[]⟩] 9)) := ⟨_, rfl⟩
  have hk3 : W3.heap[W.heap.size]? = some (.cells #[.int .i64 k] 3 (0, 0)) := by
    rw [hW3, alloc_old _ _ _ (by simp <;> omega), alloc_old _ _ _ (by simp)]; exact heap_new _ _
  have hd3 : W3.heap[W.heap.size + 1]? = some (.cells #[.string s] 9 (0, 0)) := by
    rw [hW3, alloc_old _ _ _ (by simp)]
    have := heap_new (W.alloc (.cells #[.int .i64 k] 3)) (.cells #[.string s] 9)
    rwa [World.size_alloc] at this
  have hp3 : W3.heap[W.heap.size + 1 + 1]? = some (.cells #[.string ⟨#[]⟩] 9 (0, 0)) := by
    rw [hW3]
    have := heap_new ((W.alloc (.cells #[.int .i64 k] 3)).alloc (.cells #[.string s] 9)) (.cells #[.string ⟨#[]⟩] 9)
    rwa [World.size_alloc, World.size_alloc] at this
  have hsz3 : W3.heap.size = W.heap.size + 3 := by rw [hW3]; simp
  have hbl3 : Below W.heap.size W W3 := by
    rw [hW3]; exact (((Below.refl _ _).alloc (Nat.le_refl _) _).alloc (by simp) _).alloc (by simp <;> omega) _
  have HS := Hid.mk (soundUnder_in W3 (W.heap.size + 1) W.heap.size (W.heap.size + 1 + 1) n hn k s hs _ dm hdm0 rf hd3 hk3 hp3 (hG.below hbl3) hrf hdmS hparts)
  obtain ⟨R, hR⟩ : ∃ R, readP rf n 0 s = R := ⟨_, rfl⟩
  rw [hR] at HS ⊢
  have HP3 := Hid.mk hp3
  clear hR hk3 hd3 hparts hp3 hrf
  have HW3 := Hid.mk hW3
  cases R with
  | none =>
    go_enter Tryz.func32, Tryz.ntmps32
    go_wp2_with fail
    rw [← HW3.out]
    refine HS.out.mono ?_
    rintro e w2 ⟨⟨rfl, hb⟩, hkp⟩
    have hb2 := hb.trans HP3.out
    have hc2 := box_cell hb2
    have hf2 := box_frozen hb2
    clear hW3
    go_wp2
    have hc4 := box_cell (box_set hb2 (.string ⟨#[]⟩))
    refine bodyPost_ret (v := .tuple #[.string ⟨#[]⟩, .bool false]) (by simp [results, Tryz.results32, go_sem, hc4]) rfl ⟨rfl, ?_⟩
    exact (hbl3.trans (hkp.below (n := W.heap.size) (by omega) (by omega))).setCell (p := ⟨W.heap.size + 1 + 1, 0, none⟩) (show W.heap.size ≤ W.heap.size + 1 + 1 by omega) _
  | some ps =>
    go_enter Tryz.func32, Tryz.ntmps32
    go_wp2_with fail
    rw [← HW3.out]
    refine HS.out.mono ?_
    rintro e w2 ⟨⟨rfl, hb2⟩, hkp⟩
    have hc2 := box_cell hb2
    have hf2 := box_frozen hb2
    clear hW3
    go_wp2
    have hc4 := box_cell (box_set hb2 (.string (jn ps)))
    refine bodyPost_ret (v := .tuple #[.string (jn ps), .bool true]) (by simp [results, Tryz.results32, go_sem, hc4]) rfl ⟨rfl, ?_⟩
    exact (hbl3.trans (hkp.below (n := W.heap.size) (by omega) (by omega))).setCell (p := ⟨W.heap.size + 1 + 1, 0, none⟩) (show W.heap.size ≤ W.heap.size + 1 + 1 by omega) _
end Go.Proofs.YtkohkkakbcjgcabGreatDoor
