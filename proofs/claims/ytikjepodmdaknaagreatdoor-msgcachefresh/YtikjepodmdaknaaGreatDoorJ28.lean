/- Texts of this proof, joined: McW, McOpen, McU, RcX, McXf, McFi. -/
import Derived.Test.YtikjepodmdaknaaGreatDoorJ27
import Derived.Test.YtikjepodmdaknaaGreatDoorJ20
import Derived.Test.YtikjepodmdaknaaGreatDoorJ13
import Derived.Test.YtikjepodmdaknaaGreatDoorJ25
import Derived.Test.YtikjepodmdaknaaGreatDoorJ24
set_option linter.unusedVariables false
set_option linter.unusedSimpArgs false
/- Layer 17: the small calls of a cache of answers. -/
namespace Go.Proofs.YtikjepodmdaknaaGreatDoor.Mc
open Go.RowKit
open Go.Proofs.YtikjepodmdaknaaGreatDoor.Rc (pt nilP Ky kV k0 Kp blk_lt cell_same KOk AL Ev timB six_cells RCA)
theorem fits_lt (n : Int) (b : Nat) (W : World) (hn : n < 0) : Calls Tryz.prog 104 #[.int .i64 n, .int .i64 (b : Int)] W fun e w' => e = .returned (.bool false) ∧ w' = W := by
  have h0 : ¬ 0 ≤ n := by omega
  go_enter Tryz.func104, Tryz.ntmps104
  go_wp2
  go_ret
  exact ⟨rfl, rfl⟩
theorem fits16_in (n : Int) (W : World) : Calls Tryz.prog 104 #[.int .i64 n, .int .i64 16] W fun e w' => e = .returned (.bool (decide (0 ≤ n ∧ n ≤ 65535))) ∧ w' = W := by
  by_cases h0 : 0 ≤ n
  · have e : decide (0 ≤ n ∧ n ≤ 65535) = (n / 2 ^ 16 == 0) := by
      by_cases h : n ≤ 65535
      · rw [decide_eq_true ⟨h0, h⟩]
        have : n / 2 ^ 16 = 0 := by omega
        rw [this]
        rfl
      · rw [decide_eq_false (fun h' => h h'.2)]
        have : ¬ n / 2 ^ 16 = 0 := by omega
        simpa using this
    rw [e]
    go_enter Tryz.func104, Tryz.ntmps104
    go_wp2
    go_ret
    exact ⟨rfl, rfl⟩
  · have e : decide (0 ≤ n ∧ n ≤ 65535) = false := decide_eq_false (fun h' => h0 h'.1)
    rw [e]
    exact fits_lt n 16 W (by omega)
theorem fits32_in (n : Int) (W : World) : Calls Tryz.prog 104 #[.int .i64 n, .int .i64 32] W fun e w' => e = .returned (.bool (timB n)) ∧ w' = W := by
  by_cases h0 : 0 ≤ n
  · have e : timB n = (n / 2 ^ 32 == 0) := by
      unfold Rc.timB
      rw [decide_eq_true h0, Bool.true_and]
      by_cases h : n ≤ 4294967295
      · rw [decide_eq_true h]
        have : n / 2 ^ 32 = 0 := by omega
        rw [this]
        rfl
      · rw [decide_eq_false h]
        have : ¬ n / 2 ^ 32 = 0 := by omega
        simpa using this
    rw [e]
    go_enter Tryz.func104, Tryz.ntmps104
    go_wp2
    go_ret
    exact ⟨rfl, rfl⟩
  · have e : timB n = false := by unfold Rc.timB; rw [decide_eq_false h0, Bool.false_and]
    rw [e]
    exact fits_lt n 32 W (by omega)
theorem isTime_in (n : Int) (W : World) : Calls Tryz.prog 64 #[.int .i64 n] W fun e w' => e = .returned (.bool (timB n)) ∧ w' = W := by
  have HF := Hid.mk (fits32_in n)
  go_enter Tryz.func64, Tryz.ntmps64
  go_wp2_with fail
  refine (HF.out _).mono ?_
  rintro e w1 ⟨rfl, rfl⟩
  go_wp2
  go_ret
  exact ⟨rfl, rfl⟩
set_option maxRecDepth 100000 in
theorem keyOf_in (n : ByteArray) (k : Int) (hn : n.size ≤ maxLen) (W : World) : Calls Tryz.prog 65 #[.string n, .int .i64 k] W fun e w' => e = .returned (kV (Rc.keyS n k)) ∧ Below W.heap.size W w' := by
  have HL := Hid.mk (nlower_in n hn)
  have X0 := Go.Proofs.YtikjepodmdaknaaGreatDoor.Bx.new W [.string ⟨#[]⟩, .int .i64 0] 121
  unfold Rc.keyS
  generalize lowF n = l at HL ⊢
  go_enter Tryz.func65, Tryz.ntmps65
  go_wp2_with fail
  refine (HL.out _).mono ?_
  rintro e w1 ⟨rfl, hb1⟩
  have X1 := X0.blk hb1
  have x0 := X1.cell 0 _ rfl
  have x1 := X1.cell 1 _ rfl
  have f0 : w1.frozen? ⟨W.heap.size, 0, none⟩ = false := by unfold World.frozen?; rw [X1.hb]; simp
  have f1 : w1.frozen? ⟨W.heap.size, 1, none⟩ = false := by unfold World.frozen?; rw [X1.hb]; simp
  have hb := X1.bel
  have HX := Hid.mk X1.hb
  have HB := Hid.mk hb
  clear hb1 X0 X1 hb
  go_wp2
  refine bodyPost_ret (results_cell_row Tryz.results65 _ _ W.heap.size 121 _ (0, 0) _ (by rfl) (hset (hset HX.out _ _) _ _) Tryz.underlying121 rfl (by kernel_rfl)) rfl ?_
  exact ⟨rfl, (HB.out.setCell (p := ⟨_, _, _⟩) (Nat.le_refl _) _).setCell (p := ⟨_, _, _⟩) (Nat.le_refl _) _⟩
theorem over_in (v : Vl) (now : Int) (W : World) : Calls Tryz.prog 67 #[vV v, .int .i64 now] W fun e w' => e = .returned (.bool (decide (v.un ≤ now))) ∧ Below W.heap.size W w' := by
  have hb : Below W.heap.size W (W.alloc (.cells #[.int .i64 v.rc, .int .i64 v.se, .slice none 0 0, .slice none 0 0, .int .i64 v.un, .slice v.q1 v.n1 v.c1, .slice v.q2 v.n2 v.c2] 124)) := (Below.refl _ _).alloc (Nat.le_refl _) _
  have HB := Hid.mk hb
  clear hb
  go_enter Tryz.func67, Tryz.ntmps67
  go_wp2
  go_ret
  exact ⟨rfl, HB.out⟩
abbrev qC (q : Qn) : List Value := [.string q.nm, .int .i64 q.ty, .int .i64 q.cl]
abbrev aC (x : An) (q1 : Option Addr) (c1 : Nat) (q2 : Option Addr) (c2 : Nat) : List Value := [.int .i64 x.rc, .int .i64 x.se, .slice q1 x.a.length c1, .slice q2 x.b.length c2, .int .i64 x.un]
theorem rightQ_in (q : Qn) (hq : q.nm.size ≤ maxLen) (W : World) : Calls Tryz.prog 62 #[.agg (qC q).toArray] W fun e w' => e = .returned (.bool (qOk q)) ∧ Below W.heap.size W w' := by
  obtain ⟨nm, ty, cl⟩ := q
  have X0 := Go.Proofs.YtikjepodmdaknaaGreatDoor.Bx.new W [.string nm, .int .i64 ty, .int .i64 cl] 64
  have HF := Hid.mk (fits16_in ty)
  have HN := Hid.mk (nright_in nm hq)
  unfold qOk
  simp only [qC]
  have x0 := X0.cell 0 _ rfl
  have x1 := X0.cell 1 _ rfl
  have x2 := X0.cell 2 _ rfl
  have HB := Hid.mk X0.bel
  clear X0 hq
  by_cases h1 : cl = 1
  · subst h1
    by_cases h2 : 0 ≤ ty ∧ ty ≤ 65535
    · rw [decide_eq_true h2] at HF ⊢
      clear h2
      go_enter Tryz.func62, Tryz.ntmps62
      go_wp2_with fail
      refine (HF.out _).mono ?_
      rintro e w1 ⟨rfl, rfl⟩
      go_wp2_with fail
      refine (HN.out _).mono ?_
      rintro e w1 ⟨rfl, hb1⟩
      go_wp2
      go_ret
      exact ⟨by simp, HB.out.trans (hb1.mono HB.out.size)⟩
    · rw [decide_eq_false h2] at HF ⊢
      clear h2
      go_enter Tryz.func62, Tryz.ntmps62
      go_wp2_with fail
      refine (HF.out _).mono ?_
      rintro e w1 ⟨rfl, rfl⟩
      go_wp2
      go_ret
      exact ⟨by simp, HB.out⟩
  · have e1 : (cl == 1) = false := by simpa using h1
    go_enter Tryz.func62, Tryz.ntmps62
    go_wp2
    go_ret
    exact ⟨by simp [h1], HB.out⟩
set_option maxRecDepth 100000 in
theorem rightA_in (x : An) (q1 : Option Addr) (c1 : Nat) (q2 : Option Addr) (c2 : Nat) (W : World) : Calls Tryz.prog 63 #[.agg (aC x q1 c1 q2 c2).toArray] W fun e w' => e = .returned (.bool (aOk x)) ∧ Below W.heap.size W w' := by
  obtain ⟨rc, se, la, lb, un⟩ := x
  have X0 := Go.Proofs.YtikjepodmdaknaaGreatDoor.Bx.new W [.int .i64 rc, .int .i64 se, .slice q1 la.length c1, .slice q2 lb.length c2, .int .i64 un] 71
  unfold aOk
  simp only [aC]
  generalize la.length = na at *
  generalize lb.length = nb at *
  have x0 := X0.cell 0 _ rfl
  have x1 := X0.cell 1 _ rfl
  have x2 := X0.cell 2 _ rfl
  have x3 := X0.cell 3 _ rfl
  have HB := Hid.mk X0.bel
  clear X0
  have ea : decide (na ≤ 20) = decide ((na : Int) ≤ 20) := decide_eq_decide.2 (by omega)
  have eb : decide (nb ≤ 20) = decide ((nb : Int) ≤ 20) := decide_eq_decide.2 (by omega)
  rw [ea, eb]
  clear ea eb
  by_cases h1 : rc = 0
  · subst h1
    by_cases h2 : 0 ≤ se
    · by_cases h3 : se ≤ 3
      · by_cases h4 : (na : Int) ≤ 20
        · go_enter Tryz.func63, Tryz.ntmps63
          go_wp2
          go_ret
          exact ⟨by (simp [*] <;> omega), HB.out⟩
        · go_enter Tryz.func63, Tryz.ntmps63
          go_wp2
          go_ret
          exact ⟨by (simp [*] <;> omega), HB.out⟩
      · go_enter Tryz.func63, Tryz.ntmps63
        go_wp2
        go_ret
        exact ⟨by (simp [*] <;> omega), HB.out⟩
    · go_enter Tryz.func63, Tryz.ntmps63
      go_wp2
      go_ret
      exact ⟨by (simp [*] <;> omega), HB.out⟩
  · have e0 : (rc == 0) = false := by simpa using h1
    by_cases h1' : rc = 3
    · subst h1'
      by_cases h2 : 0 ≤ se
      · by_cases h3 : se ≤ 3
        · by_cases h4 : (na : Int) ≤ 20
          · go_enter Tryz.func63, Tryz.ntmps63
            go_wp2
            go_ret
            exact ⟨by (simp [*] <;> omega), HB.out⟩
          · go_enter Tryz.func63, Tryz.ntmps63
            go_wp2
            go_ret
            exact ⟨by (simp [*] <;> omega), HB.out⟩
        · go_enter Tryz.func63, Tryz.ntmps63
          go_wp2
          go_ret
          exact ⟨by (simp [*] <;> omega), HB.out⟩
      · go_enter Tryz.func63, Tryz.ntmps63
        go_wp2
        go_ret
        exact ⟨by (simp [*] <;> omega), HB.out⟩
    · have e3 : (rc == 3) = false := by simpa using h1'
      go_enter Tryz.func63, Tryz.ntmps63
      go_wp2
      go_ret
      exact ⟨by (simp [*] <;> omega), HB.out⟩
theorem mnew_no (w : World) (m : Int) (h : m < 1 ∨ 100000 < m) (C : Nat) : Calls Tryz.prog 25 #[.int .i64 m, pt C] w fun e w' => e = .returned (.tuple #[nilP, .int .i64 1]) ∧ w' = w := by
  have HN := Hid.mk (new_no w m h)
  clear h
  go_enter Tryz.func25, Tryz.ntmps25
  go_wp2_with fail
  refine HN.out.mono ?_
  rintro e w1 ⟨rfl, rfl⟩
  go_wp2
  go_ret2
  exact ⟨rfl, rfl⟩
theorem cell_lt' {w : World} {T i : Nat} {v : Value} (h : w.cell? ⟨T, i, none⟩ = some v) : T < w.heap.size := by
  unfold World.cell? at h
  cases hb : w.heap[T]? with
  | none => rw [show (⟨T, i, none⟩ : Addr).block = T from rfl, hb] at h; simp at h
  | some o => exact blk_lt hb
theorem TabK.up {W W' w : World} {T n : Nat} {most : Int} {l : KV} (h : TabK W' w T most n l) (hb : Below W.heap.size W W') : TabK W w T most n l := by
  obtain ⟨E, M, L, ho, e⟩ := h
  exact ⟨E, M, L, ⟨ho.tab, fun b hb' => Nat.le_trans hb.size (ho.own b hb'), hb.trans (ho.bel.mono hb.size)⟩, e⟩
theorem mnew_in {W w : World} {C T m n : Nat} {ver : Int} {A : AL} (h : RCA W w C T m n ver A) (m2 : Nat) (h1 : 1 ≤ m2) (h2 : m2 ≤ 100000) : Calls Tryz.prog 25 #[.int .i64 (m2 : Int), pt C] w fun e w' => ∃ X U, e = .returned (.tuple #[pt X, .int .i64 0]) ∧ MS W w' C T m n ver A X U m2 0 [] := by
  have HN := Hid.mk (new_kv w (m2 : Int) (by omega) (by omega))
  have HM := Hid.mk (And.intro h1 h2)
  have HR := Hid.mk h
  clear h1 h2 h
  go_enter Tryz.func25, Tryz.ntmps25
  go_wp2_with fail
  refine HN.out.mono ?_
  rintro e w1 ⟨rfl, ht, hb⟩
  have HT := Hid.mk ht
  have HB := Hid.mk hb
  clear ht hb
  go_wp2
  go_ret2
  obtain ⟨V, hV⟩ : ∃ V, w1.alloc (.cells #[pt (w.heap.size + 3), pt C] 126) = V := ⟨_, rfl⟩
  have bV : Below w1.heap.size w1 V := by rw [← hV]; exact (Below.refl _ _).alloc (Nat.le_refl _) _
  have bw := HR.out.bel
  refine ⟨_, w.heap.size + 3, rfl, ?_⟩
  rw [hV]
  have hr1 := HR.out.blk HB.out
  have ht := (TabK.up HT.out bw).blk bV
  obtain ⟨l, Q, hrc, _⟩ := hr1.ex
  obtain ⟨E1, M1, L1, ho1, _⟩ := hrc.tab
  obtain ⟨E2, M2, L2, ho2, _⟩ := HT.out
  obtain ⟨l0, Q0, hrc0, _⟩ := HR.out.ex
  obtain ⟨E0, M0, L0, ho0, _⟩ := hrc0.tab
  have e0 : w1.cell? ⟨T, 3, none⟩ = some (.map (some M0)) := (HB.out.cell (p := ⟨T, 3, none⟩) (cell_lt' ho0.tab.c3)).trans ho0.tab.c3
  have e2 := ho2.tab.c3
  have hlt : M0 < w.heap.size := ho0.tab.mp.lt
  have hge : w.heap.size ≤ M2 := ho2.own M2 (.inr (.inl rfl))
  refine ⟨hr1.blk bV, ⟨[], ⟨?_, ?_, ht, fun p hp => (by cases hp), fun p hp => (by cases hp), by simp, HM.out⟩, rfl⟩, M0, M2, ?_, ?_, by omega⟩
  · rw [← hV]; exact heap_alloc_new _ _
  · exact Nat.le_trans bw.size HB.out.size
  · exact (bV.cell (p := ⟨T, 3, none⟩) (cell_lt' e0)).trans e0
  · exact (bV.cell (p := ⟨_, 3, none⟩) (cell_lt' e2)).trans e2
theorem mlen_in {W w : World} {C T m n : Nat} {ver : Int} {A : AL} {X U m2 n2 : Nat} {L : KL} (h : MS W w C T m n ver A X U m2 n2 L) : Calls Tryz.prog 32 #[pt X] w fun e w' => e = .returned (.int .i64 (L.length : Int)) ∧ w' = w := by
  have c0 : w.cell? ⟨X, 0, none⟩ = some (pt U) := by rw [So.cell_blk h.box]; rfl
  have HL := Hid.mk (ms_len h)
  clear h
  go_enter Tryz.func32, Tryz.ntmps32
  go_wp2_with fail
  refine HL.out.mono ?_
  rintro e w1 ⟨rfl, rfl⟩
  go_wp2
  go_ret
  exact ⟨rfl, rfl⟩
end Go.Proofs.YtikjepodmdaknaaGreatDoor.Mc
/- Layer 17: questions, sets and deeds as they come in. -/
namespace Go.Proofs.YtikjepodmdaknaaGreatDoor.Mc
open Go.RowKit
open Go.Proofs.YtikjepodmdaknaaGreatDoor.Rc (add_off cellB list_of c_str c_set ShC SvI slice_form open_txs trod_set)
theorem c_q : Tryz.prog.cellsOf 64 = 3 := by kernel_rfl
def SsAt (W : World) (q : Option Addr) (l : List Sv) : Prop := ∀ j (hj : j < l.length), ∃ b off qd cd qg cg, q = some ⟨b, off, none⟩ ∧ b < W.heap.size ∧ (∀ k, k < 6 → W.cell? ⟨b, off + j * 6 + k, none⟩ = (svC l[j] qd cd qg cg)[k]?) ∧ SvAt W l[j] qd cd qg cg
structure QnI (q : Qn) : Prop where
  nm : q.nm.size ≤ maxLen
  ty : I64 q.ty
  cl : I64 q.cl
section
variable {H : Type} {enc : TypeId × Value → H} {W : World}
set_option maxRecDepth 100000 in
theorem trod_q {fuel : Nat} {cs : List Value} {x : DataW H × List MemPlace} (h : DataW.trod enc Tryz.prog W 0 (fun _ => true) true fuel 64 cs = some x) : ∃ q : Qn, QnI q ∧ cs = qC q := by
  obtain ⟨xs, k2, _, hx2, hlc, hlen, hf⟩ := DataW.trod_struct Tryz.underlying64 h
  rw [c_q] at hlc
  match cs, hlc with
  | [v0, v1, v2], _ =>
    match xs, hlen with
    | [z0, z1, z2], _ =>
      have t0 : DataW.trod enc Tryz.prog W 0 (fun _ => true) true k2 9 [v0] = some z0 := hf 0 _ rfl
      have t1 : DataW.trod enc Tryz.prog W 0 (fun _ => true) true k2 3 [v1] = some z1 := hf 1 _ rfl
      have t2 : DataW.trod enc Tryz.prog W 0 (fun _ => true) true k2 3 [v2] = some z2 := hf 2 _ rfl
      obtain ⟨s0, q0, _, w0⟩ := DataW.trod_string (t := 9) Tryz.underlying9 t0
      obtain ⟨s1, q1, _, w1⟩ := DataW.trod_int (t := 3) (k := .i64) Tryz.underlying3 t1
      obtain ⟨s2, q2, _, w2⟩ := DataW.trod_int (t := 3) (k := .i64) Tryz.underlying3 t2
      simp at q0 q1 q2
      exact ⟨⟨s0, s1, s2⟩, ⟨w0, Go.bounds_i64 w1, Go.bounds_i64 w2⟩, by rw [q0, q1, q2]⟩
open Go.ChangeShapes Go.WideShapes in
set_option maxRecDepth 100000 in
theorem open_q {r : Reach} {b0 : Nat} {v : Value} {d : DataW H} {p : List MemPlace} (hv : Value.okWide Tryz.prog W r b0 64 v) (h : DataW.Trod enc Tryz.prog W 0 (fun _ => true) true 64 v d p) : ∃ q : Qn, QnI q ∧ v = .agg (qC q).toArray := by
  obtain ⟨cs, rfl, hsz⟩ := okWide_struct Tryz.underlying64 hv
  obtain ⟨fuel, hf⟩ := h
  obtain ⟨q, h1, e⟩ := trod_q hf
  refine ⟨q, h1, ?_⟩
  obtain ⟨l⟩ := cs
  simp [Value.cells] at e
  rw [e]
open Go.ChangeShapes Go.WideShapes in
set_option maxRecDepth 100000 in
theorem open_sets {a0 : Option Addr} {len cap fuel : Nat} {x : DataW H × List MemPlace} (hf : DataW.trod enc Tryz.prog W 0 (fun _ => true) true fuel 65 [.slice a0 len cap] = some x) :
    ∃ l : List Sv, l.length = len ∧ SsAt W a0 l ∧ (∀ s ∈ l, SvI s) ∧ ShC len cap a0 := by
  rcases Go.Deep.open_slice Tryz.underlying65 hf with ⟨hcs, hx⟩ | ⟨a, len', cap', m, n, D, Pl, hcs, _, hl, hm, hmm, hx, hall⟩
  · simp at hcs
    obtain ⟨rfl, rfl, rfl⟩ := hcs
    exact ⟨[], rfl, fun j hj => by simp at hj, fun r hr => by simp at hr, by omega, by unfold maxLen; omega, fun _ => rfl⟩
  · simp at hcs
    obtain ⟨rfl, rfl, rfl⟩ := hcs
    simp only [if_true] at hmm
    subst hmm
    rw [c_set] at hall
    obtain ⟨b, off, spot⟩ := a
    have key : ∀ i, i < len → ∃ r : Sv, (spot = none ∧ b < W.heap.size ∧ ∃ qd cd qg cg, (∀ k, k < 6 → W.cell? ⟨b, off + i * 6 + k, none⟩ = (svC r qd cd qg cg)[k]?) ∧ SvAt W r qd cd qg cg) ∧ SvI r := fun i hi => by
      obtain ⟨cs', h1, h2⟩ := hall i (by omega)
      obtain ⟨_, hlen, hcell⟩ := World.cells?_some h1
      have hspot : spot = none := by
        obtain ⟨cs0, h10, _⟩ := hall 0 (by omega)
        obtain ⟨_, hl0, hc0⟩ := World.cells?_some h10
        have h00 := hc0 0 (by omega)
        rw [List.getElem?_eq_getElem (by omega)] at h00
        simpa [Addr.add] using World.cell?_spot h00
      subst hspot
      obtain ⟨r, hr, qd, cd, qg, cg, rfl, hat, _, _⟩ := trod_set h2
      have hk : ∀ k, k < 6 → W.cell? ⟨b, off + i * 6 + k, none⟩ = (svC r qd cd qg cg)[k]? := fun k hk => by
        have := hcell k hk
        rw [Go.Deep.add_add, add_off, ← Nat.add_assoc] at this
        exact this
      exact ⟨r, ⟨rfl, cellB ((hk 0 (by omega)).trans (show (svC r qd cd qg cg)[0]? = some _ from rfl)), qd, cd, qg, cg, hk, hat⟩, hr⟩
    obtain ⟨ls, hlen, hr⟩ := list_of len key
    refine ⟨ls, hlen, fun j hj => ?_, fun d hd => ?_, hl, hm, fun h => by cases h⟩
    · obtain ⟨⟨hs, hb, qd, cd, qg, cg, h, hat⟩, _⟩ := hr j hj
      subst hs
      exact ⟨b, off, qd, cd, qg, cg, rfl, hb, h, hat⟩
    · obtain ⟨j, hj, rfl⟩ := List.getElem_of_mem hd
      exact (hr j hj).2
theorem c_deed : Tryz.prog.cellsOf 67 = 16 := by kernel_rfl
structure Dd where
  kd : Int
  nw : Int
  s : Sv
  q : Qn
  x : An
structure DdI (d : Dd) : Prop where
  kd : I64 d.kd
  nw : I64 d.nw
  s : SvI d.s
  q : QnI d.q
  rc : I64 d.x.rc
  se : I64 d.x.se
  un : I64 d.x.un
  a : ∀ s ∈ d.x.a, SvI s
  b : ∀ s ∈ d.x.b, SvI s
structure Pl where
  qd : Option Addr
  cd : Nat
  qg : Option Addr
  cg : Nat
  q1 : Option Addr
  c1 : Nat
  q2 : Option Addr
  c2 : Nat
abbrev ddC (d : Dd) (p : Pl) : List Value := .int .i64 d.kd :: .int .i64 d.nw :: (svC d.s p.qd p.cd p.qg p.cg ++ (qC d.q ++ [.int .i64 d.x.rc, .int .i64 d.x.se, .slice p.q1 d.x.a.length p.c1, .slice p.q2 d.x.b.length p.c2, .int .i64 d.x.un]))
structure DdAt (W : World) (d : Dd) (p : Pl) : Prop where
  s : SvAt W d.s p.qd p.cd p.qg p.cg
  a : SsAt W p.q1 d.x.a
  ca : ShC d.x.a.length p.c1 p.q1
  b : SsAt W p.q2 d.x.b
  cb : ShC d.x.b.length p.c2 p.q2
def DdsAt (W : World) (q : Option Addr) (l : List Dd) : Prop := ∀ j (hj : j < l.length), ∃ b off p, q = some ⟨b, off, none⟩ ∧ b < W.heap.size ∧ (∀ k, k < 16 → W.cell? ⟨b, off + j * 16 + k, none⟩ = (ddC l[j] p)[k]?) ∧ DdAt W l[j] p
set_option maxRecDepth 100000 in
theorem trod_deed {fuel : Nat} {cs : List Value} {x : DataW H × List MemPlace} (h : DataW.trod enc Tryz.prog W 0 (fun _ => true) true fuel 67 cs = some x) : ∃ d : Dd, DdI d ∧ ∃ p, cs = ddC d p ∧ DdAt W d p := by
  obtain ⟨xs, k2, _, hx2, hlc, hlen, hf⟩ := DataW.trod_struct Tryz.underlying67 h
  rw [c_deed] at hlc
  match cs, hlc with
  | [v0, v1, v2, v3, v4, v5, v6, v7, v8, v9, v10, v11, v12, v13, v14, v15], _ =>
    match xs, hlen with
    | [z0, z1, z2, z3, z4, z5, z6, z7, z8], _ =>
      have t0 : DataW.trod enc Tryz.prog W 0 (fun _ => true) true k2 3 [v0] = some z0 := hf 0 _ rfl
      have t1 : DataW.trod enc Tryz.prog W 0 (fun _ => true) true k2 3 [v1] = some z1 := hf 1 _ rfl
      have t2 : DataW.trod enc Tryz.prog W 0 (fun _ => true) true k2 34 [v2, v3, v4, v5, v6, v7] = some z2 := hf 2 _ rfl
      have t3 : DataW.trod enc Tryz.prog W 0 (fun _ => true) true k2 64 [v8, v9, v10] = some z3 := hf 3 _ rfl
      have t4 : DataW.trod enc Tryz.prog W 0 (fun _ => true) true k2 3 [v11] = some z4 := hf 4 _ rfl
      have t5 : DataW.trod enc Tryz.prog W 0 (fun _ => true) true k2 3 [v12] = some z5 := hf 5 _ rfl
      have t6 : DataW.trod enc Tryz.prog W 0 (fun _ => true) true k2 65 [v13] = some z6 := hf 6 _ rfl
      have t7 : DataW.trod enc Tryz.prog W 0 (fun _ => true) true k2 65 [v14] = some z7 := hf 7 _ rfl
      have t8 : DataW.trod enc Tryz.prog W 0 (fun _ => true) true k2 3 [v15] = some z8 := hf 8 _ rfl
      obtain ⟨s0, q0, _, w0⟩ := DataW.trod_int (t := 3) (k := .i64) Tryz.underlying3 t0
      obtain ⟨s1, q1, _, w1⟩ := DataW.trod_int (t := 3) (k := .i64) Tryz.underlying3 t1
      obtain ⟨s, hs, qd, cd, qg, cg, q2, hat, _, _⟩ := trod_set t2
      obtain ⟨qn, hq, q3⟩ := trod_q t3
      obtain ⟨s4, q4, _, w4⟩ := DataW.trod_int (t := 3) (k := .i64) Tryz.underlying3 t4
      obtain ⟨s5, q5, _, w5⟩ := DataW.trod_int (t := 3) (k := .i64) Tryz.underlying3 t5
      obtain ⟨a6, l6, c6, rfl⟩ := slice_form Tryz.underlying65 t6
      obtain ⟨a7, l7, c7, rfl⟩ := slice_form Tryz.underlying65 t7
      obtain ⟨la, hl6, hat6, hin6, h6⟩ := open_sets t6
      obtain ⟨lb, hl7, hat7, hin7, h7⟩ := open_sets t7
      obtain ⟨s8, q8, _, w8⟩ := DataW.trod_int (t := 3) (k := .i64) Tryz.underlying3 t8
      simp at q0 q1 q4 q5 q8
      subst hl6 hl7
      refine ⟨⟨s0, s1, s, qn, ⟨s4, s5, la, lb, s8⟩⟩, ⟨Go.bounds_i64 w0, Go.bounds_i64 w1, hs, hq, Go.bounds_i64 w4, Go.bounds_i64 w5, Go.bounds_i64 w8, hin6, hin7⟩, ⟨qd, cd, qg, cg, a6, c6, a7, c7⟩, ?_, hat, hat6, h6, hat7, h7⟩
      rw [show [v0, v1, v2, v3, v4, v5, v6, v7, v8, v9, v10, v11, v12, Value.slice a6 la.length c6, Value.slice a7 lb.length c7, v15] = v0 :: v1 :: ([v2, v3, v4, v5, v6, v7] ++ ([v8, v9, v10] ++ [v11, v12, Value.slice a6 la.length c6, Value.slice a7 lb.length c7, v15])) from rfl, q2, q3, q0, q1, q4, q5, q8]
open Go.ChangeShapes Go.WideShapes in
set_option maxRecDepth 100000 in
theorem open_dds {a0 : Option Addr} {len cap fuel : Nat} {x : DataW H × List MemPlace} (hf : DataW.trod enc Tryz.prog W 0 (fun _ => true) true fuel 55 [.slice a0 len cap] = some x) :
    ∃ l : List Dd, l.length = len ∧ DdsAt W a0 l ∧ (∀ d ∈ l, DdI d) ∧ ShC len cap a0 := by
  rcases Go.Deep.open_slice Tryz.underlying55 hf with ⟨hcs, hx⟩ | ⟨a, len', cap', m, n, D, Pl, hcs, _, hl, hm, hmm, hx, hall⟩
  · simp at hcs
    obtain ⟨rfl, rfl, rfl⟩ := hcs
    exact ⟨[], rfl, fun j hj => by simp at hj, fun r hr => by simp at hr, by omega, by unfold maxLen; omega, fun _ => rfl⟩
  · simp at hcs
    obtain ⟨rfl, rfl, rfl⟩ := hcs
    simp only [if_true] at hmm
    subst hmm
    rw [c_deed] at hall
    obtain ⟨b, off, spot⟩ := a
    have key : ∀ i, i < len → ∃ r : Dd, (spot = none ∧ b < W.heap.size ∧ ∃ p, (∀ k, k < 16 → W.cell? ⟨b, off + i * 16 + k, none⟩ = (ddC r p)[k]?) ∧ DdAt W r p) ∧ DdI r := fun i hi => by
      obtain ⟨cs', h1, h2⟩ := hall i (by omega)
      obtain ⟨_, hlen, hcell⟩ := World.cells?_some h1
      have hspot : spot = none := by
        obtain ⟨cs0, h10, _⟩ := hall 0 (by omega)
        obtain ⟨_, hl0, hc0⟩ := World.cells?_some h10
        have h00 := hc0 0 (by omega)
        rw [List.getElem?_eq_getElem (by omega)] at h00
        simpa [Addr.add] using World.cell?_spot h00
      subst hspot
      obtain ⟨r, hr, p, rfl, hat⟩ := trod_deed h2
      have hk : ∀ k, k < 16 → W.cell? ⟨b, off + i * 16 + k, none⟩ = (ddC r p)[k]? := fun k hk => by
        have := hcell k hk
        rw [Go.Deep.add_add, add_off, ← Nat.add_assoc] at this
        exact this
      exact ⟨r, ⟨rfl, cellB ((hk 0 (by omega)).trans (show (ddC r p)[0]? = some _ from rfl)), p, hk, hat⟩, hr⟩
    obtain ⟨ls, hlen, hr⟩ := list_of len key
    refine ⟨ls, hlen, fun j hj => ?_, fun d hd => ?_, hl, hm, fun h => by cases h⟩
    · obtain ⟨⟨hs, hb, p, h, hat⟩, _⟩ := hr j hj
      subst hs
      exact ⟨b, off, p, rfl, hb, h, hat⟩
    · obtain ⟨j, hj, rfl⟩ := List.getElem_of_mem hd
      exact (hr j hj).2
end
end Go.Proofs.YtikjepodmdaknaaGreatDoor.Mc
/- Layer 17: what is so of one SOA of the root, and an answer that has it. Facts alone. -/
namespace Go.Proofs.YtikjepodmdaknaaGreatDoor.Mc
open Go.RowKit
open Go.Proofs.YtikjepodmdaknaaGreatDoor.Rc (Ky AL Ev foundA getA toldE timB over getR without putR tim_iff putOk putOk_iff refused putX getR_cons ttl verN verC keeps keeps_some sameS_refl sameS_tl ver_new ver_old)
noncomputable def zE (m : Nat) (t u : Int) : Ev := ⟨soaS m t, 3, 0, 1, u⟩
noncomputable def zA (m : Nat) (t u : Int) : AL := [(kz, zE m t u)]
section
variable {m : Nat} {t u now : Int}
theorem one_without {α : Type} (k : Ky) (v : α) : without [(k, v)] k = [] := by unfold Rc.without; simp
theorem tim_ok (h0 : 0 ≤ now) (h1 : now ≤ 4294967295) : timB now = true := tim_iff.2 ⟨h0, h1⟩
theorem z_put1 (ht : 1 ≤ t ∧ t ≤ 999) (hn : 0 ≤ now ∧ now ≤ 100000) : putOk (soaS m t) 3 0 now = true ∧ refused [] (soaS m t) 3 now = false ∧ putR 10 [] (Rc.keyS (soaS m t).nm (soaS m t).ty) (putX 0 [] (soaS m t) 3 0 now) = zA m t (now + t) := by
  have htt : Rc.ttl (soaS m t) = t := by show min t 604800 = t; omega
  refine ⟨putOk_iff.2 ⟨rfl, soaS_ok m (by omega) (by omega), by decide, by decide, by omega⟩, ?_, ?_⟩
  · unfold Rc.refused
    rw [htt, decide_eq_false (by omega)]
    rfl
  · rw [show Rc.keyS (soaS m t).nm (soaS m t).ty = kz from key_z]
    unfold Rc.putX
    rw [htt]
    rfl
theorem z_put2 (ht : 1 ≤ t ∧ t ≤ 999) (hn : 0 ≤ now ∧ now ≤ 100000) (hu : now < u) : putOk (soaS m t) 3 0 now = true ∧ refused (zA m t u) (soaS m t) 3 now = false ∧ putR 10 (zA m t u) (Rc.keyS (soaS m t).nm (soaS m t).ty) (putX 1 (zA m t u) (soaS m t) 3 0 now) = zA m t (now + t) ∧ verC 1 (getR (zA m t u) (Rc.keyS (soaS m t).nm (soaS m t).ty)) (soaS m t) = 1 := by
  have htt : Rc.ttl (soaS m t) = t := by show min t 604800 = t; omega
  have hok := soaS_ok m (t := t) (by omega) (by omega)
  have hk : Rc.keyS (soaS m t).nm (soaS m t).ty = kz := key_z
  have hg : getR (zA m t u) kz = some (zE m t u) := by unfold zA; rw [getR_cons, if_pos rfl]
  have hkp : keeps (some (zE m t u)) (soaS m t) = true := by
    rw [keeps_some, Bool.and_eq_true]
    exact ⟨by show decide ((soaS m t).sg = (soaS m t).sg) = true; simp, sameS_refl hok⟩
  obtain ⟨e1, e2⟩ := ver_old (ver := 1) hkp
  refine ⟨putOk_iff.2 ⟨rfl, hok, by decide, by decide, by omega⟩, ?_, ?_, ?_⟩
  · unfold Rc.refused
    rw [htt, decide_eq_false (by omega), hk, hg]
    show (!over (zE m t u) now && decide ((3 : Int) < 3)) = false
    simp
  · rw [hk]
    unfold Rc.putX
    rw [htt, hk, hg, e1]
    unfold Rc.putR zA
    rw [one_without]
    rfl
  · rw [hk, hg, e2]
theorem z_found (h0 : 0 ≤ now ∧ now ≤ 100000) (hu : now < u) : foundA (zA m t u) kz now = some (zE m t u) ∧ getA (zA m t u) kz now = zA m t u := by
  have ht := tim_ok h0.1 (show now ≤ 4294967295 by omega)
  have hg : getR (zA m t u) kz = some (zE m t u) := by unfold zA; rw [getR_cons, if_pos rfl]
  have ho : over (zE m t u) now = false := by
    unfold Rc.over
    exact decide_eq_false (by show ¬ u ≤ now; omega)
  constructor
  · unfold Rc.foundA
    rw [if_pos ht, hg]
    show (if over (zE m t u) now then none else some (zE m t u)) = _
    rw [ho]
    rfl
  · unfold Rc.getA
    rw [if_pos ht, hg]
    show (if over (zE m t u) now then without (zA m t u) kz else (kz, zE m t u) :: without (zA m t u) kz) = _
    rw [ho]
    unfold zA
    rw [one_without]
    rfl
theorem z_learn (ht : 1 ≤ t ∧ t ≤ 999) (hm : m < 4294967296) (hn : 0 ≤ now ∧ now ≤ 100000) (kind rc un : Int) : lrnA (zA m t (now + t)) kind ⟨rc, 0, [], [soaS m t], un⟩ now = (zA m t (now + t), some ⟨rc, 0, endN now (min t (m : Int)) un, [], [⟨kz, 1⟩]⟩) := by
  obtain ⟨h1, h2⟩ := z_found (m := m) (t := t) hn (show now < now + t by omega)
  unfold lrnA
  have e1 : fndA now (zA m t (now + t)) (keysOf []) [] 604800 = (zA m t (now + t), some ([], 604800)) := rfl
  simp only [e1]
  have e2 : fndA now (zA m t (now + t)) (keysOf [soaS m t]) [] 604800 = (zA m t (now + t), some ([⟨kz, 1⟩], t)) := by
    show fndA now (zA m t (now + t)) [Rc.keyS rz 6] [] 604800 = _
    rw [key_z]
    unfold fndA
    rw [h1, h2]
    show fndA now (zA m t (now + t)) [] [⟨kz, 1⟩] (min 604800 (min (now + t - now) 604800)) = _
    unfold fndA
    rw [show min 604800 (min (now + t - now) 604800) = t by omega]
  simp only [e2]
  have e3 : minM [soaS m t] = (m : Int) := by
    unfold minM
    show (minD (soaD m)).getD 5 = _
    rw [soaD_min m hm]
    rfl
  show (zA m t (now + t), some (⟨rc, 0, endN now (if denB [] kind then min t (minM [soaS m t]) else t) un, [], [⟨kz, 1⟩]⟩ : Kn)) = _
  rw [show denB [] kind = true from rfl, if_pos rfl, e3]
theorem z_got_no (kq : Qn) (rc e : Int) (hn : 0 ≤ now ∧ now ≤ 100000) (he : e ≤ now) : gotA (zA m t u) [(Rc.keyS kq.nm kq.ty, ⟨rc, 0, e, [], [⟨kz, 1⟩]⟩)] kq now = (zA m t u, [], none) := by
  unfold gotA
  rw [if_pos (tim_ok hn.1 (show now ≤ 4294967295 by omega)), getR_cons, if_pos rfl]
  have : telA (zA m t u) ⟨rc, 0, e, [], [⟨kz, 1⟩]⟩ now = (zA m t u, none) := by
    unfold telA
    rw [if_pos he]
  simp only [this, one_without]
theorem z_got (kq : Qn) (rc e : Int) (hn : 0 ≤ now ∧ now ≤ 100000) (he : now < e) (hu : now < u) : gotA (zA m t u) [(Rc.keyS kq.nm kq.ty, ⟨rc, 0, e, [], [⟨kz, 1⟩]⟩)] kq now = (zA m t u, [(Rc.keyS kq.nm kq.ty, ⟨rc, 0, e, [], [⟨kz, 1⟩]⟩)], some ⟨rc, 0, [], [tellS (zE m t u) now e], e⟩) := by
  obtain ⟨h1, h2⟩ := z_found (m := m) (t := t) hn hu
  unfold gotA
  rw [if_pos (tim_ok hn.1 (show now ≤ 4294967295 by omega)), getR_cons, if_pos rfl]
  have : telA (zA m t u) ⟨rc, 0, e, [], [⟨kz, 1⟩]⟩ now = (zA m t u, some ⟨rc, 0, [], [tellS (zE m t u) now e], e⟩) := by
    unfold telA
    rw [if_neg (by show ¬ e ≤ now; omega)]
    have e1 : folA now e (zA m t u) [] [] = (zA m t u, some []) := rfl
    have e2 : folA now e (zA m t u) [⟨kz, 1⟩] [] = (zA m t u, some [tellS (zE m t u) now e]) := by
      unfold folA
      show (match foundA (zA m t u) (Rc.keyS rz 6) now with
        | none => (getA (zA m t u) (Rc.keyS rz 6) now, none)
        | some x => if x.ve = 1 then folA now e (getA (zA m t u) (Rc.keyS rz 6) now) [] ([] ++ [tellS x now e]) else (getA (zA m t u) (Rc.keyS rz 6) now, none)) = _
      rw [key_z, h1, h2]
      rfl
    simp only [e1, e2]
  simp only [this, one_without]
end
end Go.Proofs.YtikjepodmdaknaaGreatDoor.Mc
/- Layer 16: the chapter's examples. -/
namespace Go.Proofs.YtikjepodmdaknaaGreatDoor.Rc
open Go.RowKit
abbrev nmm (l : N3) : ByteArray := Go.Proofs.YtikjepodmdaknaaGreatDoor.nm l
def xN : N3 := [[97]]
def xM : N3 := [[65]]
theorem ok_n : OkN xN := ⟨by decide, by decide⟩
theorem ok_m : OkN xM := ⟨by decide, by decide⟩
theorem low_m : lowF (nmm xM) = nmm xN := by
  rw [lowF_nm ok_m]
  rfl
theorem low_n : lowF (nmm xN) = nmm xN := by
  rw [lowF_nm ok_n]
  rfl
def xd (b : UInt8) : ByteArray := ⟨#[10, 0, 0, b]⟩
theorem dRt_x (b : UInt8) : dRt 1 (xd b) = true := by
  unfold dRt
  have : splitR 1 (xd b) = some [xd b] := (split_iff 1 (xd b) [xd b]).2 ⟨by decide, by simp [xd, ByteArray.size], by rfl, by
    have : formOf 1 = [.grp 4 1 10 46] := rfl
    rw [this]
    exact ⟨rfl, trivial⟩⟩
  rw [this]
  rfl
def xS (n : N3) (b : UInt8) (t : Int) : Sv := ⟨nmm n, 1, 1, t, [xd b], []⟩
theorem ok_x {n : N3} (h : OkN n) (b : UInt8) : setOk (xS n b 10) = true := by
  unfold setOk headOk datOk sigOk xS lowsS
  simp only [isN_yes ⟨n, h, rfl⟩, List.all_cons, List.all_nil, dRt_x]
  rfl
theorem svI_x {n : N3} (h : OkN n) (b : UInt8) : SvI (xS n b 10) := by
  refine ⟨⟨?_, ?_, ?_⟩, ?_, ?_, ?_⟩
  · have : (nmm n).size ≤ 255 := name_size ⟨n, h, rfl⟩
    show (nmm n).size ≤ maxLen
    unfold maxLen
    omega
  · intro d hd
    obtain rfl : d = xd b := by simpa [xS] using hd
    show 4 ≤ maxLen
    decide
  · intro d hd
    cases hd
  · show I64 1
    unfold I64; omega
  · show I64 1
    unfold I64; omega
  · show I64 10
    unfold I64; omega
def xK : Ky := (nmm xN, 1)
theorem key_n : keyS (nmm xN) 1 = xK := by unfold keyS; rw [low_n]; rfl
theorem key_m : keyS (nmm xM) 1 = xK := by unfold keyS; rw [low_m]; rfl
def xE : Ev := ⟨xS xN 1 10, 3, 0, 1, 15⟩
theorem put1 : putOk (xS xN 1 10) 3 0 5 = true ∧ refused [] (xS xN 1 10) 3 5 = false ∧ putR 2 [] (keyS (xS xN 1 10).nm (xS xN 1 10).ty) (putX 0 [] (xS xN 1 10) 3 0 5) = [(xK, xE)] := by
  refine ⟨putOk_iff.2 ⟨rfl, ok_x ok_n 1, by decide, by decide, by decide⟩, rfl, ?_⟩
  rw [show keyS (xS xN 1 10).nm (xS xN 1 10).ty = xK from key_n]
  rfl
theorem put2 : putOk (xS xM 2 10) 1 0 6 = true ∧ refused [(xK, xE)] (xS xM 2 10) 1 6 = true := by
  refine ⟨putOk_iff.2 ⟨rfl, ok_x ok_m 2, by decide, by decide, by decide⟩, ?_⟩
  unfold refused
  rw [show keyS (xS xM 2 10).nm (xS xM 2 10).ty = xK from key_m, getR_cons, if_pos rfl]
  rfl
theorem get1 : foundA [(xK, xE)] (keyS (nmm xM) 1) 9 = some xE ∧ getA [(xK, xE)] (keyS (nmm xM) 1) 9 = [(xK, xE)] := by
  rw [key_m]
  have hw : without [(xK, xE)] xK = [] := by unfold without; simp
  constructor
  · unfold foundA
    rw [if_pos (by rfl), getR_cons, if_pos rfl]
    rfl
  · unfold getA
    rw [if_pos (by rfl), getR_cons, if_pos rfl, hw]
    rfl
theorem get2 : foundA [(xK, xE)] (keyS (nmm xN) 1) 15 = none ∧ getA [(xK, xE)] (keyS (nmm xN) 1) 15 = [] := by
  rw [key_n]
  have hw : without [(xK, xE)] xK = [] := by unfold without; simp
  constructor
  · unfold foundA
    rw [if_pos (by rfl), getR_cons, if_pos rfl]
    rfl
  · unfold getA
    rw [if_pos (by rfl), getR_cons, if_pos rfl, hw]
    rfl
def zS : Sv := ⟨⟨#[]⟩, 0, 0, 0, [], []⟩
theorem put3 : putOk zS 1 0 0 = false := by
  cases h : putOk zS 1 0 0 with
  | false => rfl
  | true =>
    have := (putOk_iff.1 h).1
    cases this
theorem svI_z : SvI zS := by
  have h0 : I64 0 := by unfold I64; omega
  exact ⟨⟨by decide, fun d hd => (by cases hd), fun d hd => (by cases hd)⟩, h0, h0, h0⟩
theorem svAt_z (w : World) : SvAt w zS none 0 none 0 := ⟨fun j hj => (by cases hj), fun j hj => (by cases hj), ⟨Nat.le_refl _, by decide⟩, ⟨Nat.le_refl _, by decide⟩⟩
set_option maxRecDepth 100000 in
theorem one_in (n : N3) (b : UInt8) (w : World) : Calls Tryz.prog 36 #[.string (nmm n), .string ⟨#[b]⟩, .int .i64 10] w fun e w' => ∃ q, e = .returned (.agg (svC (xS n b 10) q 1 none 0).toArray) ∧ SvAt w' (xS n b 10) q 1 none 0 ∧ Below w.heap.size w w' := by
  have HX : ∀ (u : World) c, (u.alloc (.cells c 34)).heap[u.heap.size]? = some (.cells c 34 (0, 0)) := fun u c => heap_alloc_new u _
  have ha : (⟨#[10, 0, 0]⟩ : ByteArray) ++ ⟨#[b]⟩ = xd b := rfl
  unfold xS
  simp only [svC]
  generalize nmm n = x
  go_enter Tryz.func36, Tryz.ntmps36
  go_wp2
  refine bodyPost_ret (results_cell_row Tryz.results36 _ _ w.heap.size 34 _ (0, 0) _ (by rfl) (show _ = some _ from (by rw [Below.heap_alloc _ _ _ (by simp)]; exact HX w _)) Tryz.underlying34 rfl (by kernel_rfl)) rfl ?_
  refine ⟨_, rfl, ⟨fun j hj => ?_, fun j hj => (by cases hj), ⟨Nat.le_refl _, by show 1 ≤ maxLen; decide⟩, ⟨Nat.le_refl _, by decide⟩⟩, ((Below.refl _ _).alloc (Nat.le_refl _) _).alloc (by simp) _⟩
  obtain rfl : j = 0 := by simp at hj; omega
  refine ⟨w.heap.size + 1, 0, rfl, by simp, ?_⟩
  have g : ((w.alloc (.cells #[.string x, .int .i64 1, .int .i64 1, .int .i64 10, .slice (some ⟨w.heap.size + 1, 0, none⟩) 1 1, .slice none 0 0] 34)).alloc (.cells #[.string (xd b)] 9)).heap[w.heap.size + 1]? = some (.cells #[.string (xd b)] 9 (0, 0)) := by
    have := heap_alloc_new (w.alloc (.cells #[.string x, .int .i64 1, .int .i64 1, .int .i64 10, .slice (some ⟨w.heap.size + 1, 0, none⟩) 1 1, .slice none 0 0] 34)) (.cells #[.string (xd b)] 9)
    simpa using this
  rw [So.cell_blk g]
  rfl
theorem nm_n : nmm xN = ⟨#[1, 97, 0]⟩ := rfl
theorem nm_m : nmm xM = ⟨#[1, 65, 0]⟩ := rfl
set_option maxRecDepth 100000 in
set_option maxHeartbeats 8000000 in
theorem examples_in (W : World) : Calls Tryz.prog 9 #[] W fun e w' => e = .returned (.bool true) ∧ Below W.heap.size W w' := by
  have HN : Hid (Calls Tryz.prog 10 #[.int .i64 2] W fun e w' => ∃ C T, e = .returned (.tuple #[pt C, .int .i64 0]) ∧ RCA W w' C T 2 0 0 []) := anew_in W 2 (by omega) (by omega)
  have H0 : Hid (∀ w, Calls Tryz.prog 10 #[.int .i64 0] w fun e w' => e = .returned (.tuple #[nilP, .int .i64 1]) ∧ w' = w) := fun w => rnew_no w 0 (.inl (by omega))
  have HO1 : Hid (∀ w, Calls Tryz.prog 36 #[.string ⟨#[1, 97, 0]⟩, .string ⟨#[1]⟩, .int .i64 10] w fun e w' => ∃ q, e = .returned (.agg (svC (xS xN 1 10) q 1 none 0).toArray) ∧ SvAt w' (xS xN 1 10) q 1 none 0 ∧ Below w.heap.size w w') := fun w => one_in xN 1 w
  have HO2 : Hid (∀ w, Calls Tryz.prog 36 #[.string ⟨#[1, 65, 0]⟩, .string ⟨#[2]⟩, .int .i64 10] w fun e w' => ∃ q, e = .returned (.agg (svC (xS xM 2 10) q 1 none 0).toArray) ∧ SvAt w' (xS xM 2 10) q 1 none 0 ∧ Below w.heap.size w w') := fun w => one_in xM 2 w
  have HP1 : Hid (∀ w C T q, RCA W w C T 2 0 0 [] → SvAt w (xS xN 1 10) q 1 none 0 → Calls Tryz.prog 13 #[pt C, .agg (svC (xS xN 1 10) q 1 none 0).toArray, .int .i64 3, .int .i64 0, .int .i64 5] w fun e w' => e = .returned (.tuple #[.bool true, .int .i64 0]) ∧ RCA W w' C T 2 1 1 [(xK, xE)]) := fun w C T q hr hat => by
    refine (aput_in hr (by omega) (xS xN 1 10) (svI_x ok_n 1) q 1 none 0 hat 3 0 5).mono ?_
    rintro e w' ⟨hp, hf⟩
    rcases hp with ⟨h1, _⟩ | ⟨_, h1, _⟩ | ⟨_, _, h2, h3⟩
    · rw [put1.1] at h1; cases h1
    · rw [put1.2.1] at h1; cases h1
    · rw [put1.2.2] at h3
      exact ⟨h2, h3⟩
  have HP2 : Hid (∀ w C T q, RCA W w C T 2 1 1 [(xK, xE)] → SvAt w (xS xM 2 10) q 1 none 0 → Calls Tryz.prog 13 #[pt C, .agg (svC (xS xM 2 10) q 1 none 0).toArray, .int .i64 1, .int .i64 0, .int .i64 6] w fun e w' => e = .returned (.tuple #[.bool false, .int .i64 0]) ∧ RCA W w' C T 2 1 1 [(xK, xE)]) := fun w C T q hr hat => by
    refine (aput_in hr (by omega) (xS xM 2 10) (svI_x ok_m 2) q 1 none 0 hat 1 0 6).mono ?_
    rintro e w' ⟨hp, hf⟩
    rcases hp with ⟨h1, _⟩ | ⟨_, _, h2, h3⟩ | ⟨_, h1, _⟩
    · rw [put2.1] at h1; cases h1
    · exact ⟨h2, h3⟩
    · rw [put2.2] at h1; cases h1
  have HP3 : Hid (∀ w C T, RCA W w C T 2 1 1 [] → Calls Tryz.prog 13 #[pt C, .agg (svC zS none 0 none 0).toArray, .int .i64 1, .int .i64 0, .int .i64 0] w fun e w' => e = .returned (.tuple #[.bool false, .int .i64 1]) ∧ RCA W w' C T 2 1 1 [] ∧ FrC T w w') := fun w C T hr => by
    refine (aput_in hr (by omega) zS svI_z none 0 none 0 (svAt_z w) 1 0 0).mono ?_
    rintro e w' ⟨hp, hf⟩
    rcases hp with ⟨_, h2, h3⟩ | ⟨h1, _⟩ | ⟨h1, _⟩
    · exact ⟨h2, h3, hf⟩
    · rw [put3] at h1; cases h1
    · rw [put3] at h1; cases h1
  have HG1 : Hid (∀ w C T, RCA W w C T 2 1 1 [(xK, xE)] → Calls Tryz.prog 15 #[pt C, .string ⟨#[1, 65, 0]⟩, .int .i64 1, .int .i64 9] w fun e w' => (∃ q1 c1 q2 c2, e = .returned (.tuple #[.agg #[.string ⟨#[1, 97, 0]⟩, .int .i64 1, .int .i64 1, .int .i64 6, .slice q1 1 c1, .slice q2 0 c2, .int .i64 3, .int .i64 0, .int .i64 1, .int .i64 15], .bool true])) ∧ RCA W w' C T 2 1 1 [(xK, xE)]) := fun w C T hr => by
    refine (aget_in hr (nmm xM) (by rw [nm_m]; decide) 1 9 (by unfold I64; omega)).mono ?_
    rintro e w' ⟨h1, hf, hp⟩
    rw [get1.2] at h1
    rcases hp with ⟨h2, _⟩ | ⟨x, q1, c1, q2, c2, h2, h3, h4⟩
    · rw [get1.1] at h2; cases h2
    · rw [get1.1] at h2
      cases h2
      exact ⟨⟨q1, c1, q2, c2, h3⟩, h1⟩
  have HG2 : Hid (∀ w C T, RCA W w C T 2 1 1 [(xK, xE)] → Calls Tryz.prog 15 #[pt C, .string ⟨#[1, 97, 0]⟩, .int .i64 1, .int .i64 15] w fun e w' => e = .returned (.tuple #[.agg #[.string ⟨#[]⟩, .int .i64 0, .int .i64 0, .int .i64 0, .slice none 0 0, .slice none 0 0, .int .i64 0, .int .i64 0, .int .i64 0, .int .i64 0], .bool false]) ∧ RCA W w' C T 2 1 1 [] ∧ FrC T w w') := fun w C T hr => by
    refine (aget_in hr (nmm xN) (by rw [nm_n]; decide) 1 15 (by unfold I64; omega)).mono ?_
    rintro e w' ⟨h1, hf, hp⟩
    rw [get2.2] at h1
    rcases hp with ⟨h2, h3⟩ | ⟨x, q1, c1, q2, c2, h2, h3, h4⟩
    · exact ⟨h3, h1, hf⟩
    · rw [get2.1] at h2; cases h2
  have HL : Hid (∀ w C T, RCA W w C T 2 1 1 [] → Calls Tryz.prog 22 #[pt C] w fun e w' => e = .returned (.int .i64 0) ∧ w' = w) := fun w C T hr => alen_in hr
  simp only [svC, xS] at HO1 HO2 HP1 HP2 HP3
  go_enter Tryz.func9, Tryz.ntmps9
  go_wp2_with fail
  refine HN.out.mono ?_
  rintro e w1 ⟨C, T, rfl, hr1⟩
  have HR1 := Hid.mk hr1
  clear hr1
  go_wp2_with fail
  refine (H0.out _).mono ?_
  rintro e w2 ⟨rfl, rfl⟩
  go_wp2_with fail
  refine (HO1.out _).mono ?_
  rintro e w3 ⟨q, rfl, hat, hb⟩
  have HC3 := Hid.mk (HP1.out _ C T q (HR1.out.blk hb) hat)
  clear hat hb
  go_wp2_with fail
  refine HC3.out.mono ?_
  rintro e w4 ⟨rfl, hr4⟩
  have HR4 := Hid.mk hr4
  clear hr4
  go_wp2_with fail
  refine (HO2.out _).mono ?_
  rintro e w5 ⟨q, rfl, hat, hb⟩
  have HC5 := Hid.mk (HP2.out _ C T q (HR4.out.blk hb) hat)
  clear hat hb
  go_wp2_with fail
  refine HC5.out.mono ?_
  rintro e w6 ⟨rfl, hr6⟩
  have HC6 := Hid.mk (HG1.out _ C T hr6)
  clear hr6
  go_wp2_with fail
  refine HC6.out.mono ?_
  rintro e w7 ⟨⟨q1, c1, q2, c2, rfl⟩, hr7⟩
  obtain ⟨B, hB⟩ : ∃ B, w7.heap.size = B := ⟨_, rfl⟩
  obtain ⟨V, hV⟩ : ∃ V, w7.alloc (.cells #[.string ⟨#[1, 97, 0]⟩, .int .i64 1, .int .i64 1, .int .i64 6, .slice q1 1 c1, .slice q2 0 c2, .int .i64 3, .int .i64 0, .int .i64 1, .int .i64 15] 44) = V := ⟨_, rfl⟩
  have gV : V.heap[B]? = some (.cells #[.string ⟨#[1, 97, 0]⟩, .int .i64 1, .int .i64 1, .int .i64 6, .slice q1 1 c1, .slice q2 0 c2, .int .i64 3, .int .i64 0, .int .i64 1, .int .i64 15] 44 (0, 0)) := by rw [← hV, ← hB]; exact heap_alloc_new w7 _
  have rV : RCA W V C T 2 1 1 [(xK, xE)] := hr7.blk (by rw [← hV]; exact (Below.refl _ _).alloc (Nat.le_refl _) _)
  have HgV := Hid.mk gV
  have HC7 := Hid.mk (HG2.out _ C T rV)
  have HV := Hid.mk hV
  clear hr7 hV gV rV
  go_upto_region 8 with fail
  (try rw [hB])
  rw [HV.out]
  go_wp2_with fail
  refine HC7.out.mono ?_
  rintro e w8 ⟨rfl, hr8, hf8⟩
  have g8 := hf8.same B _ _ _ HgV.out (by decide) (by decide) (by decide)
  obtain ⟨V8, hV8⟩ : ∃ V, w8.alloc (.cells #[.string ⟨#[]⟩, .int .i64 0, .int .i64 0, .int .i64 0, .slice none 0 0, .slice none 0 0, .int .i64 0, .int .i64 0, .int .i64 0, .int .i64 0] 44) = V := ⟨_, rfl⟩
  have b8 : Below w8.heap.size w8 V8 := by rw [← hV8]; exact (Below.refl _ _).alloc (Nat.le_refl _) _
  have HC8 := Hid.mk (HP3.out _ C T (hr8.blk b8))
  have Hg8 := Hid.mk ((b8.block B (blk_lt g8)).trans g8)
  have HV8 := Hid.mk hV8
  clear hr8 hf8 g8 hV8 b8 hB
  go_upto_region 9 with fail
  rw [HV8.out]
  go_wp2_with fail
  refine HC8.out.mono ?_
  rintro e w9 ⟨rfl, hr9, hf9⟩
  have g9 := hf9.same B _ _ _ Hg8.out (by decide) (by decide) (by decide)
  have HC9 := Hid.mk (HL.out _ C T hr9)
  have HE := Hid.mk hr9.bel
  have d0 : w9.cell? ⟨B, 0, none⟩ = some (.string ⟨#[1, 97, 0]⟩) := by rw [So.cell_blk g9]; rfl
  have d3 : w9.cell? ⟨B, 3, none⟩ = some (.int .i64 6) := by rw [So.cell_blk g9]; rfl
  have d6 : w9.cell? ⟨B, 6, none⟩ = some (.int .i64 3) := by rw [So.cell_blk g9]; rfl
  have d8 : w9.cell? ⟨B, 8, none⟩ = some (.int .i64 1) := by rw [So.cell_blk g9]; rfl
  clear hr9 hf9 g9
  go_wp2_with fail
  refine HC9.out.mono ?_
  rintro e w10 ⟨rfl, rfl⟩
  go_wp2
  go_ret
  exact ⟨rfl, HE.out⟩
end Go.Proofs.YtikjepodmdaknaaGreatDoor.Rc
/- Layer 17: what is so of the chapter's examples. Facts alone. -/
namespace Go.Proofs.YtikjepodmdaknaaGreatDoor.Mc
open Go.RowKit
open Go.Proofs.YtikjepodmdaknaaGreatDoor.Rc (Ky AL Ev EvI foundA getA toldE timB over getR without putR tim_iff putOk putOk_iff refused putX getR_cons ttl verN verC keeps keeps_some sameS_refl sameS_tl sameS_iff ver_new ver_old xN xM xS xK xd ok_n ok_m ok_x svI_x key_n key_m nmm)
noncomputable def yE (b : UInt8) (v u : Int) : Ev := ⟨xS xN b 10, 3, 0, v, u⟩
noncomputable def yQ : Qn := ⟨nmm xM, 1, 1⟩
noncomputable def yX : An := ⟨0, 0, [xS xN 1 10], [], 0⟩
noncomputable def yK : Kn := ⟨0, 0, 10, [⟨xK, 1⟩], []⟩
noncomputable def yY : An := ⟨0, 0, [tellS (yE 1 1 10) 5 10], [], 10⟩
def zQ : Qn := ⟨⟨#[]⟩, 0, 0⟩
def zX : An := ⟨0, 0, [], [], 0⟩
theorem not_same : sameS (xS xN 1 10) (xS xN 2 10) = false := by
  cases h : sameS (xS xN 1 10) (xS xN 2 10) with
  | false => rfl
  | true =>
    obtain ⟨_, _, _, _, _, h6⟩ := sameS_iff.1 h
    have e (b : UInt8) : lowsS (xS xN b 10) = [(xd b).data.toList] := by
      show [(lowR 1 (xd b)).data.toList] = _
      have : lowR 1 (xd b) = xd b := by unfold lowR; rw [if_neg (by decide)]
      rw [this]
    rw [e, e] at h6
    have hp : ([(xd 1).data.toList] : List (List UInt8)).Perm [(xd 2).data.toList] := (sortB_perm _).symm.trans (h6 ▸ sortB_perm _)
    have := List.singleton_perm_singleton.1 hp
    exact absurd this (by decide)
theorem y_put1 : putOk (xS xN 1 10) 3 0 0 = true ∧ refused [] (xS xN 1 10) 3 0 = false ∧ putR 10 [] (Rc.keyS (xS xN 1 10).nm (xS xN 1 10).ty) (putX 0 [] (xS xN 1 10) 3 0 0) = [(xK, yE 1 1 10)] := by
  refine ⟨putOk_iff.2 ⟨rfl, ok_x ok_n 1, by decide, by decide, by decide⟩, rfl, ?_⟩
  rw [show Rc.keyS (xS xN 1 10).nm (xS xN 1 10).ty = xK from key_n]
  rfl
theorem y_get (b : UInt8) (v u now : Int) (h0 : 0 ≤ now ∧ now ≤ 100000) (hu : now < u) : foundA [(xK, yE b v u)] xK now = some (yE b v u) ∧ getA [(xK, yE b v u)] xK now = [(xK, yE b v u)] := by
  have ht := tim_ok h0.1 (show now ≤ 4294967295 by omega)
  have hg : getR [(xK, yE b v u)] xK = some (yE b v u) := by rw [getR_cons, if_pos rfl]
  have ho : over (yE b v u) now = false := by
    unfold Rc.over
    exact decide_eq_false (by show ¬ u ≤ now; omega)
  constructor
  · unfold Rc.foundA
    rw [if_pos ht, hg]
    show (if over (yE b v u) now then none else some (yE b v u)) = _
    rw [ho]
    rfl
  · unfold Rc.getA
    rw [if_pos ht, hg]
    show (if over (yE b v u) now then without [(xK, yE b v u)] xK else (xK, yE b v u) :: without [(xK, yE b v u)] xK) = _
    rw [ho, one_without]
    rfl
theorem y_put2 : putOk (xS xN 2 10) 3 0 5 = true ∧ refused [(xK, yE 1 1 10)] (xS xN 2 10) 3 5 = false ∧ putR 10 [(xK, yE 1 1 10)] (Rc.keyS (xS xN 2 10).nm (xS xN 2 10).ty) (putX 1 [(xK, yE 1 1 10)] (xS xN 2 10) 3 0 5) = [(xK, yE 2 2 15)] ∧ verC 1 (getR [(xK, yE 1 1 10)] (Rc.keyS (xS xN 2 10).nm (xS xN 2 10).ty)) (xS xN 2 10) = 2 := by
  have hg : getR [(xK, yE 1 1 10)] xK = some (yE 1 1 10) := by rw [getR_cons, if_pos rfl]
  have hk : Rc.keyS (xS xN 2 10).nm (xS xN 2 10).ty = xK := key_n
  have hkp : keeps (some (yE 1 1 10)) (xS xN 2 10) = false := by
    rw [keeps_some, show (yE 1 1 10).s = xS xN 1 10 from rfl, not_same, Bool.and_false]
  obtain ⟨e1, e2⟩ := ver_new (ver := 1) hkp
  refine ⟨putOk_iff.2 ⟨rfl, ok_x ok_n 2, by decide, by decide, by decide⟩, ?_, ?_, ?_⟩
  · unfold Rc.refused
    rw [hk, hg]
    rfl
  · rw [hk]
    unfold Rc.putX
    rw [hk, hg, e1]
    unfold Rc.putR
    rw [one_without]
    rfl
  · rw [hk, hg, e2]
    rfl
theorem y_keep : pOk yQ yX 2 = true ∧ putA 10 [(xK, yE 1 1 10)] [] yQ yX 2 = ([(xK, yE 1 1 10)], [(xK, yK)], true) := by
  obtain ⟨h1, h2⟩ := y_get 1 1 10 2 (by omega) (by omega)
  constructor
  · unfold pOk qOk aOk yQ yX
    rw [isN_yes ⟨xM, ok_m, rfl⟩, tim_ok (by omega) (by omega)]
    rfl
  · unfold putA
    have e : lrnA [(xK, yE 1 1 10)] yQ.ty yX 2 = ([(xK, yE 1 1 10)], some yK) := by
      unfold lrnA
      have e1 : fndA 2 [(xK, yE 1 1 10)] (keysOf yX.a) [] 604800 = ([(xK, yE 1 1 10)], some ([⟨xK, 1⟩], 8)) := by
        show fndA 2 [(xK, yE 1 1 10)] [Rc.keyS (nmm xN) 1] [] 604800 = _
        rw [key_n]
        unfold fndA
        rw [h1, h2]
        rfl
      have e2 : fndA 2 [(xK, yE 1 1 10)] (keysOf yX.b) [⟨xK, 1⟩] 8 = ([(xK, yE 1 1 10)], some ([⟨xK, 1⟩], 8)) := rfl
      have e3 : fndA 2 [(xK, yE 1 1 10)] (keysOf yX.b) [] 8 = ([(xK, yE 1 1 10)], some ([], 8)) := rfl
      simp only [e1, e3]
      rfl
    simp only [e]
    rw [show Rc.keyS yQ.nm yQ.ty = xK from key_m]
    rfl
theorem y_got1 : gotA [(xK, yE 1 1 10)] [(xK, yK)] yQ 5 = ([(xK, yE 1 1 10)], [(xK, yK)], some yY) := by
  obtain ⟨h1, h2⟩ := y_get 1 1 10 5 (by omega) (by omega)
  unfold gotA
  rw [if_pos (tim_ok (by omega) (by omega)), show Rc.keyS yQ.nm yQ.ty = xK from key_m, getR_cons, if_pos rfl]
  have : telA [(xK, yE 1 1 10)] yK 5 = ([(xK, yE 1 1 10)], some yY) := by
    unfold telA
    rw [if_neg (by decide)]
    have e1 : folA 5 10 [(xK, yE 1 1 10)] [⟨xK, 1⟩] [] = ([(xK, yE 1 1 10)], some [tellS (yE 1 1 10) 5 10]) := by
      unfold folA
      show (match foundA [(xK, yE 1 1 10)] (Rc.keyS (nmm xN) 1) 5 with
        | none => (getA [(xK, yE 1 1 10)] (Rc.keyS (nmm xN) 1) 5, none)
        | some x => if x.ve = 1 then folA 5 10 (getA [(xK, yE 1 1 10)] (Rc.keyS (nmm xN) 1) 5) [] ([] ++ [tellS x 5 10]) else (getA [(xK, yE 1 1 10)] (Rc.keyS (nmm xN) 1) 5, none)) = _
      rw [key_n, h1, h2]
      rfl
    show (match folA 5 10 [(xK, yE 1 1 10)] [⟨xK, 1⟩] [] with
      | (A1, none) => (A1, none)
      | (A1, some ss) => match folA 5 10 A1 [] [] with
        | (A2, none) => (A2, none)
        | (A2, some ts) => (A2, some (⟨0, 0, ss, ts, 10⟩ : An))) = _
    rw [e1]
    rfl
  simp only [this, one_without]
theorem y_got2 : gotA [(xK, yE 2 2 15)] [(xK, yK)] yQ 5 = ([(xK, yE 2 2 15)], [], none) := by
  obtain ⟨h1, h2⟩ := y_get 2 2 15 5 (by omega) (by omega)
  unfold gotA
  rw [if_pos (tim_ok (by omega) (by omega)), show Rc.keyS yQ.nm yQ.ty = xK from key_m, getR_cons, if_pos rfl]
  have : telA [(xK, yE 2 2 15)] yK 5 = ([(xK, yE 2 2 15)], none) := by
    unfold telA
    rw [if_neg (by decide)]
    have e1 : folA 5 10 [(xK, yE 2 2 15)] [⟨xK, 1⟩] [] = ([(xK, yE 2 2 15)], none) := by
      unfold folA
      show (match foundA [(xK, yE 2 2 15)] (Rc.keyS (nmm xN) 1) 5 with
        | none => (getA [(xK, yE 2 2 15)] (Rc.keyS (nmm xN) 1) 5, none)
        | some x => if x.ve = 1 then folA 5 10 (getA [(xK, yE 2 2 15)] (Rc.keyS (nmm xN) 1) 5) [] ([] ++ [tellS x 5 10]) else (getA [(xK, yE 2 2 15)] (Rc.keyS (nmm xN) 1) 5, none)) = _
      rw [key_n, h1, h2]
      rfl
    show (match folA 5 10 [(xK, yE 2 2 15)] [⟨xK, 1⟩] [] with
      | (A1, none) => (A1, none)
      | (A1, some ss) => match folA 5 10 A1 [] [] with
        | (A2, none) => (A2, none)
        | (A2, some ts) => (A2, some (⟨0, 0, ss, ts, 10⟩ : An))) = _
    rw [e1]
  simp only [this, one_without]
theorem y_no : pOk zQ zX 0 = false := rfl
end Go.Proofs.YtikjepodmdaknaaGreatDoor.Mc
/- Layer 17: sets asked for one by one: what is so between the steps. -/
namespace Go.Proofs.YtikjepodmdaknaaGreatDoor.Mc
open Go.RowKit
open Go.Proofs.YtikjepodmdaknaaGreatDoor.Rc (pt nilP Ky kV k0 Kp blk_lt cell_same KOk AL Ev EvI timB RCA FrC foundA getA toldE aget_in AGet ze evC SvI found_is over_lt tim_iff Told keyS_ok)
def LAt (W w : World) (T : Nat) (q : Option Addr) (l : List Sv) : Prop := ∀ (j : Nat) s, l[j]? = some s → ∃ b off qd cd qg cg, q = some ⟨b, off, none⟩ ∧ ∀ w', FrC T w w' → Below W.heap.size W w' → SvAt w' s qd cd qg cg ∧ ∀ k, k < 6 → w'.cell? ⟨b, off + j * 6 + k, none⟩ = (svC s qd cd qg cg)[k]?
theorem LAt.next {W w w' : World} {T : Nat} {q : Option Addr} {l : List Sv} (h : LAt W w T q l) (hf : FrC T w w') : LAt W w' T q l := fun j s hs => by
  obtain ⟨b, off, qd, cd, qg, cg, e, h1⟩ := h j s hs
  exact ⟨b, off, qd, cd, qg, cg, e, fun w2 h2 h3 => h1 w2 (hf.trans h2) h3⟩
theorem frc_then {T : Nat} {w u u' : World} (h : FrC T w u) (hb : Below w.heap.size u u') : FrC T w u' :=
  ⟨Nat.le_trans h.size hb.size, fun b c t f hx h1 h2 h3 => (hb.block b (blk_lt hx)).trans (h.same b c t f hx h1 h2 h3), fun M hM => ⟨(cell_same (hb.block T (cell_lt' hM))).trans (h.mp M hM).1, fun b es cl hne hm => (hb.block b (blk_lt hm)).trans ((h.mp M hM).2 b es cl hne hm)⟩⟩
theorem rca_keep {W w w' : World} {C T m n : Nat} {ver : Int} {A : AL} (h : RCA W w C T m n ver A) (hc : ∀ (b : Nat) (c : Array Value) (t : TypeId) (f : Nat × Nat), w.heap[b]? = some (.cells c t f) → t ≠ 249 → w'.heap[b]? = some (.cells c t f)) (hm : ∀ (b : Nat) es cl, w.heap[b]? = some (.map es cl) → w'.heap[b]? = some (.map es cl)) (hb : Below W.heap.size W w') : RCA W w' C T m n ver A := by
  obtain ⟨l, Q, h, e⟩ := h.ex
  refine ⟨l, Q, ⟨hc _ _ _ _ h.bx (by decide), h.own, ?_, fun p hp => ⟨?_, (h.ev p hp).2⟩, h.ok, h.len, h.nd, h.vb, h.mb⟩, e⟩
  · obtain ⟨E, M, L, ho, e⟩ := h.tab
    refine ⟨E, M, L, ⟨ho.tab.same fun b hb => ?_, ho.own, hb⟩, e⟩
    rcases hb with rfl | rfl | rfl | hb
    · exact (hc _ _ _ _ ho.tab.tb (by decide)).trans ho.tab.tb.symm
    · obtain ⟨es, cl, hx⟩ := ho.tab.mp.isMap
      exact (hm _ _ _ hx).trans hx.symm
    · obtain ⟨c, hx, _⟩ := ho.tab.row.plc b (by simp)
      exact (hc _ _ _ _ hx (by decide)).trans hx.symm
    · obtain ⟨c, hx, _⟩ := ho.tab.row.plc b (List.mem_cons_of_mem _ hb)
      exact (hc _ _ _ _ hx (by decide)).trans hx.symm
  · obtain ⟨qd, cd, qg, cg, h0, h1', h2', r⟩ := (h.ev p hp).1
    exact ⟨qd, cd, qg, cg, hc _ _ _ _ h0 (by decide), h1'.same (fun b cur _ hb => (hc _ _ _ _ hb (by decide)).trans hb.symm), h2'.same (fun b cur _ hb => (hc _ _ _ _ hb (by decide)).trans hb.symm), r⟩
def FndP (W w w' : World) (C T m n : Nat) (ver : Int) (A : AL) (ks : List Ky) (t now : Int) (e : Ending) : Prop :=
  FrC T w w' ∧ RCA W w' C T m n ver (fndA now A ks [] t).1 ∧
  (((fndA now A ks [] t).2 = none ∧ e = .returned (.tuple #[.slice none 0 0, .int .i64 0, .bool false])) ∨
   (∃ ls t' q1 c1, (fndA now A ks [] t).2 = some (ls, t') ∧ e = .returned (.tuple #[.slice q1 ls.length c1, .int .i64 t', .bool true]) ∧ LkRow w' w.heap.size (.slice q1 ls.length c1) ls ∧ (∀ x ∈ ls, LkI x) ∧ 0 ≤ t' ∧ t' ≤ t))
structure FndI (W w wr : World) (C T m n : Nat) (ver : Int) (A : AL) (ks : List Ky) (t now : Int) (i : Nat) (tv : Int) (v : Value) (Ai : AL) (ls : List Lk) : Prop where
  len : ls.length = i
  eq : fndA now A ks [] t = fndA now Ai (ks.drop i) ls tv
  rc : RCA W wr C T m n ver Ai
  row : LkRow wr w.heap.size v ls
  li : ∀ x ∈ ls, LkI x
  fr : FrC T w wr
  tb : 0 ≤ tv ∧ tv ≤ t
section
variable {W w wr : World} {C T m n : Nat} {ver : Int} {A : AL} {ks : List Ky} {t now : Int} {i : Nat} {tv : Int} {v : Value} {Ai : AL} {ls : List Lk}
theorem FndI.blk {w' : World} (h : FndI W w wr C T m n ver A ks t now i tv v Ai ls) (hb : Below wr.heap.size wr w') : FndI W w w' C T m n ver A ks t now i tv v Ai ls :=
  ⟨h.len, h.eq, h.rc.blk hb, h.row.frc (FrC.below (T := 0) hb), h.li, h.fr.trans (FrC.below hb), h.tb⟩
theorem lowB_idemM (b : UInt8) : lowB (lowB b) = lowB b := by
  apply UInt8.toNat_inj.1
  rw [lowB_toNat, lowB_toNat]
  split
  · rw [if_neg (by omega)]
  · rfl
theorem lowN_idemM (ls : List (List UInt8)) : lowN (lowN ls) = lowN ls := by
  simp [lowN, lowB_idemM]
theorem low_low (n : ByteArray) : lowF (lowF n) = lowF n := by
  by_cases hn : IsName n
  · obtain ⟨x, hx, rfl⟩ := hn
    rw [lowF_nm hx, lowF_nm hx.low]
    congr 1
    exact lowN_idemM x
  · rw [lowF_no hn, lowF_no hn]
theorem FndI.fin (h : FndI W w wr C T m n ver A ks t now i tv v Ai ls) (hi : ks.length ≤ i) : ∃ q1 c1, v = .slice q1 i c1 ∧ FndP W w wr C T m n ver A ks t now (.returned (.tuple #[.slice q1 i c1, .int .i64 tv, .bool true])) := by
  have e := h.eq
  rw [List.drop_of_length_le hi] at e
  have e2 : fndA now A ks [] t = (Ai, some (ls, tv)) := e
  obtain ⟨q, c, hv, _⟩ := h.row.form
  have hr := h.row
  rw [hv] at hr
  rw [h.len] at hv hr
  refine ⟨q, c, hv, h.fr, by rw [e2]; exact h.rc, .inr ⟨ls, tv, q, c, by rw [e2], by rw [h.len], by rw [h.len]; exact hr, h.li, h.tb⟩⟩
theorem FndI.no {w' : World} {k : Ky} {e : Ending} (h : FndI W w wr C T m n ver A ks t now i tv v Ai ls) (hk : ks[i]? = some k) (hf : foundA Ai k now = none) (hr : RCA W w' C T m n ver (getA Ai k now)) (hfr : FrC T wr w') (he : e = .returned (.tuple #[.slice none 0 0, .int .i64 0, .bool false])) : FndP W w w' C T m n ver A ks t now e := by
  obtain ⟨hi, hkk⟩ := List.getElem?_eq_some_iff.1 hk
  have e2 : fndA now A ks [] t = (getA Ai k now, none) := by
    rw [h.eq, List.drop_eq_getElem_cons hi, hkk]
    show (match foundA Ai k now with
      | none => (getA Ai k now, none)
      | some x => _) = _
    rw [hf]
  exact ⟨h.fr.trans hfr, by rw [e2]; exact hr, .inl ⟨by rw [e2], he⟩⟩
theorem FndI.yes {w' w2 : World} {k : Ky} {x : Ev} {v' : Value} (h : FndI W w wr C T m n ver A ks t now i tv v Ai ls) (hk : ks[i]? = some k) (hf : foundA Ai k now = some x) (hr : RCA W w2 C T m n ver (getA Ai k now)) (hfr : FrC T w w2) (hx : EvI n x) (hlk : LkI ⟨k, x.ve⟩) (hrow : LkRow w2 w.heap.size v' (ls ++ [⟨k, x.ve⟩])) : FndI W w w2 C T m n ver A ks t now (i + 1) (min tv (toldE x now).s.tl) v' (getA Ai k now) (ls ++ [⟨k, x.ve⟩]) := by
  obtain ⟨hi, hkk⟩ := List.getElem?_eq_some_iff.1 hk
  have h1 := tim_iff.1 (found_is hf).1
  have h2 := over_lt (found_is hf).2.2
  have h3 := h.tb
  refine ⟨by simp [h.len], ?_, hr, hrow, fun y hy => ?_, hfr, ?_⟩
  · rw [h.eq, List.drop_eq_getElem_cons hi, hkk]
    show (match foundA Ai k now with
      | none => (getA Ai k now, none)
      | some x => fndA now (getA Ai k now) (ks.drop (i + 1)) (ls ++ [(⟨k, x.ve⟩ : Lk)]) (min tv (toldE x now).s.tl)) = _
    rw [hf]
  · rcases List.mem_append.1 hy with hy | hy
    · exact h.li y hy
    · obtain rfl := List.mem_singleton.1 hy
      exact hlk
  · show 0 ≤ min tv (min (x.un - now) 604800) ∧ min tv (min (x.un - now) 604800) ≤ t
    omega
end
theorem lk_ok {C T m n : Nat} {ver : Int} {A : AL} {W w : World} (h : RCA W w C T m n ver A) (hn : n < 2305843009213693952) {nm : ByteArray} {ty now : Int} {x : Ev} (hnm : nm.size ≤ maxLen) (hty : I64 ty) (hf : foundA A (Rc.keyS nm ty) now = some x) : EvI n x ∧ LkI ⟨Rc.keyS nm ty, x.ve⟩ := by
  have hx : EvI n x := (h.ok _ (Rc.getR_mem (found_is hf).2.1)).2
  have hk := keyS_ok hnm hty
  refine ⟨hx, hk.size, hk.num, ?_, low_low nm⟩
  have := hx.ve
  show I64 x.ve
  unfold I64
  omega
end Go.Proofs.YtikjepodmdaknaaGreatDoor.Mc
