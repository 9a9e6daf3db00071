/- Layer 13: what the row lists lies there; a world for the witnesses. -/
import Derived.OpenShut
import Derived.WalkKit
import Derived.ProofKit
import Derived.Lib.LaidTab
import Derived.Stop.LaidErr
import Derived.Deep.DeepHandedRow
import Derived.Test.YtpognbkdafnfjaaDoorTie
import Derived.Test.YtpognbkdafnfjaaDoorCards
import Derived.Test.YtpognbkdafnfjaaDoorAcG
namespace Go.Proofs.YtpognbkdafnfjaaDoor
set_option linter.unusedVariables false
open Go.RowKit Go.ChangeShapes

theorem laid_at {P : Program} {w : World} {n : String} {d : DataW Unit} : ∀ {l : List (String × DataW Unit)} {ps : List MemPlace}, DataW.LaidVars P w l ps → (n, d) ∈ l →
    ∃ g t cs fuel p, P.globalNamed n = some g ∧ (P.globals[g]?).map (·.type) = some t ∧ w.var? P n = some cs ∧ DataW.trod (fun _ => ()) P w 0 (fun _ => true) false fuel t cs.toList = some (d, p)
  | [], _, _, h => by cases h
  | (n', d') :: r, ps, ⟨g, t, cs, fuel, p, q, h1, h2, h3, h4, h5, _⟩, h => by
    rcases List.mem_cons.1 h with e | h
    · cases e
      exact ⟨g, t, cs, fuel, p, h1, h2, h3, h4⟩
    · exact laid_at h5 h

theorem cells_s : Tryd.prog.cellsOf 9 = 1 := by kernel_rfl
theorem c_es : Tryd.prog.cellsOf 134 = 1 := by kernel_rfl
theorem star : "*" ++ "errors.errorString" = "*errors.errorString" := by decide
theorem row_es (u : TypeId) (h : Tryd.prog.typeName? 3 u = some "*errors.errorString") : u = 132 :=
  typeName_ptr_named (nm := "errors.errorString") (by rw [star]; kernel_rfl) (by kernel_rfl) (by decide) u (by rw [star]; exact h)
theorem gSyn : Tryd.prog.globalNamed "strconv.ErrSyntax" = some 2 := by kernel_rfl
theorem gSynT : (Tryd.prog.globals[2]?).map (·.type) = some 84 := by kernel_rfl
theorem gRng : Tryd.prog.globalNamed "strconv.ErrRange" = some 3 := by kernel_rfl
theorem gRngT : (Tryd.prog.globals[3]?).map (·.type) = some 84 := by kernel_rfl
theorem sent_mem {P : Program} {W : World} {x : String × DataW Unit} : ∀ {l : List (String × DataW Unit)}, laidMet P l W → x ∈ l → ∃ r, laidMet P (x :: r) W
  | [], _, hm => by cases hm
  | y :: l, h, hm => by
    rcases List.mem_cons.1 hm with rfl | hm
    · exact ⟨l, h⟩
    · exact sent_mem h.tail hm
def dbT : List Int := [0,1,56,2,57,49,28,3,61,58,42,50,38,29,17,4,62,47,59,36,45,43,51,22,53,39,33,30,24,18,12,5,63,55,48,27,60,41,37,16,46,35,44,21,52,32,23,11,54,26,40,15,34,20,31,10,25,14,19,9,13,8,7,6]
theorem ag_of {W : World} {l : List (String × DataW Unit)} (h : laidMet Tryd.prog l W) (hs : W.ShapedOpen Tryd.prog) (h1 : ("internal/strconv.uint64pow10", (Rows.laid_internal_strconv_uint64pow10 : DataW Unit)) ∈ l) (h2 : ("math/bits.deBruijn64tab", (Rows.laid_math_bits_deBruijn64tab : DataW Unit)) ∈ l)
    (h3 : ("strconv.ErrSyntax", (Rows.laid_strconv_ErrSyntax : DataW Unit)) ∈ l) (h4 : ("strconv.ErrRange", (Rows.laid_strconv_ErrRange : DataW Unit)) ∈ l) : AG W := by
  obtain ⟨r, hr⟩ := sent_mem h h3
  obtain ⟨r', hr'⟩ := sent_mem h h4
  obtain ⟨a, s, hv3, _⟩ := laid_sentinel hr gSyn gSynT Tryd.underlying84 row_es Tryd.underlying132 Tryd.underlying134 rfl rfl Tryd.underlying9 c_es cells_s
  obtain ⟨b, u, hv4, _⟩ := laid_sentinel hr' gRng gRngT Tryd.underlying84 row_es Tryd.underlying132 Tryd.underlying134 rfl rfl Tryd.underlying9 c_es cells_s
  obtain ⟨ps, hl, _⟩ := h
  refine ⟨?_, ?_, ⟨_, _, by simpa using World.var?_cell gSyn hv3 0⟩, ⟨_, _, by simpa using World.var?_cell gRng hv4 0⟩⟩
  · obtain ⟨g, t, cs, fuel, p, hg, ht, hv, hd⟩ := laid_at hl h1
    have hg0 : Tryd.prog.globalNamed "internal/strconv.uint64pow10" = some 0 := by kernel_rfl
    obtain rfl := Option.some.inj (hg0.symm.trans hg)
    have ht0 : (Tryd.prog.globals[0]?).map (·.type) = some 105 := by kernel_rfl
    obtain rfl := Option.some.inj (ht0.symm.trans ht)
    have hda : (Rows.laid_internal_strconv_uint64pow10 : DataW Unit) = Lib.tabData .u64 Lib.pow10Tab := by kernel_rfl
    rw [hda] at hd
    have hu : Tryd.prog.underlying 105 = some (.array 20 30) := by kernel_rfl
    have hu2 : Tryd.prog.underlying 30 = some (.int .u64) := by kernel_rfl
    have hc1 : Tryd.prog.cellsOf 30 = 1 := by kernel_rfl
    have hc2 : Tryd.prog.cellsOf 105 = 20 := by kernel_rfl
    have := Lib.cells_of_tab hu hu2 hc1 hc2 hd
    unfold Lib.TabIs
    rw [hv, ← this]
  · obtain ⟨g, t, cs, fuel, p, hg, ht, hv, hd⟩ := laid_at hl h2
    have hg0 : Tryd.prog.globalNamed "math/bits.deBruijn64tab" = some 5 := by kernel_rfl
    obtain rfl := Option.some.inj (hg0.symm.trans hg)
    have ht0 : (Tryd.prog.globals[5]?).map (·.type) = some 129 := by kernel_rfl
    obtain rfl := Option.some.inj (ht0.symm.trans ht)
    have hda : (Rows.laid_math_bits_deBruijn64tab : DataW Unit) = Lib.tabData .u8 dbT := by kernel_rfl
    rw [hda] at hd
    have hu : Tryd.prog.underlying 129 = some (.array 64 5) := by kernel_rfl
    have hu2 : Tryd.prog.underlying 5 = some (.int .u8) := by kernel_rfl
    have hc1 : Tryd.prog.cellsOf 5 = 1 := by kernel_rfl
    have hc2 : Tryd.prog.cellsOf 129 = 64 := by kernel_rfl
    have := Lib.cells_of_tab hu hu2 hc1 hc2 hd
    have hc := World.var?_cell hg0 hv 15
    rw [hc, ← Array.getElem?_toList, this]
    rfl
def lit1 : DataW Unit → List Value
  | .lit (.int k n) => [.int k n]
  | .lit (.string s) => [.string ⟨s.toArray⟩]
  | _ => []
def flat2 : DataW Unit → Array Value
  | .agg l => (l.flatMap fun x => match x with
    | .agg l2 => l2.flatMap lit1
    | x => lit1 x).toArray
  | _ => #[]
def errS : DataW Unit → ByteArray
  | .iface _ (.ptr (.agg [.lit (.string s)])) => ⟨s.toArray⟩
  | _ => ⟨#[]⟩

/-- A WORLD FOR THE WITNESS: the settled one, the variables of packages holding what their texts lay. -/
noncomputable def laidWorld (os : Os) : World :=
  let N := (World.settled Tryd.prog os).heap.size
  let w0 := World.holding Tryd.prog os ⟨#[.cells #[.string (errS Rows.laid_strconv_ErrSyntax)] 134, .cells #[.string (errS Rows.laid_strconv_ErrRange)] 134], #[], []⟩
  let put (h : Array Obj) (g : Nat) (cs : Array Value) : Array Obj := h.modify g fun
    | .cells _ t frozen => .cells cs t frozen
    | o => o
  let h2 := put w0.heap 0 (flat2 Rows.laid_internal_strconv_uint64pow10)
  let h3 := put h2 2 #[.iface 132 (.pointer (some ⟨N, 0, none⟩))]
  let h4 := put h3 3 #[.iface 132 (.pointer (some ⟨N + 1, 0, none⟩))]
  let h5 := put h4 4 (flat2 Rows.laid_math_bits_deBruijn32tab)
  let h6 := put h5 5 (flat2 Rows.laid_math_bits_deBruijn64tab)
  let h7 := put h6 6 (flat2 Rows.laid_unicode_utf8_first)
  let h8 := put h7 7 (flat2 Rows.laid_unicode_utf8_acceptRanges)
  { w0 with heap := h8 }

end Go.Proofs.YtpognbkdafnfjaaDoor
