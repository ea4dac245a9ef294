/- Rules that are handed in, read. -/
import Derived.Test.YtnieaeakaajleaaDoorRows
import Derived.Test.YtnieaeakaajleaaDoorCR1
import Derived.Test.YtnieaeakaajleaaDoorHO
namespace Go.Proofs.YtnieaeakaajleaaDoor
set_option linter.unusedVariables false
set_option linter.unusedSimpArgs false
open Go.ChangeShapes Go.WideShapes Go.ChangeAt Go.RowKit Go.Joins Go Go.Deep
open Go.ChangeMaps (open_string shut_string)

theorem own : ownKnob Tryd.prog.godebug = none := by kernel_rfl
theorem laidOut : laidOutB Tryd.prog = true := by kernel_rfl
theorem isRuls_of {H : Type} {enc : TypeId × Value → H} {W : World} {base : Nat} {spare : Nat → Bool} {held : Bool} {n : Nat} {a : Option Addr} {l c : Nat} {y : DataW H × List MemPlace} (hf : DataW.trod enc Tryd.prog W base spare held n 22 [.slice a l c] = some y) : ∃ rs, IsRuls W a l c rs := by
  refine isRecs_of (e := 46) Tryd.underlying22 (by kernel_rfl) (by omega) (fun n cs x hx => ?_) hf
  obtain ⟨c0, c1, c2, c3, c4, y0, y1, y2, y3, y4, m, rfl, h0, h1, h2, h3, h4⟩ := trod_struct5 Tryd.underlying46 (by kernel_rfl) (by kernel_rfl) hx
  obtain ⟨ev, e0, _, w0⟩ := DataW.trod_int Tryd.underlying3 h0
  obtain ⟨at_, e1, _, w1⟩ := DataW.trod_int Tryd.underlying3 h1
  obtain ⟨fr, e2, _, w2⟩ := DataW.trod_int Tryd.underlying3 h2
  obtain ⟨to_, e3, _, w3⟩ := DataW.trod_int Tryd.underlying3 h3
  obtain ⟨a', l', c', e4⟩ := slice_form Tryd.underlying25 h4
  simp only [List.cons.injEq, and_true] at e0 e1 e2 e3 e4
  subst e0 e1 e2 e3 e4
  obtain ⟨zs, hz⟩ := isRow_of h4
  exact ⟨⟨ev, at_, fr, to_, zs⟩, a', l', c', rfl, hz, w0, w1, w2, w3⟩
end Go.Proofs.YtnieaeakaajleaaDoor
