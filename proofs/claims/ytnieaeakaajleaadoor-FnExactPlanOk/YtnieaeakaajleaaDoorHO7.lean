/- Plans that are handed in, read. -/
import Derived.Test.YtnieaeakaajleaaDoorRows
import Derived.Test.YtnieaeakaajleaaDoorPV0
import Derived.Test.YtnieaeakaajleaaDoorCRO
namespace Go.Proofs.YtnieaeakaajleaaDoor
set_option linter.unusedVariables false
set_option linter.unusedSimpArgs false
open Go.ChangeShapes Go.WideShapes Go.ChangeAt Go.RowKit Go.Joins Go Go.Deep
open Go.ChangeMaps (open_string shut_string)

theorem trod_struct2' {H : Type} {enc : TypeId × Value → H} {P : Program} {w : World} {base : Nat} {spare : Nat → Bool} {held : Bool} {t : TypeId} {f0 f1 : Field} {fuel : Nat} {cs : List Value} {x : DataW H × List MemPlace} (ht : P.underlying t = some (.struct #[f0, f1])) (hone : oneCellFields P #[f0, f1] = true) (hC : P.cellsOf t = 2) (h : DataW.trod enc P w base spare held fuel t cs = some x) :
    ∃ c0 c1 y0 y1 n, cs = [c0, c1] ∧ DataW.trod enc P w base spare held n f0.type [c0] = some y0 ∧ DataW.trod enc P w base spare held n f1.type [c1] = some y1 := by
  obtain ⟨xs, n, _, rfl, hl, hlen, hf⟩ := DataW.trod_struct ht h
  rw [hC] at hl
  obtain ⟨o0, k0⟩ := hone_of hone 0 f0 rfl
  obtain ⟨o1, k1⟩ := hone_of hone 1 f1 rfl
  match xs, hlen, cs, hl with
  | [y0, y1], _, [c0, c1], _ =>
    exact ⟨c0, c1, y0, y1, n, rfl, by simpa [o0, k0] using hf 0 f0 rfl, by simpa [o1, k1] using hf 1 f1 rfl⟩
theorem trod_struct7 {H : Type} {enc : TypeId × Value → H} {P : Program} {w : World} {base : Nat} {spare : Nat → Bool} {held : Bool} {t : TypeId} {f0 f1 f2 f3 f4 f5 f6 : Field} {fuel : Nat} {cs : List Value} {x : DataW H × List MemPlace} (ht : P.underlying t = some (.struct #[f0, f1, f2, f3, f4, f5, f6])) (hone : oneCellFields P #[f0, f1, f2, f3, f4, f5, f6] = true) (hC : P.cellsOf t = 7) (h : DataW.trod enc P w base spare held fuel t cs = some x) :
    ∃ c0 c1 c2 c3 c4 c5 c6 y0 y1 y2 y3 y4 y5 y6 n, cs = [c0, c1, c2, c3, c4, c5, c6] ∧ DataW.trod enc P w base spare held n f0.type [c0] = some y0 ∧ DataW.trod enc P w base spare held n f1.type [c1] = some y1 ∧ DataW.trod enc P w base spare held n f2.type [c2] = some y2 ∧ DataW.trod enc P w base spare held n f3.type [c3] = some y3 ∧ DataW.trod enc P w base spare held n f4.type [c4] = some y4 ∧ DataW.trod enc P w base spare held n f5.type [c5] = some y5 ∧ DataW.trod enc P w base spare held n f6.type [c6] = some y6 := by
  obtain ⟨xs, n, _, rfl, hl, hlen, hf⟩ := DataW.trod_struct ht h
  rw [hC] at hl
  obtain ⟨o0, k0⟩ := hone_of hone 0 f0 rfl
  obtain ⟨o1, k1⟩ := hone_of hone 1 f1 rfl
  obtain ⟨o2, k2⟩ := hone_of hone 2 f2 rfl
  obtain ⟨o3, k3⟩ := hone_of hone 3 f3 rfl
  obtain ⟨o4, k4⟩ := hone_of hone 4 f4 rfl
  obtain ⟨o5, k5⟩ := hone_of hone 5 f5 rfl
  obtain ⟨o6, k6⟩ := hone_of hone 6 f6 rfl
  match xs, hlen, cs, hl with
  | [y0, y1, y2, y3, y4, y5, y6], _, [c0, c1, c2, c3, c4, c5, c6], _ =>
    exact ⟨c0, c1, c2, c3, c4, c5, c6, y0, y1, y2, y3, y4, y5, y6, n, rfl, by simpa [o0, k0] using hf 0 f0 rfl, by simpa [o1, k1] using hf 1 f1 rfl, by simpa [o2, k2] using hf 2 f2 rfl, by simpa [o3, k3] using hf 3 f3 rfl, by simpa [o4, k4] using hf 4 f4 rfl, by simpa [o5, k5] using hf 5 f5 rfl, by simpa [o6, k6] using hf 6 f6 rfl⟩

theorem isTlds_of {H : Type} {enc : TypeId × Value → H} {W : World} {base : Nat} {spare : Nat → Bool} {held : Bool} {n : Nat} {a : Option Addr} {l c : Nat} {y : DataW H × List MemPlace} (hf : DataW.trod enc Tryd.prog W base spare held n 37 [.slice a l c] = some y) : ∃ ts, IsTlds W a l c ts := by
  refine isRecs_of (e := 84) Tryd.underlying37 (by kernel_rfl) (by omega) (fun n cs x hx => ?_) hf
  obtain ⟨c0, c1, y0, y1, m, rfl, h0, h1⟩ := trod_struct2' Tryd.underlying84 (by kernel_rfl) (by kernel_rfl) hx
  obtain ⟨tk, e0, _, w0⟩ := DataW.trod_int Tryd.underlying3 h0
  obtain ⟨wh, e1, _, w1⟩ := DataW.trod_int Tryd.underlying3 h1
  simp only [List.cons.injEq, and_true] at e0 e1
  subst e0 e1
  exact ⟨⟨tk, wh⟩, rfl, w0, w1⟩

theorem array7 {cs : Array Value} (h : cs.size = 7) : ∃ c0 c1 c2 c3 c4 c5 c6, cs = #[c0, c1, c2, c3, c4, c5, c6] := by
  rcases cs with ⟨_ | ⟨c0, _ | ⟨c1, _ | ⟨c2, _ | ⟨c3, _ | ⟨c4, _ | ⟨c5, _ | ⟨c6, _ | ⟨c7, t⟩⟩⟩⟩⟩⟩⟩⟩⟩
  case cons.cons.cons.cons.cons.cons.cons.nil => exact ⟨c0, c1, c2, c3, c4, c5, c6, rfl⟩
  all_goals (simp only [List.size_toArray, List.length_cons, List.length_nil] at h; omega)

set_option maxRecDepth 100000 in
theorem isPla_of {H : Type} {enc : TypeId × Value → H} {W : World} {r : Reach} {b0 base : Nat} {spare : Nat → Bool} {held : Bool} {v : Value} {d : DataW H} {q : List MemPlace} (hv : Value.okWide Tryd.prog W r b0 39 v) (h : DataW.Trod enc Tryd.prog W base spare held 39 v d q) :
    ∃ ra rl rc ga gl gc wa wl wk ta tl tc, ∃ p : Pla, v = .agg #[.slice ra rl rc, .int .i64 p.pol, .int .i64 p.win, .int .i64 p.last, .slice ga gl gc, .slice wa wl wk, .slice ta tl tc] ∧ IsPla W ra rl rc ga gl gc wa wl wk ta tl tc p := by
  obtain ⟨cs, rfl, hsz⟩ := okWide_struct Tryd.underlying39 hv
  have hC : Tryd.prog.cellsOf 39 = 7 := by kernel_rfl
  obtain ⟨c0, c1, c2, c3, c4, c5, c6, rfl⟩ := array7 (hsz.trans hC)
  obtain ⟨fuel, hf⟩ := h
  obtain ⟨d0, d1, d2, d3, d4, d5, d6, y0, y1, y2, y3, y4, y5, y6, n, hx, h0, h1, h2, h3, h4, h5, h6⟩ := trod_struct7 Tryd.underlying39 (by kernel_rfl) hC hf
  have hx' : [c0, c1, c2, c3, c4, c5, c6] = [d0, d1, d2, d3, d4, d5, d6] := by simpa [Value.cells] using hx
  simp only [List.cons.injEq, and_true] at hx'
  obtain ⟨rfl, rfl, rfl, rfl, rfl, rfl, rfl⟩ := hx'
  obtain ⟨ra, rl, rc, e0⟩ := slice_form Tryd.underlying22 h0
  obtain ⟨pol, e1, _, _⟩ := DataW.trod_int Tryd.underlying3 h1
  obtain ⟨win, e2, _, _⟩ := DataW.trod_int Tryd.underlying3 h2
  obtain ⟨last, e3, _, _⟩ := DataW.trod_int Tryd.underlying3 h3
  obtain ⟨ga, gl, gc, e4⟩ := slice_form Tryd.underlying25 h4
  obtain ⟨wa, wl, wk, e5⟩ := slice_form Tryd.underlying25 h5
  obtain ⟨ta, tl, tc, e6⟩ := slice_form Tryd.underlying37 h6
  simp only [List.cons.injEq, and_true] at e0 e1 e2 e3 e4 e5 e6
  subst e0 e1 e2 e3 e4 e5 e6
  obtain ⟨rs, hrs⟩ := isRuls_of h0
  obtain ⟨goes, hg⟩ := isRow_of h4
  obtain ⟨waits, hw⟩ := isRow_of h5
  obtain ⟨told, ht⟩ := isTlds_of h6
  exact ⟨ra, rl, rc, ga, gl, gc, wa, wl, wk, ta, tl, tc, ⟨rs, pol, win, last, goes, waits, told⟩, rfl, hrs, hg, hw, ht⟩
end Go.Proofs.YtnieaeakaajleaaDoor
