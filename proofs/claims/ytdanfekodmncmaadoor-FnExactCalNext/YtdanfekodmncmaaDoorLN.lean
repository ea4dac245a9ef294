/- For all rules and every tick: the law of CalNext returns true, and the rules read as they did; the library's variable for the type of errors stands as the program's text lays it (the card ties that). -/
import Derived.Test.YtdanfekodmncmaaDoorTie
import Derived.Test.YtdanfekodmncmaaDoorCards
import Derived.Test.YtdanfekodmncmaaDoorCRO
import Derived.Test.YtdanfekodmncmaaDoorDO1
import Derived.Test.YtdanfekodmncmaaDoorCA11
import Derived.Test.YtdanfekodmncmaaDoorCI10
import Derived.SevenTiedAt
namespace Go.Proofs.YtdanfekodmncmaaDoor
set_option linter.unusedVariables false
set_option linter.unusedSimpArgs false
open Go.ChangeShapes Go.WideShapes Go.ChangeAt Go.RowKit Go.Joins Go Go.Deep
open Go.ChangeMaps (open_string shut_string)
set_option linter.unusedVariables false

set_option maxRecDepth 100000 in
theorem liftedCalNext (os : Os) (started : os.Started) (H : Type) (enc : TypeId × Value → H) :
    ReturnsInHanded {} Tryd.checked os 5 .any (fun w args => (Rows.fnExactCalNextSpec.pre enc Tryd.prog Tryd.f5 Rows.fnExactCalNextRow.domain false w args ∧ laidMetH Tryd.prog Rows.fnExactCalNextRow.laid w) ∧ sizedMet enc Tryd.prog Tryd.f5 (OpenSpec.ofChange Rows.fnExactCalNextSpec) false w args)
      (Rows.fnExactCalNextSpec.post enc Tryd.prog Tryd.f5 false true false false) := by
  refine returnsInHanded_of_change_and (C := Tryd.checked) (X := fun w _ => laidMetH Tryd.prog Rows.fnExactCalNextRow.laid w) (fun _ _ _ hh h => h.of_heap hh) own started (by kernel_rfl) Tryd.func5
    (ChangeSpec.witness_shaped (enc := enc) (C := Tryd.checked) (os := os) (X := fun w _ => laidMetH Tryd.prog Rows.fnExactCalNextRow.laid w) false (World.doorLaid Tryd.prog 40 os) #[.slice none 0 0, .int .i64 0] 8 rfl
      (World.shaped_of_RefB (by kernel_rfl) (by kernel_rfl)) (by kernel_rfl) (by kernel_rfl) (by kernel_rfl) (door_met1 os _)) ?_
  intro W base args ds gs before hval0 hW _ _ hL _
  have hE : ErrT W := errT_of_laid hL
  have hW' := hW
  obtain ⟨p, q, hA0, hV, rfl, hfz, hnd⟩ := hW
  have hA : DataW.TrodAll enc Tryd.prog W 0 (fun _ => true) true Tryd.f5.params.toList args.toList ds p := hA0
  rw [Tryd.params5] at hA
  obtain ⟨v0, vs0, d0, ds0, p0, q0, hargs, rfl, rfl, h0, r0⟩ := trodAll_cons hA
  obtain ⟨v1, vs1, d1, ds1, p1, q1, hargs1, rfl, rfl, h1, r1⟩ := trodAll_cons r0
  obtain ⟨rfl, rfl, rfl⟩ := trodAll_nil r1
  obtain rfl : args = #[v0, v1] := by cases args; simp_all
  obtain ⟨rfl, rfl⟩ := trodVars_none hV
  have k0 := h0
  have lt0 : ∀ x ∈ p0, x.block < W.heap.size := by obtain ⟨m, hm⟩ := k0; exact DataW.trod_lt m _ _ _ hm
  have k1 := h1
  have lt1 : ∀ x ∈ p1, x.block < W.heap.size := by obtain ⟨m, hm⟩ := k1; exact DataW.trod_lt m _ _ _ hm
  have hv := hval0 0 22 v0 (by rw [Tryd.params5]; rfl) rfl
  obtain ⟨a, l, c, rfl⟩ := okWide_slice Tryd.underlying22 hv
  obtain ⟨x0, rfl⟩ := okWide_int Tryd.underlying3 (hval0 1 3 v1 (by rw [Tryd.params5]; rfl) rfl)
  have b0 : -9223372036854775808 ≤ x0 := by
    obtain ⟨mm, hmm⟩ := h1
    obtain ⟨nn, ee, _, wf⟩ := DataW.trod_int Tryd.underlying3 hmm
    have e2 : x0 = nn := by simpa [Value.cells] using ee
    subst e2
    exact wf_lo wf
  obtain ⟨m, hm⟩ := h0
  obtain ⟨rs, hrs⟩ := isRuls_of (a := a) (l := l) (c := c) (n := m) hm
  refine (lawCalNext a l c rs x0 W hrs (fun b w' hb h1 _ _ => implCalNext _ _ _ rs x0 b0 w' h1 (hE.below hb))).mono fun e W' ⟨he, bel⟩ => ?_
  subst he
  exact ⟨_, rfl, _, _, _, [], _, [], hW', trodAll_mk1 (shut_bool Tryd.underlying4 _), (trodAll_cons_mk (Below.trod laidOut (by kernel_rfl) (of_decide_eq_true (by kernel_rfl)) k0 bel lt0) (trodAll_cons_mk (Below.trod laidOut (by kernel_rfl) (of_decide_eq_true (by kernel_rfl)) k1 bel lt1) trodAll_mk0)), rfl, bel.frame _, fun h => by cases h⟩

theorem rowCalNext : Rows.FnExactCalNextSaid :=
  OpenClaim.holds_of_wide 5 Tryd.f5 rfl rfl rfl rfl rfl rfl rfl ⟨rfl, rfl, rfl, rfl, rfl⟩ rfl rfl rfl rfl rfl (by kernel_rfl) Tryd.func5 (by kernel_rfl)
    (of_decide_eq_true (by kernel_rfl)) (by unfold Func.isWrapper; first | (rw [if_pos (by decide +kernel)]; kernel_rfl) | (rw [if_neg (by decide +kernel)]; exact ⟨rfl, rfl⟩))
    (fun os started H enc _ => liftedCalNext os started H enc)

theorem fnExactCalNext_holds : Rows.FnExactCalNextCardSaid :=
  Claim7.holds_tied_plain_at .later [] [.handle] true (true, "205a491abcd3f068ea5414a3cddbb2f06bcf7b3b82ddb4d173a4fb4b67f3127b") true
    rowCalNext (fun _ h => by cases h) (by kernel_rfl) (fun _ h => by cases h) fnExactCalNext_row_tie rfl ⟨rfl, rfl⟩ (by kernel_rfl) rfl
    (fun f fn hf hfn => by
      obtain rfl : f = 5 := Option.some.inj ((show Tryd.prog.funcNamed "loop.example/dunlin/laws.FnExactCalNext" = some 5 by kernel_rfl).symm.trans hf) |>.symm
      obtain rfl : fn = Tryd.f5 := (Option.some.inj (Tryd.func5.symm.trans hfn)).symm
      exact ⟨by kernel_rfl, fun j t ht => by
        rw [Tryd.params5] at ht
        have hm : t ∈ [22, 3] := by simpa using Array.mem_of_getElem? ht
        have hall : ([22, 3].all fun u => !Tryd.prog.wantsStandIn u) = true := by kernel_rfl
        exact (show Tryd.prog.wantsStandIn t = false by simpa using List.all_eq_true.1 hall t hm)⟩)
    (by kernel_rfl)
end Go.Proofs.YtdanfekodmncmaaDoor
