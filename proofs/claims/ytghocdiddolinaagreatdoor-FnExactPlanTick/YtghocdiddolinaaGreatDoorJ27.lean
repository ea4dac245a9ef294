/- The program's own rules: which are ok. -/
import Derived.Test.YtghocdiddolinaaGreatDoorJ26
import Derived.Test.YtghocdiddolinaaGreatDoorJ24
import Derived.Test.YtghocdiddolinaaGreatDoorJ7
import Derived.Test.YtghocdiddolinaaGreatDoorJ15
import Derived.Deep.CutBlock
import Derived.Deep.DeepCutAuto
namespace Go.Proofs.YtghocdiddolinaaGreatDoor
set_option linter.unusedVariables false
set_option linter.unusedSimpArgs false
open Go.RowKit Go

/-- The ticks above t that are due, ascending. -/
noncomputable def dueL (rs : List Rul) : Nat → Int → List Int
  | 0, _ => []
  | f + 1, t => if calNext rs t < 0 then [] else calNext rs t :: dueL rs f (calNext rs t)
def Enough (f : Nat) (t : Int) : Prop := (t < 0 → 100002 ≤ f) ∧ (0 ≤ t → 100001 ≤ (f : Int) + t)
theorem dueL_nil {rs : List Rul} {f : Nat} {t : Int} (h : calNext rs t < 0) : dueL rs f t = [] := by
  cases f with
  | zero => rfl
  | succ f => rw [dueL, if_pos h]
theorem dueL_cons {rs : List Rul} {f : Nat} {t : Int} (h : 0 ≤ calNext rs t) (hf : Enough f t) : ∃ f', dueL rs f t = calNext rs t :: dueL rs f' (calNext rs t) ∧ Enough f' (calNext rs t) := by
  have hb := next_bd rs t
  have h3 := hb.2.2 h
  cases f with
  | zero =>
    exfalso
    by_cases e : t < 0
    · have := hf.1 e; omega
    · have := hf.2 (by omega); omega
  | succ f =>
    refine ⟨f, by rw [dueL, if_neg (by omega)], fun h4 => by omega, fun _ => ?_⟩
    by_cases e : t < 0
    · have := hf.1 e; omega
    · have := hf.2 (by omega); omega

end Go.Proofs.YtghocdiddolinaaGreatDoor

namespace Go.Proofs.YtghocdiddolinaaGreatDoor
set_option linter.unusedVariables false
set_option linter.unusedSimpArgs false
open Go.RowKit Go
namespace Pl

theorem dueL_lenP (rs : List Rul) : ∀ (f : Nat) (t : Int), (dueL rs f t).length ≤ f := by
  intro f
  induction f with
  | zero => intro t; simp [dueL]
  | succ f ih =>
    intro t
    rw [dueL]
    split
    · simp
    · have := ih (calNext rs t); simp only [List.length_cons]; omega
/-- The times that are looked at. -/
noncomputable def ticks (rs : List Rul) (last now : Int) : List Int := (dueL rs 100002 last).takeWhile fun x => decide (x ≤ now)
theorem takeWhile_pre {pre r : List Int} {now : Int} (h : ∀ y ∈ pre, y ≤ now) (hr : ∀ x s, r = x :: s → now < x) : (pre ++ r).takeWhile (fun x => decide (x ≤ now)) = pre := by
  induction pre with
  | nil =>
    cases r with
    | nil => rfl
    | cons x s =>
      have := hr x s rfl
      rw [List.nil_append, List.takeWhile_cons, if_neg (by simp only [decide_eq_true_eq]; omega)]
  | cons y p ih =>
    have hy := h y List.mem_cons_self
    rw [List.cons_append, List.takeWhile_cons, if_pos (by simpa using hy), ih fun z hz => h z (List.mem_cons_of_mem _ hz)]
theorem ticks_end {rs : List Rul} {pre : List Int} {f : Nat} {last now prev : Int} (hd : dueL rs 100002 last = pre ++ dueL rs f prev) (hp : ∀ y ∈ pre, y ≤ now) (hx : calNext rs prev < 0 ∨ now < calNext rs prev) : ticks rs last now = pre := by
  unfold ticks
  rw [hd]
  refine takeWhile_pre hp fun x s e => ?_
  cases f with
  | zero => cases e
  | succ f =>
    rw [dueL] at e
    split at e
    · cases e
    · injection e with e1 e2
      subst e1
      rcases hx with h | h
      · rename_i hn; exact absurd h hn
      · exact h
theorem pre_len {rs : List Rul} {pre r : List Int} {last : Int} (hd : dueL rs 100002 last = pre ++ r) : pre.length ≤ 100002 := by
  have h := dueL_lenP rs 100002 last
  rw [hd, List.length_append] at h
  omega
/-- What PlanTick answers. -/
def noPlan : Pla := ⟨[], 0, 0, 0, [], [], []⟩
noncomputable def late (p : Pla) (now : Int) : List Int × List Int × List Tld := looksAll p.pol p.win now p.goes p.waits (ticks p.rs p.last now)
noncomputable def tickP (p : Pla) (now : Int) : Pla × List Tld :=
  if planOk p = true then
    if now ≤ p.last ∨ 100000 < now then (p, [])
    else (⟨p.rs, p.pol, p.win, now, (late p now).1, (late p now).2.1, keep (p.told ++ (late p now).2.2)⟩, (late p now).2.2)
  else (noPlan, [])
theorem looks_len (pol win now : Int) (g w : List Int) (t : Int) : (looks pol win now g w t).2.2.length ≤ 2 := by
  unfold looks comes
  split
  · simp
  · split
    · simp
    · split
      · simp
      · split <;> simp
theorem looksAll_len (pol win now : Int) : ∀ (ts g w : List Int), (looksAll pol win now g w ts).2.2.length ≤ 2 * ts.length
  | [], g, w => by simp [looksAll]
  | t :: ts, g, w => by
    simp only [looksAll, List.length_append, List.length_cons]
    have h1 := looks_len pol win now g w t
    have h2 := looksAll_len pol win now ts (looks pol win now g w t).1 (looks pol win now g w t).2.1
    omega
theorem looksAll_fits {pol win now : Int} (hp : 1 ≤ pol ∧ pol ≤ 5) : ∀ (ts : List Int) {g w : List Int}, FitsIn pol g w → FitsIn pol (looksAll pol win now g w ts).1 (looksAll pol win now g w ts).2.1
  | [], _, _, h => h
  | t :: ts, _, _, h => by
    simp only [looksAll]
    exact looksAll_fits hp ts (looks_fits hp h t)
/-- Numbers that can be read. -/
def Wfs (l : List Int) : Prop := ∀ n ∈ l, (Lit.int .i64 n).wf = true
def Goods (l : List Tld) : Prop := ∀ t ∈ l, GoodT t
theorem wf_tick {n : Int} (h : -1 ≤ n ∧ n ≤ 100000) : (Lit.int .i64 n).wf = true := by
  have hmin : IntKind.i64.min = -9223372036854775808 := rfl
  have hmax : IntKind.i64.max = 9223372036854775807 := rfl
  simp only [Lit.wf, Bool.and_eq_true, decide_eq_true_eq, hmin, hmax]
  omega
theorem comes_wf {pol : Int} {g w : List Int} {t : Int} (hg : Wfs g) (hw : Wfs w) (ht : (Lit.int .i64 t).wf = true) : Wfs (comes pol g w t).1 ∧ Wfs (comes pol g w t).2.1 ∧ Goods (comes pol g w t).2.2 := by
  have k : ∀ n : Int, 0 ≤ n → n ≤ 5 → (Lit.int .i64 n).wf = true := fun n h1 h2 => wf_tick ⟨by omega, by omega⟩
  have one : ∀ wh : Int, 0 ≤ wh → wh ≤ 5 → Goods [⟨t, wh⟩] := fun wh h1 h2 x hx => by rw [List.mem_singleton.1 hx]; exact ⟨ht, k wh h1 h2⟩
  have snoc : ∀ l, Wfs l → Wfs (l ++ [t]) := fun l hl n hn => by
    rcases List.mem_append.1 hn with h | h
    · exact hl n h
    · rw [List.mem_singleton.1 h]; exact ht
  unfold comes
  split
  · rename_i h
    refine ⟨fun n hn => by rw [List.mem_singleton.1 hn]; exact ht, hw, fun x hx => ?_⟩
    simp only [List.mem_cons, List.not_mem_nil, or_false] at hx
    rcases hx with rfl | rfl
    · refine ⟨hg _ ?_, k 4 (by omega) (by omega)⟩
      cases g with
      | nil => simp at h
      | cons y r => simp
    · exact ⟨ht, k 1 (by omega) (by omega)⟩
  · split
    · exact ⟨snoc g hg, hw, one 1 (by omega) (by omega)⟩
    · split
      · exact ⟨hg, snoc w hw, fun x hx => by cases hx⟩
      · exact ⟨hg, hw, one 2 (by omega) (by omega)⟩
theorem looks_wf {pol win now : Int} {g w : List Int} {t : Int} (hg : Wfs g) (hw : Wfs w) (ht : (Lit.int .i64 t).wf = true) : Wfs (looks pol win now g w t).1 ∧ Wfs (looks pol win now g w t).2.1 ∧ Goods (looks pol win now g w t).2.2 := by
  unfold looks
  split
  · exact ⟨hg, hw, fun x hx => by rw [List.mem_singleton.1 hx]; exact ⟨ht, wf_tick (n := 3) ⟨by decide, by decide⟩⟩⟩
  · exact comes_wf hg hw ht
theorem looksAll_wf {pol win now : Int} : ∀ (ts : List Int) {g w : List Int}, Wfs g → Wfs w → Wfs ts → Wfs (looksAll pol win now g w ts).1 ∧ Wfs (looksAll pol win now g w ts).2.1 ∧ Goods (looksAll pol win now g w ts).2.2
  | [], _, _, hg, hw, _ => ⟨hg, hw, fun x hx => by cases hx⟩
  | t :: ts, g, w, hg, hw, ht => by
    simp only [looksAll]
    obtain ⟨h1, h2, h3⟩ := looks_wf (pol := pol) (win := win) (now := now) hg hw (ht t List.mem_cons_self)
    obtain ⟨k1, k2, k3⟩ := looksAll_wf (pol := pol) (win := win) (now := now) ts h1 h2 fun n hn => ht n (List.mem_cons_of_mem _ hn)
    refine ⟨k1, k2, fun x hx => ?_⟩
    rcases List.mem_append.1 hx with h | h
    · exact h3 x h
    · exact k3 x h
theorem dueL_bd {rs : List Rul} : ∀ (f : Nat) (t : Int), ∀ x ∈ dueL rs f t, 0 ≤ x ∧ x ≤ 100000
  | 0, _, x, hx => by simp [dueL] at hx
  | f + 1, t, x, hx => by
    rw [dueL] at hx
    split at hx
    · cases hx
    · rename_i hn
      have hb := next_bd rs t
      rcases List.mem_cons.1 hx with rfl | h
      · omega
      · exact dueL_bd f _ x h
theorem goods_keep {l : List Tld} (h : Goods l) : Goods (keep l) := fun x hx => h x (List.mem_of_mem_drop hx)
theorem goods_app {l r : List Tld} (h : Goods l) (k : Goods r) : Goods (l ++ r) := fun x hx => by
  rcases List.mem_append.1 hx with e | e
  · exact h x e
  · exact k x e
end Pl
end Go.Proofs.YtghocdiddolinaaGreatDoor

namespace Go.Proofs.YtghocdiddolinaaGreatDoor
set_option linter.unusedVariables false
set_option linter.unusedSimpArgs false
open Go.RowKit Go

/-- A value that is whether P. -/
def ValIf (t : Value) (P : Prop) : Prop := ∃ v : Bool, t = .bool v ∧ (v = true ↔ P)
theorem valIf_t {P : Prop} (h : P) : ValIf (.bool true) P := ⟨true, rfl, by simp [h]⟩
theorem valIf_f {P : Prop} (h : ¬ P) : ValIf (.bool false) P := ⟨false, rfl, by simp [h]⟩
theorem isRow_drewN {k : IntKind} {w : World} {a : Option Addr} {len cap : Nat} {zs : List Int} (h : IsRow k w a len cap zs) (q : Nat) : IsRow k (w.drewN q) a len cap zs := h.below (below_drewN (Below.refl _ _) q)

set_option maxRecDepth 4000 in
set_option maxHeartbeats 2000000 in
theorem implRuleOk (r : Rul) (a : Option Addr) (len cap : Nat) (w : World) (hr : IsRow .i64 w a len cap r.but) :
    Calls Tryz.prog 101 #[.agg #[.int .i64 r.ev, .int .i64 r.at_, .int .i64 r.fr, .int .i64 r.to_, .slice a len cap]] w fun x w' => x = .returned (.bool (ruleOk r)) ∧ Below w.heap.size w w' := by
  obtain ⟨hz, hm⟩ := hr.len
  unfold maxLen at hm
  have HR : Hid (IsRow .i64 w a len cap r.but) := hr
  clear hr
  have HT : Hid (∀ n lo hi w, lo ≤ n ∧ n ≤ hi → Calls Tryz.prog 67 #[.int .i64 n, .int .i64 lo, .int .i64 hi] w fun x w' => x = .returned (.bool true) ∧ w' = w) := fun n lo hi w h => isWithin_t n lo hi h w
  have HN : Hid (∀ n lo hi w, ¬ (lo ≤ n ∧ n ≤ hi) → Calls Tryz.prog 67 #[.int .i64 n, .int .i64 lo, .int .i64 hi] w fun x w' => x = .returned (.bool false) ∧ w' = w) := fun n lo hi w h => isWithin_f n lo hi h w
  have HA : Hid (∀ w, IsRow .i64 w a len cap r.but → Calls Tryz.prog 88 #[.slice a len cap, .func (.func 76) #[] #[]] w fun e w' => SaysIf e (Asc r.but) ∧ ∃ q, w' = w.drewN q) := fun w h => ascendsInt a len cap r.but w h
  have HH : Hid (∀ w, IsRow .i64 w a len cap r.but → Calls Tryz.prog 89 #[.slice a len cap, .func (.func 80) #[] #[]] w fun e w' => SaysIf e (Ticks r.but) ∧ w' = w) := fun w h => allHoldTick a len cap r.but w h
  obtain ⟨ev, at_, fr, to_, but⟩ := r
  dsimp only at *
  go_enter Tryz.func101, Tryz.ntmps101
  go_upto_region 1 with fail
  go_cut [3] (fun t3 wx => ValIf t3 ((1 ≤ ev ∧ ev ≤ 1000) ∧ 0 ≤ at_ ∧ at_ ≤ ev - 1) ∧ wx = w.alloc (.cells #[.int .i64 ev, .int .i64 at_, .int .i64 fr, .int .i64 to_, .slice a len cap] 73))
  case first =>
    by_cases p1 : 1 ≤ ev ∧ ev ≤ 1000
    · by_cases p2 : 0 ≤ at_ ∧ at_ ≤ ev - 1
      · go_wp2_with (go_at_call 67; refine (HT.out _ _ _ _ (by omega)).mono ?_; rintro e w' ⟨rfl, rfl⟩)
        go_meet
        case rel => exact ⟨valIf_t ⟨p1, p2⟩, rfl⟩
      · go_wp2_with (go_at_call 67; first | (refine (HT.out _ _ _ _ (by omega)).mono ?_; rintro e w' ⟨rfl, rfl⟩) | (refine (HN.out _ _ _ _ (by omega)).mono ?_; rintro e w' ⟨rfl, rfl⟩))
        go_meet
        case rel => exact ⟨valIf_f (fun h => p2 h.2), rfl⟩
    · go_wp2_with (go_at_call 67; refine (HN.out _ _ _ _ (by omega)).mono ?_; rintro e w' ⟨rfl, rfl⟩)
      go_meet
      case rel => exact ⟨valIf_f (fun h => p1 h.1), rfl⟩
  case rest =>
    obtain ⟨⟨v1, rfl, hv1⟩, rfl⟩ := hcut
    have HV1 : Hid _ := hv1
    clear hv1
    go_upto_region 2 with fail
    go_cut [4] (fun t4 wx => ValIf t4 ((0 ≤ fr ∧ fr ≤ 100000) ∧ fr ≤ to_ ∧ to_ ≤ 100000) ∧ wx = w.alloc (.cells #[.int .i64 ev, .int .i64 at_, .int .i64 fr, .int .i64 to_, .slice a len cap] 73))
    case first =>
      by_cases p1 : 0 ≤ fr ∧ fr ≤ 100000
      · by_cases p2 : fr ≤ to_ ∧ to_ ≤ 100000
        · go_wp2_with (go_at_call 67; refine (HT.out _ _ _ _ (by omega)).mono ?_; rintro e w' ⟨rfl, rfl⟩)
          go_meet
          case rel => exact ⟨valIf_t ⟨p1, p2⟩, rfl⟩
        · go_wp2_with (go_at_call 67; first | (refine (HT.out _ _ _ _ (by omega)).mono ?_; rintro e w' ⟨rfl, rfl⟩) | (refine (HN.out _ _ _ _ (by omega)).mono ?_; rintro e w' ⟨rfl, rfl⟩))
          go_meet
          case rel => exact ⟨valIf_f (fun h => p2 h.2), rfl⟩
      · go_wp2_with (go_at_call 67; refine (HN.out _ _ _ _ (by omega)).mono ?_; rintro e w' ⟨rfl, rfl⟩)
        go_meet
        case rel => exact ⟨valIf_f (fun h => p1 h.1), rfl⟩
    case rest =>
      obtain ⟨⟨v2, rfl, hv2⟩, rfl⟩ := hcut
      have HV2 : Hid _ := hv2
      clear hv2
      go_upto_region 3 with fail
      go_cut [5] (fun t5 wx => ValIf t5 (but.length ≤ 8 ∧ Asc but ∧ Ticks but) ∧ ∃ q, wx = (w.alloc (.cells #[.int .i64 ev, .int .i64 at_, .int .i64 fr, .int .i64 to_, .slice a len cap] 73)).drewN q)
      case first =>
        by_cases p5 : len ≤ 8
        · go_wp2_with fail
          refine (HA.out _ (IsRow.alloc HR.out _)).mono ?_
          rintro e w1 ⟨⟨v, rfl, hv⟩, q, rfl⟩
          cases v with
          | true =>
            have HV : Hid (Asc but) := hv.1 rfl
            clear hv
            go_wp2_with fail
            refine (HH.out _ (isRow_drewN (IsRow.alloc HR.out _) q)).mono ?_
            rintro e w1 ⟨⟨v, rfl, hv⟩, rfl⟩
            cases v with
            | true =>
              have HVT : Hid (Ticks but) := hv.1 rfl
              clear hv
              go_wp2_with fail
              go_meet
              case rel => exact ⟨valIf_t ⟨by omega, HV.out, HVT.out⟩, _, rfl⟩
            | false =>
              have HVT : Hid (¬ Ticks but) := fun h => by have := hv.2 h; cases this
              clear hv
              go_wp2_with fail
              go_meet
              case rel => exact ⟨valIf_f (fun h => HVT.out h.2.2), _, rfl⟩
          | false =>
            have HV : Hid (¬ Asc but) := fun h => by have := hv.2 h; cases this
            clear hv
            go_wp2_with fail
            go_meet
            case rel => exact ⟨valIf_f (fun h => HV.out h.2.1), _, rfl⟩
        · go_wp2_with fail
          go_meet
          case rel => exact ⟨valIf_f (fun h => by have := h.1; omega), 0, rfl⟩
      case rest =>
        obtain ⟨⟨v3, rfl, hv3⟩, q, rfl⟩ := hcut
        have HV3 : Hid _ := hv3
        clear hv3
        have HF : Hid (ruleOk ⟨ev, at_, fr, to_, but⟩ = (v1 && v2 && v3)) := by
          show ruleOk _ = _
          by_cases h : RuleOk ⟨ev, at_, fr, to_, but⟩
          · rw [ruleOk_yes h]
            obtain ⟨h1, h2, h3, h4, h5, h6⟩ := h
            rw [HV1.out.2 ⟨h1, h2⟩, HV2.out.2 ⟨h3, h4⟩, HV3.out.2 ⟨h5, fun i hi h0 => (h6 i hi).2.2 h0, fun i hi => ⟨(h6 i hi).1, (h6 i hi).2.1⟩⟩]
            rfl
          · rw [ruleOk_no h]
            cases hv : (v1 && v2 && v3) with
            | false => rfl
            | true =>
              simp only [Bool.and_eq_true] at hv
              obtain ⟨h1, h2⟩ := HV1.out.1 hv.1.1
              obtain ⟨h3, h4⟩ := HV2.out.1 hv.1.2
              obtain ⟨h5, h6, h7⟩ := HV3.out.1 hv.2
              exact absurd ⟨h1, h2, h3, h4, h5, fun i hi => ⟨(h7 i hi).1, (h7 i hi).2, fun h0 => h6 i hi h0⟩⟩ h
        clear HV1 HV2 HV3
        cases v1 <;> cases v2 <;> cases v3
        all_goals
          go_wp2_with fail
          go_ret
          exact ⟨ret_bool HF.out.symm, below_drewN ((Below.refl _ _).alloc (Nat.le_refl _) _) _⟩
end Go.Proofs.YtghocdiddolinaaGreatDoor
