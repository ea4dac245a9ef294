/- The program's own calendars: what is found wrong with them. -/
import Derived.Test.YtkemfifkjaclhaaGreatDoorJ29
import Derived.Deep.CutBlock
import Derived.Deep.DeepCutAuto
import Derived.Test.YtkemfifkjaclhaaGreatDoorJ12
namespace Go.Proofs.YtkemfifkjaclhaaGreatDoor
set_option linter.unusedVariables false
set_option linter.unusedSimpArgs false
open Go.RowKit Go

/-- A value that is whether P. -/
def ValIf (t : Value) (P : Prop) : Prop := ∃ v : Bool, t = .bool v ∧ (v = true ↔ P)
theorem valIf_t {P : Prop} (h : P) : ValIf (.bool true) P := ⟨true, rfl, by simp [h]⟩
theorem valIf_f {P : Prop} (h : ¬ P) : ValIf (.bool false) P := ⟨false, rfl, by simp [h]⟩
theorem isRow_drewN {k : IntKind} {w : World} {a : Option Addr} {len cap : Nat} {zs : List Int} (h : IsRow k w a len cap zs) (q : Nat) : IsRow k (w.drewN q) a len cap zs := h.below (below_drewN (Below.refl _ _) q)

set_option maxRecDepth 4000 in
set_option maxHeartbeats 2000000 in
theorem implRuleOk (r : Rul) (a : Option Addr) (len cap : Nat) (w : World) (hr : IsRow .i64 w a len cap r.but) :
    Calls Tryz.prog 48 #[.agg #[.int .i64 r.ev, .int .i64 r.at_, .int .i64 r.fr, .int .i64 r.to_, .slice a len cap]] w fun x w' => x = .returned (.bool (ruleOk r)) ∧ Below w.heap.size w w' := by
  obtain ⟨hz, hm⟩ := hr.len
  unfold maxLen at hm
  have HR : Hid (IsRow .i64 w a len cap r.but) := hr
  clear hr
  have HT : Hid (∀ n lo hi w, lo ≤ n ∧ n ≤ hi → Calls Tryz.prog 47 #[.int .i64 n, .int .i64 lo, .int .i64 hi] w fun x w' => x = .returned (.bool true) ∧ w' = w) := fun n lo hi w h => isWithin_t n lo hi h w
  have HN : Hid (∀ n lo hi w, ¬ (lo ≤ n ∧ n ≤ hi) → Calls Tryz.prog 47 #[.int .i64 n, .int .i64 lo, .int .i64 hi] w fun x w' => x = .returned (.bool false) ∧ w' = w) := fun n lo hi w h => isWithin_f n lo hi h w
  have HA : Hid (∀ w, IsRow .i64 w a len cap r.but → Calls Tryz.prog 62 #[.slice a len cap, .func (.func 63) #[] #[]] w fun e w' => SaysIf e (Asc r.but) ∧ ∃ q, w' = w.drewN q) := fun w h => ascendsInt a len cap r.but w h
  have HH : Hid (∀ w, IsRow .i64 w a len cap r.but → Calls Tryz.prog 64 #[.slice a len cap, .func (.func 65) #[] #[]] w fun e w' => SaysIf e (Ticks r.but) ∧ w' = w) := fun w h => allHoldTick a len cap r.but w h
  obtain ⟨ev, at_, fr, to_, but⟩ := r
  dsimp only at *
  go_enter Tryz.func48, Tryz.ntmps48
  go_upto_region 1 with fail
  go_cut [3] (fun t3 wx => ValIf t3 ((1 ≤ ev ∧ ev ≤ 1000) ∧ 0 ≤ at_ ∧ at_ ≤ ev - 1) ∧ wx = w.alloc (.cells #[.int .i64 ev, .int .i64 at_, .int .i64 fr, .int .i64 to_, .slice a len cap] 50))
  case first =>
    by_cases p1 : 1 ≤ ev ∧ ev ≤ 1000
    · by_cases p2 : 0 ≤ at_ ∧ at_ ≤ ev - 1
      · go_wp2_with (go_at_call 47; refine (HT.out _ _ _ _ (by omega)).mono ?_; rintro e w' ⟨rfl, rfl⟩)
        go_meet
        case rel => exact ⟨valIf_t ⟨p1, p2⟩, rfl⟩
      · go_wp2_with (go_at_call 47; first | (refine (HT.out _ _ _ _ (by omega)).mono ?_; rintro e w' ⟨rfl, rfl⟩) | (refine (HN.out _ _ _ _ (by omega)).mono ?_; rintro e w' ⟨rfl, rfl⟩))
        go_meet
        case rel => exact ⟨valIf_f (fun h => p2 h.2), rfl⟩
    · go_wp2_with (go_at_call 47; refine (HN.out _ _ _ _ (by omega)).mono ?_; rintro e w' ⟨rfl, rfl⟩)
      go_meet
      case rel => exact ⟨valIf_f (fun h => p1 h.1), rfl⟩
  case rest =>
    obtain ⟨⟨v1, rfl, hv1⟩, rfl⟩ := hcut
    have HV1 : Hid _ := hv1
    clear hv1
    go_upto_region 2 with fail
    go_cut [4] (fun t4 wx => ValIf t4 ((0 ≤ fr ∧ fr ≤ 100000) ∧ fr ≤ to_ ∧ to_ ≤ 100000) ∧ wx = w.alloc (.cells #[.int .i64 ev, .int .i64 at_, .int .i64 fr, .int .i64 to_, .slice a len cap] 50))
    case first =>
      by_cases p1 : 0 ≤ fr ∧ fr ≤ 100000
      · by_cases p2 : fr ≤ to_ ∧ to_ ≤ 100000
        · go_wp2_with (go_at_call 47; refine (HT.out _ _ _ _ (by omega)).mono ?_; rintro e w' ⟨rfl, rfl⟩)
          go_meet
          case rel => exact ⟨valIf_t ⟨p1, p2⟩, rfl⟩
        · go_wp2_with (go_at_call 47; first | (refine (HT.out _ _ _ _ (by omega)).mono ?_; rintro e w' ⟨rfl, rfl⟩) | (refine (HN.out _ _ _ _ (by omega)).mono ?_; rintro e w' ⟨rfl, rfl⟩))
          go_meet
          case rel => exact ⟨valIf_f (fun h => p2 h.2), rfl⟩
      · go_wp2_with (go_at_call 47; refine (HN.out _ _ _ _ (by omega)).mono ?_; rintro e w' ⟨rfl, rfl⟩)
        go_meet
        case rel => exact ⟨valIf_f (fun h => p1 h.1), rfl⟩
    case rest =>
      obtain ⟨⟨v2, rfl, hv2⟩, rfl⟩ := hcut
      have HV2 : Hid _ := hv2
      clear hv2
      go_upto_region 3 with fail
      go_cut [5] (fun t5 wx => ValIf t5 (but.length ≤ 8 ∧ Asc but ∧ Ticks but) ∧ ∃ q, wx = (w.alloc (.cells #[.int .i64 ev, .int .i64 at_, .int .i64 fr, .int .i64 to_, .slice a len cap] 50)).drewN q)
      case first =>
        by_cases p5 : len ≤ 8
        · go_wp2_with fail
          refine (HA.out _ (IsRow.alloc HR.out _)).mono ?_
          rintro e w1 ⟨⟨v, rfl, hv⟩, q, rfl⟩
          cases v with
          | true =>
            have HV : Hid (Asc but) := hv.1 rfl
            clear hv
            go_wp2_with fail
            refine (HH.out _ (isRow_drewN (IsRow.alloc HR.out _) q)).mono ?_
            rintro e w1 ⟨⟨v, rfl, hv⟩, rfl⟩
            cases v with
            | true =>
              have HVT : Hid (Ticks but) := hv.1 rfl
              clear hv
              go_wp2_with fail
              go_meet
              case rel => exact ⟨valIf_t ⟨by omega, HV.out, HVT.out⟩, _, rfl⟩
            | false =>
              have HVT : Hid (¬ Ticks but) := fun h => by have := hv.2 h; cases this
              clear hv
              go_wp2_with fail
              go_meet
              case rel => exact ⟨valIf_f (fun h => HVT.out h.2.2), _, rfl⟩
          | false =>
            have HV : Hid (¬ Asc but) := fun h => by have := hv.2 h; cases this
            clear hv
            go_wp2_with fail
            go_meet
            case rel => exact ⟨valIf_f (fun h => HV.out h.2.1), _, rfl⟩
        · go_wp2_with fail
          go_meet
          case rel => exact ⟨valIf_f (fun h => by have := h.1; omega), 0, rfl⟩
      case rest =>
        obtain ⟨⟨v3, rfl, hv3⟩, q, rfl⟩ := hcut
        have HV3 : Hid _ := hv3
        clear hv3
        have HF : Hid (ruleOk ⟨ev, at_, fr, to_, but⟩ = (v1 && v2 && v3)) := by
          show ruleOk _ = _
          by_cases h : RuleOk ⟨ev, at_, fr, to_, but⟩
          · rw [ruleOk_yes h]
            obtain ⟨h1, h2, h3, h4, h5, h6⟩ := h
            rw [HV1.out.2 ⟨h1, h2⟩, HV2.out.2 ⟨h3, h4⟩, HV3.out.2 ⟨h5, fun i hi h0 => (h6 i hi).2.2 h0, fun i hi => ⟨(h6 i hi).1, (h6 i hi).2.1⟩⟩]
            rfl
          · rw [ruleOk_no h]
            cases hv : (v1 && v2 && v3) with
            | false => rfl
            | true =>
              simp only [Bool.and_eq_true] at hv
              obtain ⟨h1, h2⟩ := HV1.out.1 hv.1.1
              obtain ⟨h3, h4⟩ := HV2.out.1 hv.1.2
              obtain ⟨h5, h6, h7⟩ := HV3.out.1 hv.2
              exact absurd ⟨h1, h2, h3, h4, h5, fun i hi => ⟨(h7 i hi).1, (h7 i hi).2, fun h0 => h6 i hi h0⟩⟩ h
        clear HV1 HV2 HV3
        cases v1 <;> cases v2 <;> cases v3
        all_goals
          go_wp2_with fail
          go_ret
          exact ⟨ret_bool HF.out.symm, below_drewN ((Below.refl _ _).alloc (Nat.le_refl _) _) _⟩
end Go.Proofs.YtkemfifkjaclhaaGreatDoor

namespace Go.Proofs.YtkemfifkjaclhaaGreatDoor
set_option linter.unusedVariables false
set_option linter.unusedSimpArgs false
open Go.RowKit Go

/-- What is found wrong with rules: nothing, just if they are ok. -/
def Looked (e : Ending) (rs : List Rul) : Prop := (e = .returned .nilIface ∧ calOk rs = true) ∨ ∃ z : Int, e = .returned (.iface 40 (.agg #[.int .i64 z])) ∧ calOk rs = false

set_option maxHeartbeats 1000000 in
theorem lookedAtRules (a : Option Addr) (len cap : Nat) (rs : List Rul) (w : World) (hr : IsRuls w a len cap rs) :
    Calls Tryz.prog 29 #[.slice a len cap] w fun e w' => Looked e rs ∧ Below w.heap.size w w' := by
  obtain ⟨hz, hm⟩ := IsRecs.len hr
  unfold maxLen at hm
  have HR : Hid (IsRuls w a len cap rs) := hr
  clear hr
  have HT : Hid (∀ n lo hi w, lo ≤ n ∧ n ≤ hi → Calls Tryz.prog 47 #[.int .i64 n, .int .i64 lo, .int .i64 hi] w fun x w' => x = .returned (.bool true) ∧ w' = w) := fun n lo hi w h => isWithin_t n lo hi h w
  have HN : Hid (∀ n lo hi w, ¬ (lo ≤ n ∧ n ≤ hi) → Calls Tryz.prog 47 #[.int .i64 n, .int .i64 lo, .int .i64 hi] w fun x w' => x = .returned (.bool false) ∧ w' = w) := fun n lo hi w h => isWithin_f n lo hi h w
  by_cases hn : (1 : Int) ≤ (len : Int) ∧ (len : Int) ≤ 4
  · go_enter Tryz.func29, Tryz.ntmps29
    go_wp2_with (go_at_call 47; refine (HT.out _ _ _ _ hn).mono ?_; rintro e w1 ⟨rfl, hw⟩; subst w1)
    go_loopw [13] (fun i wr => ∃ q : Nat, i = .int .i64 q ∧ q ≤ len ∧ (∀ i (hi : i < rs.length), i < q → ruleOk rs[i] = true) ∧ Below w.heap.size w wr) (fun i _ => len - (intOf i).toNat)
    case atStart => exact ⟨0, rfl, Nat.zero_le _, fun i _ h => by omega, Below.refl _ _⟩
    case round =>
      obtain ⟨q, rfl, hq, hok, hb⟩ := hrel
      by_cases hlt : q < len
      · obtain ⟨b, off, rfl, h1, hbl, a1, l1, k1, c0, c1, c2, c3, c4, hrow1, _⟩ := IsRuls.at (IsRuls.below HR.out hb) (i := q) (by omega)
        have HE := fun o => implRuleOk rs[q] a1 l1 k1 (wr.alloc o) (hrow1.alloc o)
        by_cases hy : ruleOk rs[q] = true
        · have HOK : Hid (∀ i (hi : i < rs.length), i < q + 1 → ruleOk rs[i] = true) := fun i hi hiq => by
            by_cases e : i = q
            · subst e; exact hy
            · exact hok i hi (by omega)
          rw [hy] at HE
          have HE : Hid _ := HE
          clear hok hy
          go_wp2_with fail
          refine Calls.mono (HE.out _) ?_
          rintro e w1 ⟨rfl, hw1⟩
          go_wp2_with fail
          go_roundw
          case rel => exact ⟨q + 1, by go_num, by omega, HOK.out, bcall (hb.alloc hb.size _) (by have := hb.size; simp; omega) hw1⟩
          case measure => simp [intOf]; omega
        · have hy : ruleOk rs[q] = false := by simpa using hy
          have HF : Hid (calOk rs = false) := calOk_no (by omega) hy
          rw [hy] at HE
          have HE : Hid _ := HE
          clear hok hy
          go_wp2_with fail
          refine Calls.mono (HE.out _) ?_
          rintro e w1 ⟨rfl, hw1⟩
          go_wp2_with fail
          go_ret
          exact ⟨.inr ⟨_, rfl, HF.out⟩, bcall (hb.alloc hb.size _) (by have := hb.size; simp; omega) hw1⟩
      · have hf := calOk_all fun i hi => hok i hi (by omega)
        rw [hz, decide_eq_true hn] at hf
        have HF : Hid (calOk rs = true) := hf
        clear hok hf
        go_wp2_with fail
        go_ret
        exact ⟨.inl ⟨rfl, HF.out⟩, hb⟩
  · have HF : Hid (calOk rs = false) := by
      show calOk rs = false
      unfold calOk
      rw [hz, decide_eq_false hn, Bool.and_false]
    go_enter Tryz.func29, Tryz.ntmps29
    go_wp2_with (go_at_call 47; refine (HN.out _ _ _ _ hn).mono ?_; rintro e w1 ⟨rfl, hw⟩; subst w1)
    go_ret
    exact ⟨.inr ⟨0, rfl, HF.out⟩, Below.refl _ _⟩
end Go.Proofs.YtkemfifkjaclhaaGreatDoor
