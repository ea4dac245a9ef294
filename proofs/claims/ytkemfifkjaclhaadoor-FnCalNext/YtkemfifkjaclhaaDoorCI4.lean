/- The program's own calendars: which ticks are due. -/
import Derived.Test.YtkemfifkjaclhaaDoorCI3
import Derived.Test.YtkemfifkjaclhaaDoorCA6a
namespace Go.Proofs.YtkemfifkjaclhaaDoor
set_option linter.unusedVariables false
set_option linter.unusedSimpArgs false
open Go.RowKit Go

/-- A place, or -1: whether it is there. -/
def IdxPost (x : Ending) (h : Bool) : Prop := (∃ n : Nat, x = .returned (.int .i64 n) ∧ h = true) ∨ (x = .returned (.int .i64 (-1)) ∧ h = false)

set_option maxHeartbeats 1000000 in
theorem slicesIndex (a : Option Addr) (len cap : Nat) (zs : List Int) (t : Int) (w : World) (hr : IsRow .i64 w a len cap zs) :
    Calls Tryd.prog 50 #[.slice a len cap, .int .i64 t] w fun x w' => IdxPost x (butHas zs t) ∧ w' = w := by
  obtain ⟨hz, hm⟩ := hr.len
  unfold maxLen at hm
  have HR : Hid (IsRow .i64 w a len cap zs) := hr
  clear hr
  go_enter Tryd.func50, Tryd.ntmps50
  go_wp2
  go_loop [8] (fun i => ∃ k : Nat, k ≤ len ∧ i = .int .i64 k ∧ ∀ i, i < k → zs.getD i 0 ≠ t) (fun i => len - (intOf i).toNat)
  case atStart => exact ⟨0, Nat.zero_le _, rfl, fun i h => by omega⟩
  case round =>
    obtain ⟨k, hk, rfl, hn⟩ := hrel
    have HN : Hid (∀ i, i < k → zs.getD i 0 ≠ t) := hn
    clear hn
    by_cases hlt : k < len
    · obtain ⟨b, off, rfl, h1, h2, hc⟩ := IsRow.at HR.out hlt
      by_cases he : zs.getD k 0 = t
      · have HF : Hid (butHas zs t = true) := butHas_yes (by omega) he
        rw [he] at hc
        go_wp2
        go_ret
        exact ⟨.inl ⟨k, rfl, HF.out⟩, rfl⟩
      · have HN1 : Hid (∀ i, i < k + 1 → zs.getD i 0 ≠ t) := fun i hi => by
          by_cases e : i = k
          · subst e; exact he
          · exact HN.out i (by omega)
        generalize zs.getD k 0 = z at hc he
        have hd : (t == z) = false := by simpa using fun e => he (Eq.symm e)
        go_wp2
        go_round
        case rel => exact ⟨k + 1, by omega, by go_num, HN1.out⟩
        case measure => simp [intOf]; omega
    · have HF : Hid (butHas zs t = false) := butHas_no fun i hi => HN.out i (by omega)
      go_wp2
      go_ret
      exact ⟨.inr ⟨rfl, HF.out⟩, rfl⟩

theorem slicesContains (a : Option Addr) (len cap : Nat) (zs : List Int) (t : Int) (w : World) (hr : IsRow .i64 w a len cap zs) :
    Calls Tryd.prog 38 #[.slice a len cap, .int .i64 t] w fun x w' => x = .returned (.bool (butHas zs t)) ∧ w' = w := by
  have HI : Hid _ := slicesIndex a len cap zs t w hr
  clear hr
  go_enter Tryd.func38, Tryd.ntmps38
  go_wp2_with fail
  refine Calls.mono HI.out ?_
  rintro e w1 ⟨(⟨n, rfl, hb⟩ | ⟨rfl, hb⟩), hw⟩
  · subst w1
    have HB : Hid _ := hb
    clear hb
    have hd : decide ((0 : Int) ≤ (n : Int)) = true := decide_eq_true (by omega)
    go_wp2_with fail
    go_ret
    exact ⟨ret_bool HB.out.symm, rfl⟩
  · subst w1
    have HB : Hid _ := hb
    clear hb
    go_wp2_with fail
    go_ret
    exact ⟨ret_bool HB.out.symm, rfl⟩

set_option maxRecDepth 4000 in
set_option maxHeartbeats 2000000 in
theorem hasTick (r : Rul) (a : Option Addr) (len cap : Nat) (t : Int) (w : World) (hr : IsRow .i64 w a len cap r.but) (hok : RuleOk r) :
    Calls Tryd.prog 23 #[.agg #[.int .i64 r.ev, .int .i64 r.at_, .int .i64 r.fr, .int .i64 r.to_, .slice a len cap], .int .i64 t] w fun x w' => x = .returned (.bool (ofRule r t)) ∧ Below w.heap.size w w' := by
  have HBT : Hid (∀ w, IsRow .i64 w a len cap r.but → Calls Tryd.prog 38 #[.slice a len cap, .int .i64 t] w fun x w' => x = .returned (.bool (butHas r.but t)) ∧ w' = w) := fun w h => slicesContains a len cap r.but t w h
  have HR : Hid (IsRow .i64 w a len cap r.but) := hr
  clear hr
  have HI := fun w => isWithin t r.fr r.to_ w
  obtain ⟨⟨e1, e2⟩, ⟨a1, a2⟩, ⟨f1, f2⟩, ⟨t1, t2⟩, _, _⟩ := hok
  obtain ⟨ev, at_, fr, to_, but⟩ := r
  dsimp only at *
  by_cases p1 : fr ≤ t ∧ t ≤ to_
  · rw [decide_eq_true p1] at HI
    have HI : Hid _ := HI
    have ht0 : 0 ≤ t := by omega
    by_cases p2 : t % ev = at_
    · by_cases p3 : butHas but t = true
      · rw [p3] at HBT
        have HF : Hid (ofRule ⟨ev, at_, fr, to_, but⟩ t = false) := decide_eq_false fun h => h.2.2 (by simpa [butHas] using p3)
        go_enter Tryd.func23, Tryd.ntmps23
        go_wp2_with fail
        go_quiet (first
          | (go_at_call 37; exact Calls.quiet_of_same (HI.out _))
          | (go_at_call 38; exact Calls.quiet_of_same (HBT.out _ (isRow_drewN (IsRow.alloc HR.out _) _))))
        go_wp2_with fail
        go_ret
        exact ⟨ret_bool HF.out.symm, below_drewN ((Below.refl _ _).alloc (Nat.le_refl _) _) _⟩
      · have p3 : butHas but t = false := by simpa using p3
        rw [p3] at HBT
        have HF : Hid (ofRule ⟨ev, at_, fr, to_, but⟩ t = true) := decide_eq_true ⟨p1, p2, by simpa [butHas] using p3⟩
        go_enter Tryd.func23, Tryd.ntmps23
        go_wp2_with fail
        go_quiet (first
          | (go_at_call 37; exact Calls.quiet_of_same (HI.out _))
          | (go_at_call 38; exact Calls.quiet_of_same (HBT.out _ (isRow_drewN (IsRow.alloc HR.out _) _))))
        go_wp2_with fail
        go_ret
        exact ⟨ret_bool HF.out.symm, below_drewN ((Below.refl _ _).alloc (Nat.le_refl _) _) _⟩
    · have HF : Hid (ofRule ⟨ev, at_, fr, to_, but⟩ t = false) := decide_eq_false fun h => p2 h.2.1
      have hm : t.tmod ev = t % ev := Int.tmod_eq_emod_of_nonneg ht0
      have hq : (t.tmod ev == at_) = false := by rw [hm]; simpa using p2
      have hq2 : (t % ev == at_) = false := by simpa using p2
      have hv : ev ≠ 0 := by omega
      clear hm
      go_enter Tryd.func23, Tryd.ntmps23
      go_wp2_with fail
      go_quiet ((go_at_call 37; exact Calls.quiet_of_same (HI.out _)))
      go_wp2_with fail
      go_ret
      exact ⟨ret_bool HF.out.symm, below_drewN ((Below.refl _ _).alloc (Nat.le_refl _) _) _⟩
  · rw [decide_eq_false p1] at HI
    have HI : Hid _ := HI
    have HF : Hid (ofRule ⟨ev, at_, fr, to_, but⟩ t = false) := decide_eq_false fun h => p1 h.1
    go_enter Tryd.func23, Tryd.ntmps23
    go_wp2_with fail
    go_quiet ((go_at_call 37; exact Calls.quiet_of_same (HI.out _)))
    go_wp2_with fail
    go_ret
    exact ⟨ret_bool HF.out.symm, below_drewN ((Below.refl _ _).alloc (Nat.le_refl _) _) _⟩
end Go.Proofs.YtkemfifkjaclhaaDoor
