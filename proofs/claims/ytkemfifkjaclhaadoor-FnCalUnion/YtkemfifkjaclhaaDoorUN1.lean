/- Two calendars put together: the law of FnCalUnion. -/
import Derived.Test.YtkemfifkjaclhaaDoorDR8
import Derived.Test.YtkemfifkjaclhaaDoorCI5
import Derived.Test.YtkemfifkjaclhaaDoorCA6
namespace Go.Proofs.YtkemfifkjaclhaaDoor
set_option linter.unusedVariables false
set_option linter.unusedSimpArgs false
open Go.RowKit Go

theorem calOk_take {rs : List Rul} (h : calOk rs = true) {k : Nat} (hk : 0 < k) : calOk (rs.take k) = true := by
  simp only [calOk, Bool.and_eq_true, decide_eq_true_eq, List.all_eq_true, List.length_take] at h ⊢
  exact ⟨fun r hr => h.1 r (List.mem_of_mem_take hr), by omega⟩
theorem calOk_drop {rs : List Rul} (h : calOk rs = true) {k : Nat} (hk : k < rs.length) : calOk (rs.drop k) = true := by
  simp only [calOk, Bool.and_eq_true, decide_eq_true_eq, List.all_eq_true, List.length_drop] at h ⊢
  exact ⟨fun r hr => h.1 r (List.mem_of_mem_drop hr), by omega⟩
/-- Due by both together: due by either. -/
theorem calDue_union {rs : List Rul} (h : calOk rs = true) (k : Nat) (hk : k ≤ rs.length) (t : Int) : calDue rs t = (calDue (rs.take k) t || calDue (rs.drop k) t) := by
  have h1 : calDue (rs.take k) t = due (rs.take k) t := by
    by_cases h0 : k = 0
    · subst h0; simp [calDue, due, calOk]
    · rw [calDue, calOk_take h (by omega), Bool.true_and]
  have h2 : calDue (rs.drop k) t = due (rs.drop k) t := by
    by_cases h0 : k = rs.length
    · subst h0; simp [calDue, due, calOk]
    · rw [calDue, calOk_drop h (by omega), Bool.true_and]
  rw [h1, h2, calDue, h, Bool.true_and]
  simp only [due]
  rw [← List.any_append, List.take_append_drop]
/-- A part of rules. -/
theorem ruls_take {w : World} {a : Option Addr} {n c : Nat} {rs : List Rul} (h : IsRuls w a n c rs) {k : Nat} (hk : k ≤ n) : IsRuls w a k c (rs.take k) := by
  obtain ⟨h1, h2, h3, h4⟩ := h
  refine ⟨by rw [List.length_take]; omega, by omega, h3, fun hl => ?_⟩
  obtain ⟨b, off, e, hb, hc⟩ := h4 (by omega)
  refine ⟨b, off, e, hb, fun i hi => ?_⟩
  rw [List.length_take] at hi
  rw [List.getElem_take]
  exact hc i (by omega)
theorem ruls_drop {w : World} {a : Option Addr} {n c : Nat} {rs : List Rul} (h : IsRuls w a n c rs) {k : Nat} (hk : k ≤ n) : IsRuls w (a.map fun x => x.add (k * 5)) (n - k) (c - k) (rs.drop k) := by
  obtain ⟨h1, h2, h3, h4⟩ := h
  refine ⟨by rw [List.length_drop]; omega, by omega, by omega, fun hl => ?_⟩
  obtain ⟨b, off, e, hb, hc⟩ := h4 (by omega)
  subst e
  refine ⟨b, off + k * 5, by simp [Addr.add], hb, fun i hi => ?_⟩
  rw [List.length_drop] at hi
  obtain ⟨vs, hv, hcell, hp⟩ := hc (k + i) (by omega)
  refine ⟨vs, hv, fun j hj => ?_, by rw [List.getElem_drop]; exact hp⟩
  rw [← hcell j hj]
  congr 2
  simp only [Nat.add_mul]; omega
theorem ruls_none {w : World} {a : Option Addr} {n c : Nat} {rs : List Rul} (h : IsRuls w a n c rs) {k : Nat} (hk : k ≤ n) (h0 : c - k = 0) : IsRuls w a (n - k) 0 (rs.drop k) := by
  obtain ⟨h1, h2, h3, h4⟩ := h
  exact ⟨by rw [List.length_drop]; omega, by omega, by omega, fun hl => by omega⟩

set_option maxRecDepth 4000 in
set_option maxHeartbeats 2000000 in
theorem lawCalUnion (a : Option Addr) (l c : Nat) (bs : List Int) (a2 : Option Addr) (l2 c2 : Nat) (bs2 : List Int) (w : World) (h : IsRow .u8 w a l c bs) (h2 : IsRow .u8 w a2 l2 c2 bs2) (hE : ErrT w) :
    Calls Tryd.prog 4 #[.slice a l c, .slice a2 l2 c2] w fun e w' => e = .returned (.bool true) ∧ Below w.heap.size w w' := by
  have hl := h.len.2
  have hl2 := h2.len.2
  clear h2
  unfold maxLen at hl hl2
  by_cases hb1 : 1048576 < l
  · have d1 : decide ((1048576 : Int) < (l : Int)) = true := decide_eq_true (by omega)
    go_enter Tryd.func4, Tryd.ntmps4
    go_wp2_with fail
    go_ret
    exact ⟨rfl, Below.refl _ _⟩
  have d1 : decide ((1048576 : Int) < (l : Int)) = false := decide_eq_false (by omega)
  by_cases hb2 : 1048576 < l2
  · have d2 : decide ((1048576 : Int) < (l2 : Int)) = true := decide_eq_true (by omega)
    go_enter Tryd.func4, Tryd.ntmps4
    go_wp2_with fail
    go_ret
    exact ⟨rfl, Below.refl _ _⟩
  have d2 : decide ((1048576 : Int) < (l2 : Int)) = false := decide_eq_false (by omega)
  have HD : Hid (Calls Tryd.prog 13 #[.slice a l c] w fun e w' => Dr.Drawn w e w') := Dr.dDrawCalDue a l c bs w h
  have HE : Hid (ErrT w) := hE
  clear h hE
  go_enter Tryd.func4, Tryd.ntmps4
  go_wp2_with fail
  refine Calls.mono HD.out ?_
  rintro e w1 ⟨rs, av, cv, t, rfl, hru, hn6, ht1, ht2, hbw⟩
  have B1 : Hid (Below w.heap.size w w1) := hbw
  have RU : Hid (∀ W, Below w1.heap.size w1 W → IsRuls W av rs.length cv rs) := fun W hb => hru.below hb
  have EE : Hid (∀ W, Below w1.heap.size w1 W → ErrT W) := fun W hb => (HE.out.below B1.out).below hb
  have hcap : rs.length ≤ cv := hru.2.1
  have hcm : cv ≤ 9223372036854775807 := by have := hru.2.2.1; unfold maxLen at this; exact this
  clear hru hbw HD HE
  obtain ⟨k, hk, hkn⟩ : ∃ k : Nat, (l2 : Int).tmod ((rs.length : Int) + 1) = (k : Int) ∧ k ≤ rs.length := ⟨l2 % (rs.length + 1), (by rw [Int.tmod_eq_emod_of_nonneg (by omega), show ((rs.length : Int) + 1) = ((rs.length + 1 : Nat) : Int) by omega, ← Int.natCast_emod]), Nat.lt_succ_iff.1 (Nat.mod_lt l2 (Nat.succ_pos rs.length))⟩
  have hwn : IntKind.i64.wrap ((rs.length : Int) + 1) = (rs.length : Int) + 1 := by rw [IntKind.wrap_i64]; omega
  have hwk : IntKind.i64.wrap (k : Int) = (k : Int) := by rw [IntKind.wrap_i64]; omega
  have ID : Hid (∀ W, Below w1.heap.size w1 W → Calls Tryd.prog 8 #[.slice av rs.length cv, .int .i64 t] W fun e w' => e = .returned (.bool (calDue rs t)) ∧ Below W.heap.size W w') := fun W hb => implCalDue av rs.length cv rs t W (RU.out W hb) (EE.out W hb)
  have SD : Hid (∀ W, Below w1.heap.size w1 W → Calls Tryd.prog 9 #[.slice av rs.length cv, .int .i64 t] W fun e w' => e = .returned (.bool (calDue rs t)) ∧ Below W.heap.size W w') := fun W hb => specCalDue av rs.length cv rs t W (RU.out W hb)
  have IO : Hid (∀ W, Below w1.heap.size w1 W → Calls Tryd.prog 14 #[.slice av rs.length cv] W fun e w' => e = .returned (.bool (calOk rs)) ∧ Below W.heap.size W w') := fun W hb => implCalOk av rs.length cv rs W (RU.out W hb) (EE.out W hb)
  have SO : Hid (∀ W, Below w1.heap.size w1 W → Calls Tryd.prog 15 #[.slice av rs.length cv] W fun e w' => e = .returned (.bool (calOk rs)) ∧ Below W.heap.size W w') := fun W hb => specCalOk av rs.length cv rs W (RU.out W hb)
  have I1 : Hid (∀ W, Below w1.heap.size w1 W → Calls Tryd.prog 8 #[.slice av k cv, .int .i64 t] W fun e w' => e = .returned (.bool (calDue (rs.take k) t)) ∧ Below W.heap.size W w') := fun W hb => implCalDue av k cv (rs.take k) t W (ruls_take (RU.out W hb) hkn) (EE.out W hb)
  have OK1 : Hid (calOk rs = false → calDue rs t = false) := fun h => by rw [calDue, h, Bool.false_and]
  have OK2 : Hid (calOk rs = true → calDue rs t = (calDue (rs.take k) t || calDue (rs.drop k) t)) := fun h => calDue_union h k hkn t
  generalize calDue rs t = dd at ID SD OK1 OK2
  generalize calOk rs = oo at IO SO OK1 OK2
  generalize calDue (rs.take k) t = d3 at I1 OK2
  go_wp2_with fail
  refine (ID.out _ (Below.refl _ _)).mono ?_
  rintro e w2 ⟨rfl, hb2'⟩
  have B2 : Hid (Below w1.heap.size w1 w2) := hb2'
  clear hb2'
  go_wp2_with first
    | (go_at_call 9; refine (SD.out _ B2.out).mono ?_; rintro e w3 ⟨rfl, hb3⟩; have B3 : Hid (Below w1.heap.size w1 w3) := bcall B2.out B2.out.size hb3; clear hb3)
    | (go_at_call 14; refine (IO.out _ B3.out).mono ?_; rintro e w4 ⟨rfl, hb4⟩; have B4 : Hid (Below w1.heap.size w1 w4) := bcall B3.out B3.out.size hb4; clear hb4)
    | (go_at_call 15; refine (SO.out _ (by first | exact B4.out | exact B5.out)).mono ?_; rintro e w5 ⟨rfl, hb5⟩; have B5 : Hid (Below w1.heap.size w1 w5) := bcall B4.out B4.out.size hb5; clear hb5)
  refine (SO.out _ B5.out).mono ?_
  rintro e w6 ⟨rfl, hb6⟩
  have B6 : Hid (Below w1.heap.size w1 w6) := bcall B5.out B5.out.size hb6
  clear hb6
  cases oo
  · have e := OK1.out rfl
    subst e
    go_wp2_with fail
    go_ret
    exact ⟨rfl, bcall B1.out B1.out.size B6.out⟩
  · have e := OK2.out rfl
    subst e
    go_wp2_with fail
    refine (I1.out _ B6.out).mono ?_
    rintro e w7 ⟨rfl, hb7⟩
    have B7 : Hid (Below w1.heap.size w1 w7) := bcall B6.out B6.out.size hb7
    clear hb7
    cases d3
    · have I2 : Hid (∀ W, Below w1.heap.size w1 W → Calls Tryd.prog 8 #[.slice (av.map fun x => x.add (k * 5)) (rs.length - k) (cv - k), .int .i64 t] W fun e w' => e = .returned (.bool (calDue (rs.drop k) t)) ∧ Below W.heap.size W w') := fun W hb => implCalDue _ _ _ (rs.drop k) t W (ruls_drop (RU.out W hb) hkn) (EE.out W hb)
      have I3 : Hid (∀ W, Below w1.heap.size w1 W → cv - k = 0 → Calls Tryd.prog 8 #[.slice av (rs.length - k) 0, .int .i64 t] W fun e w' => e = .returned (.bool (calDue (rs.drop k) t)) ∧ Below W.heap.size W w') := fun W hb h0 => implCalDue _ _ _ (rs.drop k) t W (ruls_none (RU.out W hb) hkn h0) (EE.out W hb)
      generalize calDue (rs.drop k) t = d4 at I2 I3
      go_wp2_with fail
      · refine (I3.out _ B7.out (by omega)).mono ?_
        rintro e w8 ⟨rfl, hb8⟩
        have B8 : Hid (Below w1.heap.size w1 w8) := bcall B7.out B7.out.size hb8
        clear hb8
        cases d4
        all_goals
          go_wp2_with fail
          go_ret
          exact ⟨rfl, bcall B1.out B1.out.size B8.out⟩
      · refine (I2.out _ B7.out).mono ?_
        rintro e w8 ⟨rfl, hb8⟩
        have B8 : Hid (Below w1.heap.size w1 w8) := bcall B7.out B7.out.size hb8
        clear hb8
        cases d4
        all_goals
          go_wp2_with fail
          go_ret
          exact ⟨rfl, bcall B1.out B1.out.size B8.out⟩
    · go_wp2_with fail
      go_ret
      exact ⟨rfl, bcall B1.out B1.out.size B7.out⟩
end Go.Proofs.YtkemfifkjaclhaaDoor
