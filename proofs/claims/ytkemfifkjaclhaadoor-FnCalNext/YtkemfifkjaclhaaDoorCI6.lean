/- The program's own calendars: the first tick of a rule above one. -/
import Derived.Test.YtkemfifkjaclhaaDoorCI4
import Derived.Test.YtkemfifkjaclhaaDoorCA9
namespace Go.Proofs.YtkemfifkjaclhaaDoor
set_option linter.unusedVariables false
set_option linter.unusedSimpArgs false
open Go.RowKit Go

/-- What modulo answers. -/
theorem mod_walk {e n : Int} (he : 1 ≤ e ∧ e ≤ 1000) (hn : -200000 ≤ n ∧ n ≤ 200000) : (wrap64 (n.tmod e + e)).tmod e = n % e := by
  have h0 : n.tmod e % e = n % e := by
    have h1 := Int.mul_tdiv_add_tmod n e
    conv => rhs; rw [← h1]
    rw [Int.add_comm, Int.add_mul_emod_self_left]
  have hlo : -e < n.tmod e := by
    by_cases h : 0 ≤ n
    · have := Int.tmod_nonneg e h; omega
    · have h2 : n.tmod e = -((-n).tmod e) := by rw [Int.neg_tmod]; omega
      have h3 := Int.tmod_lt_of_pos (-n) (show 0 < e by omega)
      omega
  have hhi : n.tmod e < e := Int.tmod_lt_of_pos n (by omega)
  rw [wrap64_id _ (by omega) (by omega), Int.tmod_eq_emod_of_nonneg (by omega), Int.add_emod_right, h0]

theorem modulo (e n : Int) (he : 1 ≤ e ∧ e ≤ 1000) (hn : -200000 ≤ n ∧ n ≤ 200000) (w : World) :
    Calls Tryd.prog 46 #[.int .i64 n, .int .i64 e] w fun x w' => x = .returned (.int .i64 (n % e)) ∧ w' = w := by
  have HM : Hid ((wrap64 (n.tmod e + e)).tmod e = n % e) := mod_walk he hn
  have hv : ¬ e = 0 := by omega
  have hv2 : (e == 0) = false := by simpa using hv
  go_enter Tryd.func46, Tryd.ntmps46
  go_wp2
  go_ret
  refine ⟨?_, rfl⟩
  rw [← HM.out]
  rfl

theorem up_eq {e a x : Int} : x + (a - x) % e = upTo e a x := by
  unfold upTo
  rw [Int.add_emod_right]
  have h1 := Int.emod_add_mul_ediv x e
  have : a - x = (a - x % e) + e * (-(x / e)) := by rw [Int.mul_neg]; omega
  rw [this, Int.add_mul_emod_self_left]

theorem none_step' {r : Rul} {t x : Int} (he : 1 ≤ r.ev) (h : NoneTo (OfRule r) t x) (hx : x % r.ev = r.at_) (hb : ofRule r x = false) : NoneTo (OfRule r) t (x + r.ev) := by
  intro u h1 h2 h3
  by_cases e : u < x
  · exact h u h1 e h3
  · by_cases e2 : u = x
    · subst e2; exact (of_decide_eq_false hb) h3
    · exact mod_apart he (h3.2.1.trans hx.symm) (by omega) h2

/-- What tells the first tick of P above t: it, and true; or false. -/
def Tells (P : Int → Prop) (t : Int) (x : Ending) : Prop := (∃ n : Int, x = .returned (.tuple #[.int .i64 n, .bool true]) ∧ 0 ≤ n ∧ n ≤ 100000 ∧ FirstR P t n) ∨ ∃ n : Int, x = .returned (.tuple #[.int .i64 n, .bool false]) ∧ FirstR P t (-1)

set_option maxRecDepth 4000 in
set_option maxHeartbeats 2000000 in
theorem tickAbove (r : Rul) (a : Option Addr) (len cap : Nat) (t : Int) (w : World) (hr : IsRow .i64 w a len cap r.but) (hok : RuleOk r) (ht : -9223372036854775808 ≤ t) :
    Calls Tryd.prog 33 #[.agg #[.int .i64 r.ev, .int .i64 r.at_, .int .i64 r.fr, .int .i64 r.to_, .slice a len cap], .int .i64 t] w fun x w' => Tells (OfRule r) t x ∧ Below w.heap.size w w' := by
  have HBT : Hid (∀ t w, IsRow .i64 w a len cap r.but → Calls Tryd.prog 23 #[.agg #[.int .i64 r.ev, .int .i64 r.at_, .int .i64 r.fr, .int .i64 r.to_, .slice a len cap], .int .i64 t] w fun x w' => x = .returned (.bool (ofRule r t)) ∧ Below w.heap.size w w') := fun t w h => hasTick r a len cap t w h hok
  have HR : Hid (IsRow .i64 w a len cap r.but) := hr
  clear hr
  obtain ⟨⟨e1, e2⟩, ⟨a1, a2⟩, ⟨f1, f2⟩, ⟨t1, t2⟩, _, _⟩ := hok
  obtain ⟨ev, at_, fr, to_, but⟩ := r
  dsimp only at *
  by_cases hto : to_ ≤ t
  · have HF : Hid (FirstR (OfRule ⟨ev, at_, fr, to_, but⟩) t (-1)) := .inl ⟨rfl, fun u h1 h2 => by have := h2.1.2; dsimp only at this; omega⟩
    go_enter Tryd.func33, Tryd.ntmps33
    go_wp2_with fail
    refine bodyPost_ret (v := .tuple #[.int .i64 0, .bool false]) ?_ rfl ?_
    · simp [results, Tryd.results33, go_sem]
    · exact ⟨.inr ⟨0, rfl, HF.out⟩, (Below.refl _ _).alloc (Nat.le_refl _) _⟩
  · obtain ⟨x0, hx0, hx1, hlo⟩ : ∃ x0, x0 = max (t + 1) fr ∧ (0 ≤ x0 ∧ x0 ≤ 100000 ∧ fr ≤ x0 ∧ t < x0) ∧ ∀ u, t < u → fr ≤ u → x0 ≤ u := ⟨_, rfl, by omega, fun u h1 h2 => by omega⟩
    have HS : Hid (NoneTo (OfRule ⟨ev, at_, fr, to_, but⟩) t (upTo ev at_ x0)) := none_start (r := ⟨ev, at_, fr, to_, but⟩) e1 ⟨a1, a2⟩ hlo
    have hub := upTo_bd (a := at_) (x := x0) e1
    have HUM : Hid (upTo ev at_ x0 % ev = at_) := upTo_mod e1 ⟨a1, a2⟩
    have HMO : Hid (∀ w, Calls Tryd.prog 46 #[.int .i64 (at_ - x0), .int .i64 ev] w fun x w' => x = .returned (.int .i64 ((at_ - x0) % ev)) ∧ w' = w) := fun w => modulo ev (at_ - x0) ⟨e1, e2⟩ (by omega) w
    have HUE : Hid (x0 + (at_ - x0) % ev = upTo ev at_ x0) := up_eq
    have hm1 := Int.emod_nonneg (at_ - x0) (show ev ≠ 0 by omega)
    have hm2 := Int.emod_lt_of_pos (at_ - x0) (show 0 < ev by omega)
    generalize (at_ - x0) % ev = md at HMO HUE hm1 hm2
    generalize upTo ev at_ x0 = ux at HS hub HUM HUE
    go_enter Tryd.func33, Tryd.ntmps33
    go_upto_region 3 with fail
    go_cut [6] (fun t6 wx => t6 = .int .i64 x0 ∧ wx = w.alloc (.cells #[.int .i64 ev, .int .i64 at_, .int .i64 fr, .int .i64 to_, .slice a len cap] 43))
    case first =>
      clear HMO HUE HS HUM hub hlo
      rcases Int.lt_trichotomy fr (t + 1) with hmx | hmx | hmx
      · obtain rfl : x0 = t + 1 := by omega
        clear hx0
        go_wp2_with fail
        go_meet
        case rel => exact ⟨by first | rfl | exact congrArg (Value.int .i64) (by omega), rfl⟩
      · subst hmx
        obtain rfl : x0 = t + 1 := by omega
        clear hx0
        go_wp2_with fail
        go_meet
        case rel => exact ⟨by first | rfl | exact congrArg (Value.int .i64) (by omega), rfl⟩
      · obtain rfl : x0 = fr := by omega
        clear hx0
        go_wp2_with fail
        go_meet
        case rel => exact ⟨by first | rfl | exact congrArg (Value.int .i64) (by omega), rfl⟩
    case rest =>
      obtain ⟨rfl, rfl⟩ := hcut
      obtain ⟨y0, y1, y2, y3⟩ := hx1
      have z1 := hub.1
      have z2 := hub.2
      clear hx0 hlo
      go_wp2_with (go_at_call 46; refine (HMO.out _).mono ?_; rintro e w2 ⟨rfl, rfl⟩)
      rw [show x0 + md = ux from HUE.out]
      go_loopw [7] (fun v wr => ∃ x : Int, v = .int .i64 x ∧ fr ≤ x ∧ t < x ∧ x ≤ 102000 ∧ x % ev = at_ ∧ NoneTo (OfRule ⟨ev, at_, fr, to_, but⟩) t x ∧ Below (w.heap.size + 1) (w.alloc (.cells #[.int .i64 ev, .int .i64 at_, .int .i64 fr, .int .i64 to_, .slice a len cap] 43)) wr) (fun v _ => (102001 - intOf v).toNat)
      case atStart => exact ⟨ux, rfl, by omega, by omega, by omega, HUM.out, HS.out, Below.refl _ _⟩
      case round =>
        clear HS HMO HUE HUM hub hm1 hm2 y0 y1 y2 y3 z1 z2
        obtain ⟨x, rfl, hx1, hx2, hx3, hx4, hno, hB⟩ := hrel
        have HB : Hid _ := hB
        have HNO : Hid (NoneTo (OfRule ⟨ev, at_, fr, to_, but⟩) t x) := hno
        have HX4 : Hid (x % ev = at_) := hx4
        obtain ⟨c0, c1, c2, c3, c4⟩ := box5 hB
        have hBT := HBT.out x wr (HR.out.below (unbox hB))
        clear hB hno hx4
        by_cases hxt : x ≤ to_
        · by_cases hbt : ofRule ⟨ev, at_, fr, to_, but⟩ x = true
          · rw [hbt] at hBT
            have HBX : Hid _ := hBT
            have HF : Hid (FirstR (OfRule ⟨ev, at_, fr, to_, but⟩) t x) := .inr ⟨of_decide_eq_true hbt, hx2, HNO.out⟩
            clear hBT hbt
            go_wp2_with fail
            refine Calls.mono HBX.out ?_
            rintro e w2 ⟨rfl, hw2⟩
            have hB2 := bcall HB.out (by have := HB.out.size; simpa using this) hw2
            have HB2 : Hid _ := hB2
            clear hB2 hw2
            go_wp2_with fail
            refine bodyPost_ret (v := .tuple #[.int .i64 x, .bool true]) ?_ rfl ?_
            · simp [results, Tryd.results33, go_sem]
            · exact ⟨.inl ⟨x, rfl, by omega, by omega, HF.out⟩, unbox HB2.out⟩
          · have hbt : ofRule ⟨ev, at_, fr, to_, but⟩ x = false := by simpa using hbt
            have HN2 : Hid (NoneTo (OfRule ⟨ev, at_, fr, to_, but⟩) t (x + ev)) := none_step' (r := ⟨ev, at_, fr, to_, but⟩) e1 HNO.out HX4.out hbt
            have HM2 : Hid ((x + ev) % ev = at_) := by show _ = _; rw [Int.add_emod_right]; exact HX4.out
            rw [hbt] at hBT
            have HBX : Hid _ := hBT
            clear hBT hbt
            go_wp2_with fail
            refine Calls.mono HBX.out ?_
            rintro e w2 ⟨rfl, hw2⟩
            have hB2 := bcall HB.out (by have := HB.out.size; simpa using this) hw2
            obtain ⟨d0, d1, d2, d3, d4⟩ := box5 hB2
            have HB2 : Hid _ := hB2
            clear hB2 hw2
            go_wp2_with fail
            go_roundw
            case rel => exact ⟨x + ev, rfl, by omega, by omega, by omega, HM2.out, HN2.out, HB2.out⟩
            case measure => simp [intOf]; omega
        · have HF : Hid (FirstR (OfRule ⟨ev, at_, fr, to_, but⟩) t (-1)) := .inl ⟨rfl, fun u h1 h2 => by
            by_cases e : u < x
            · exact HNO.out u h1 e h2
            · have := h2.1.2; dsimp only at this; omega⟩
          clear hBT
          go_wp2_with fail
          refine bodyPost_ret (v := .tuple #[.int .i64 0, .bool false]) ?_ rfl ?_
          · simp [results, Tryd.results33, go_sem]
          · exact ⟨.inr ⟨0, rfl, HF.out⟩, unbox HB.out⟩
end Go.Proofs.YtkemfifkjaclhaaDoor
