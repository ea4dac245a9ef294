/- The model's next tick of a rule. -/
import Derived.Test.YtkemfifkjaclhaaDoorCA6a
namespace Go.Proofs.YtkemfifkjaclhaaDoor
set_option linter.unusedVariables false
set_option linter.unusedSimpArgs false
open Go.RowKit Go

/-- n is the first tick of a rule behind t, -1 if there is none. -/
def FirstR (P : Int → Prop) (t n : Int) : Prop := (n = -1 ∧ ∀ u, t < u → ¬ P u) ∨ (P n ∧ t < n ∧ ∀ u, t < u → u < n → ¬ P u)
/-- The least number from x on that is a modulo e. -/
def upTo (e a x : Int) : Int := x + (a - x % e + e) % e
theorem upTo_mod {e a x : Int} (he : 1 ≤ e) (ha : 0 ≤ a ∧ a ≤ e - 1) : upTo e a x % e = a := by
  unfold upTo
  rw [Int.add_emod_right]
  have h1 := Int.emod_add_mul_ediv x e
  have h2 := Int.emod_add_mul_ediv (a - x % e) e
  have : x + (a - x % e) % e = a + e * (x / e - (a - x % e) / e) := by rw [Int.mul_sub]; omega
  rw [this, Int.add_mul_emod_self_left]
  exact Int.emod_eq_of_lt ha.1 (by omega)
theorem upTo_bd {e a x : Int} (he : 1 ≤ e) : x ≤ upTo e a x ∧ upTo e a x < x + e := by
  unfold upTo
  have h1 := Int.emod_nonneg (a - x % e + e) (show e ≠ 0 by omega)
  have h2 := Int.emod_lt_of_pos (a - x % e + e) (show 0 < e by omega)
  omega
theorem mod_apart {e u x : Int} (he : 1 ≤ e) (h : u % e = x % e) (h1 : x < u) (h2 : u < x + e) : False := by
  have hs : (u - x) % e = 0 := by rw [Int.sub_emod, h, Int.sub_self, Int.zero_emod]
  rw [Int.emod_eq_of_lt (by omega) (by omega)] at hs
  omega
theorem upTo_least {e a x u : Int} (he : 1 ≤ e) (ha : 0 ≤ a ∧ a ≤ e - 1) (hu : u % e = a) (h1 : x ≤ u) : upTo e a x ≤ u := by
  by_cases h : upTo e a x ≤ u
  · exact h
  · have hb := upTo_bd (a := a) (x := x) he
    exact (mod_apart (u := upTo e a x) (x := u) he ((upTo_mod he ha).trans hu.symm) (by omega) (by omega)).elim

theorem walk_up {e a x : Int} (he : 1 ≤ e ∧ e ≤ 1000) (ha : 0 ≤ a ∧ a ≤ e - 1) (hx : 0 ≤ x ∧ x ≤ 100001) : wrap64 (x + (wrap64 (wrap64 (a - x % e) + e)).tmod e) = upTo e a x := by
  have h1 := Int.emod_nonneg x (show e ≠ 0 by omega)
  have h2 := Int.emod_lt_of_pos x (show 0 < e by omega)
  rw [wrap64_id (a - x % e) (by omega) (by omega), wrap64_id (a - x % e + e) (by omega) (by omega), Int.tmod_eq_emod_of_nonneg (by omega)]
  have h3 := upTo_bd (a := a) (x := x) he.1
  unfold upTo at h3 ⊢
  exact wrap64_id _ (by omega) (by omega)
/-- What the loop keeps: none of the rule's ticks lies behind t and ahead of x. -/
def NoneTo (P : Int → Prop) (t x : Int) : Prop := ∀ u, t < u → u < x → ¬ P u
theorem none_start {r : Rul} {t lo : Int} (he : 1 ≤ r.ev) (ha : 0 ≤ r.at_ ∧ r.at_ ≤ r.ev - 1) (hlo : ∀ u, t < u → r.fr ≤ u → lo ≤ u) : NoneTo (OfRule r) t (upTo r.ev r.at_ lo) := by
  intro u h1 h2 h3
  have := upTo_least he ha h3.2.1 (hlo u h1 h3.1.1)
  omega
theorem none_step {r : Rul} {t x : Int} (he : 1 ≤ r.ev) (h : NoneTo (OfRule r) t x) (hx : x % r.ev = r.at_) (hb : butHas r.but x = true) : NoneTo (OfRule r) t (x + r.ev) := by
  intro u h1 h2 h3
  by_cases e : u < x
  · exact h u h1 e h3
  · by_cases e2 : u = x
    · subst e2; exact h3.2.2 (by simpa [butHas] using hb)
    · exact mod_apart he (h3.2.1.trans hx.symm) (by omega) h2

set_option maxRecDepth 4000 in
set_option maxHeartbeats 2000000 in
theorem l41First (r : Rul) (a : Option Addr) (len cap : Nat) (t : Int) (w : World) (hr : IsRow .i64 w a len cap r.but) (hok : RuleOk r) (ht : -1 ≤ t ∧ t ≤ 100000) :
    Calls Tryd.prog 35 #[.agg #[.int .i64 r.ev, .int .i64 r.at_, .int .i64 r.fr, .int .i64 r.to_, .slice a len cap], .int .i64 t] w fun x w' => ∃ n : Int, x = .returned (.int .i64 n) ∧ FirstR (OfRule r) t n ∧ Below w.heap.size w w' := by
  have HBT : Hid (∀ t w, IsRow .i64 w a len cap r.but → Calls Tryd.prog 49 #[.agg #[.int .i64 r.ev, .int .i64 r.at_, .int .i64 r.fr, .int .i64 r.to_, .slice a len cap], .int .i64 t] w fun x w' => x = .returned (.bool (butHas r.but t)) ∧ Below w.heap.size w w') := fun t w h => l41But r a len cap t w h
  have HR : Hid (IsRow .i64 w a len cap r.but) := hr
  clear hr
  obtain ⟨⟨e1, e2⟩, ⟨a1, a2⟩, ⟨f1, f2⟩, ⟨t1, t2⟩, _, _⟩ := hok
  obtain ⟨ev, at_, fr, to_, but⟩ := r
  dsimp only at *
  by_cases hlo : t + 1 < fr
  · skip
    have HS : Hid (NoneTo (OfRule ⟨ev, at_, fr, to_, but⟩) t (upTo ev at_ fr)) := none_start (r := ⟨ev, at_, fr, to_, but⟩) e1 ⟨a1, a2⟩ (fun u h1 h2 => by dsimp only at h2; omega)
    have HWU : Hid (wrap64 (fr + (wrap64 (wrap64 (at_ - fr % ev) + ev)).tmod ev) = upTo ev at_ fr) := walk_up ⟨e1, e2⟩ ⟨a1, a2⟩ (by omega)
    have hub := upTo_bd (a := at_) (x := fr) e1
    have HUM : Hid (upTo ev at_ fr % ev = at_) := upTo_mod e1 ⟨a1, a2⟩
    go_enter Tryd.func35, Tryd.ntmps35
    go_wp2_with fail
    go_quiet (fail)
    go_wp2_with fail
    go_loopw [5] (fun v wr => ∃ x : Int, v = .int .i64 x ∧ fr ≤ x ∧ t < x ∧ x ≤ 102000 ∧ x % ev = at_ ∧ NoneTo (OfRule ⟨ev, at_, fr, to_, but⟩) t x ∧ Below (w.heap.size + 1) (w.alloc (.cells #[.int .i64 ev, .int .i64 at_, .int .i64 fr, .int .i64 to_, .slice a len cap] 43)) wr) (fun v _ => (102001 - intOf v).toNat)
    case atStart => exact ⟨upTo ev at_ fr, congrArg (Value.int .i64) HWU.out, by omega, by omega, by omega, HUM.out, HS.out, below_drewN (Below.refl _ _) _⟩
    case round =>
      clear HS HWU HUM hub
      obtain ⟨x, rfl, hx1, hx2, hx3, hx4, hno, hB⟩ := hrel
      have HB : Hid _ := hB
      have HNO : Hid (NoneTo (OfRule ⟨ev, at_, fr, to_, but⟩) t x) := hno
      have HX4 : Hid (x % ev = at_) := hx4
      obtain ⟨c0, c1, c2, c3, c4⟩ := box5 hB
      have hBT := HBT.out x wr (HR.out.below (unbox hB))
      clear hB hno hx4
      by_cases hto : x ≤ to_
      · by_cases hbt : butHas but x = true
        · rw [hbt] at hBT
          have HBX : Hid _ := hBT
          have HN2 : Hid (NoneTo (OfRule ⟨ev, at_, fr, to_, but⟩) t (x + ev)) := none_step (r := ⟨ev, at_, fr, to_, but⟩) e1 HNO.out HX4.out hbt
          have HM2 : Hid ((x + ev) % ev = at_) := by show _ = _; rw [Int.add_emod_right]; exact HX4.out
          clear hBT hbt
          go_wp2_with fail
          refine Calls.mono HBX.out ?_
          rintro e w2 ⟨rfl, hw2⟩
          have hB2 := bcall HB.out (by have := HB.out.size; simpa using this) hw2
          obtain ⟨d0, d1, d2, d3, d4⟩ := box5 hB2
          have HB2 : Hid _ := hB2
          clear hB2 hw2
          go_wp2_with fail
          go_roundw
          case rel => exact ⟨x + ev, rfl, by omega, by omega, by omega, HM2.out, HN2.out, HB2.out⟩
          case measure => simp [intOf]; omega
        · have hbt : butHas but x = false := by simpa using hbt
          rw [hbt] at hBT
          have HBX : Hid _ := hBT
          have HF : Hid (FirstR (OfRule ⟨ev, at_, fr, to_, but⟩) t x) := .inr ⟨⟨⟨hx1, hto⟩, HX4.out, by simpa [butHas] using hbt⟩, hx2, HNO.out⟩
          clear hBT hbt
          go_wp2_with fail
          refine Calls.mono HBX.out ?_
          rintro e w2 ⟨rfl, hw2⟩
          have hB2 := bcall HB.out (by have := HB.out.size; simpa using this) hw2
          obtain ⟨d0, d1, d2, d3, d4⟩ := box5 hB2
          have HB2 : Hid _ := hB2
          clear hB2 hw2
          go_wp2_with fail
          go_ret
          exact ⟨x, rfl, HF.out, unbox HB2.out⟩
      · have HF : Hid (FirstR (OfRule ⟨ev, at_, fr, to_, but⟩) t (-1)) := .inl ⟨rfl, fun u h1 h2 => by
          by_cases e : u < x
          · exact HNO.out u h1 e h2
          · have := h2.1.2; dsimp only at this; omega⟩
        clear hBT
        go_wp2_with fail
        go_ret
        exact ⟨-1, rfl, HF.out, unbox HB.out⟩
  · skip
    have HS : Hid (NoneTo (OfRule ⟨ev, at_, fr, to_, but⟩) t (upTo ev at_ (t + 1))) := none_start (r := ⟨ev, at_, fr, to_, but⟩) e1 ⟨a1, a2⟩ (fun u h1 h2 => by dsimp only at h2; omega)
    have HWU : Hid (wrap64 ((t + 1) + (wrap64 (wrap64 (at_ - (t + 1) % ev) + ev)).tmod ev) = upTo ev at_ (t + 1)) := walk_up ⟨e1, e2⟩ ⟨a1, a2⟩ (by omega)
    have hub := upTo_bd (a := at_) (x := (t + 1)) e1
    have HUM : Hid (upTo ev at_ (t + 1) % ev = at_) := upTo_mod e1 ⟨a1, a2⟩
    go_enter Tryd.func35, Tryd.ntmps35
    go_wp2_with fail
    go_quiet (fail)
    go_wp2_with fail
    go_loopw [5] (fun v wr => ∃ x : Int, v = .int .i64 x ∧ fr ≤ x ∧ t < x ∧ x ≤ 102000 ∧ x % ev = at_ ∧ NoneTo (OfRule ⟨ev, at_, fr, to_, but⟩) t x ∧ Below (w.heap.size + 1) (w.alloc (.cells #[.int .i64 ev, .int .i64 at_, .int .i64 fr, .int .i64 to_, .slice a len cap] 43)) wr) (fun v _ => (102001 - intOf v).toNat)
    case atStart => exact ⟨upTo ev at_ (t + 1), congrArg (Value.int .i64) HWU.out, by omega, by omega, by omega, HUM.out, HS.out, below_drewN (Below.refl _ _) _⟩
    case round =>
      clear HS HWU HUM hub
      obtain ⟨x, rfl, hx1, hx2, hx3, hx4, hno, hB⟩ := hrel
      have HB : Hid _ := hB
      have HNO : Hid (NoneTo (OfRule ⟨ev, at_, fr, to_, but⟩) t x) := hno
      have HX4 : Hid (x % ev = at_) := hx4
      obtain ⟨c0, c1, c2, c3, c4⟩ := box5 hB
      have hBT := HBT.out x wr (HR.out.below (unbox hB))
      clear hB hno hx4
      by_cases hto : x ≤ to_
      · by_cases hbt : butHas but x = true
        · rw [hbt] at hBT
          have HBX : Hid _ := hBT
          have HN2 : Hid (NoneTo (OfRule ⟨ev, at_, fr, to_, but⟩) t (x + ev)) := none_step (r := ⟨ev, at_, fr, to_, but⟩) e1 HNO.out HX4.out hbt
          have HM2 : Hid ((x + ev) % ev = at_) := by show _ = _; rw [Int.add_emod_right]; exact HX4.out
          clear hBT hbt
          go_wp2_with fail
          refine Calls.mono HBX.out ?_
          rintro e w2 ⟨rfl, hw2⟩
          have hB2 := bcall HB.out (by have := HB.out.size; simpa using this) hw2
          obtain ⟨d0, d1, d2, d3, d4⟩ := box5 hB2
          have HB2 : Hid _ := hB2
          clear hB2 hw2
          go_wp2_with fail
          go_roundw
          case rel => exact ⟨x + ev, rfl, by omega, by omega, by omega, HM2.out, HN2.out, HB2.out⟩
          case measure => simp [intOf]; omega
        · have hbt : butHas but x = false := by simpa using hbt
          rw [hbt] at hBT
          have HBX : Hid _ := hBT
          have HF : Hid (FirstR (OfRule ⟨ev, at_, fr, to_, but⟩) t x) := .inr ⟨⟨⟨hx1, hto⟩, HX4.out, by simpa [butHas] using hbt⟩, hx2, HNO.out⟩
          clear hBT hbt
          go_wp2_with fail
          refine Calls.mono HBX.out ?_
          rintro e w2 ⟨rfl, hw2⟩
          have hB2 := bcall HB.out (by have := HB.out.size; simpa using this) hw2
          obtain ⟨d0, d1, d2, d3, d4⟩ := box5 hB2
          have HB2 : Hid _ := hB2
          clear hB2 hw2
          go_wp2_with fail
          go_ret
          exact ⟨x, rfl, HF.out, unbox HB2.out⟩
      · have HF : Hid (FirstR (OfRule ⟨ev, at_, fr, to_, but⟩) t (-1)) := .inl ⟨rfl, fun u h1 h2 => by
          by_cases e : u < x
          · exact HNO.out u h1 e h2
          · have := h2.1.2; dsimp only at this; omega⟩
        clear hBT
        go_wp2_with fail
        go_ret
        exact ⟨-1, rfl, HF.out, unbox HB.out⟩
end Go.Proofs.YtkemfifkjaclhaaDoor
