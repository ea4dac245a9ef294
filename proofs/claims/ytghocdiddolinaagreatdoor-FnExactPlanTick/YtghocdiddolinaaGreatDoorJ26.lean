/- The model's CalCount. -/
import Derived.Test.YtghocdiddolinaaGreatDoorJ22
namespace Go.Proofs.YtghocdiddolinaaGreatDoor
set_option linter.unusedVariables false
set_option linter.unusedSimpArgs false
open Go.RowKit Go

/-- n is the first tick of a rule behind t, -1 if there is none. -/
def FirstR (P : Int → Prop) (t n : Int) : Prop := (n = -1 ∧ ∀ u, t < u → ¬ P u) ∨ (P n ∧ t < n ∧ ∀ u, t < u → u < n → ¬ P u)
/-- The least number from x on that is a modulo e. -/
def upTo (e a x : Int) : Int := x + (a - x % e + e) % e
theorem upTo_mod {e a x : Int} (he : 1 ≤ e) (ha : 0 ≤ a ∧ a ≤ e - 1) : upTo e a x % e = a := by
  unfold upTo
  rw [Int.add_emod_right]
  have h1 := Int.emod_add_mul_ediv x e
  have h2 := Int.emod_add_mul_ediv (a - x % e) e
  have : x + (a - x % e) % e = a + e * (x / e - (a - x % e) / e) := by rw [Int.mul_sub]; omega
  rw [this, Int.add_mul_emod_self_left]
  exact Int.emod_eq_of_lt ha.1 (by omega)
theorem upTo_bd {e a x : Int} (he : 1 ≤ e) : x ≤ upTo e a x ∧ upTo e a x < x + e := by
  unfold upTo
  have h1 := Int.emod_nonneg (a - x % e + e) (show e ≠ 0 by omega)
  have h2 := Int.emod_lt_of_pos (a - x % e + e) (show 0 < e by omega)
  omega
theorem mod_apart {e u x : Int} (he : 1 ≤ e) (h : u % e = x % e) (h1 : x < u) (h2 : u < x + e) : False := by
  have hs : (u - x) % e = 0 := by rw [Int.sub_emod, h, Int.sub_self, Int.zero_emod]
  rw [Int.emod_eq_of_lt (by omega) (by omega)] at hs
  omega
theorem upTo_least {e a x u : Int} (he : 1 ≤ e) (ha : 0 ≤ a ∧ a ≤ e - 1) (hu : u % e = a) (h1 : x ≤ u) : upTo e a x ≤ u := by
  by_cases h : upTo e a x ≤ u
  · exact h
  · have hb := upTo_bd (a := a) (x := x) he
    exact (mod_apart (u := upTo e a x) (x := u) he ((upTo_mod he ha).trans hu.symm) (by omega) (by omega)).elim

theorem walk_up {e a x : Int} (he : 1 ≤ e ∧ e ≤ 1000) (ha : 0 ≤ a ∧ a ≤ e - 1) (hx : 0 ≤ x ∧ x ≤ 100001) : wrap64 (x + (wrap64 (wrap64 (a - x % e) + e)).tmod e) = upTo e a x := by
  have h1 := Int.emod_nonneg x (show e ≠ 0 by omega)
  have h2 := Int.emod_lt_of_pos x (show 0 < e by omega)
  rw [wrap64_id (a - x % e) (by omega) (by omega), wrap64_id (a - x % e + e) (by omega) (by omega), Int.tmod_eq_emod_of_nonneg (by omega)]
  have h3 := upTo_bd (a := a) (x := x) he.1
  unfold upTo at h3 ⊢
  exact wrap64_id _ (by omega) (by omega)
/-- What the loop keeps: none of the rule's ticks lies behind t and ahead of x. -/
def NoneTo (P : Int → Prop) (t x : Int) : Prop := ∀ u, t < u → u < x → ¬ P u
theorem none_start {r : Rul} {t lo : Int} (he : 1 ≤ r.ev) (ha : 0 ≤ r.at_ ∧ r.at_ ≤ r.ev - 1) (hlo : ∀ u, t < u → r.fr ≤ u → lo ≤ u) : NoneTo (OfRule r) t (upTo r.ev r.at_ lo) := by
  intro u h1 h2 h3
  have := upTo_least he ha h3.2.1 (hlo u h1 h3.1.1)
  omega
theorem none_step {r : Rul} {t x : Int} (he : 1 ≤ r.ev) (h : NoneTo (OfRule r) t x) (hx : x % r.ev = r.at_) (hb : butHas r.but x = true) : NoneTo (OfRule r) t (x + r.ev) := by
  intro u h1 h2 h3
  by_cases e : u < x
  · exact h u h1 e h3
  · by_cases e2 : u = x
    · subst e2; exact h3.2.2 (by simpa [butHas] using hb)
    · exact mod_apart he (h3.2.1.trans hx.symm) (by omega) h2

set_option maxRecDepth 4000 in
set_option maxHeartbeats 2000000 in
theorem l41First (r : Rul) (a : Option Addr) (len cap : Nat) (t : Int) (w : World) (hr : IsRow .i64 w a len cap r.but) (hok : RuleOk r) (ht : -1 ≤ t ∧ t ≤ 100000) :
    Calls Tryz.prog 47 #[.agg #[.int .i64 r.ev, .int .i64 r.at_, .int .i64 r.fr, .int .i64 r.to_, .slice a len cap], .int .i64 t] w fun x w' => ∃ n : Int, x = .returned (.int .i64 n) ∧ FirstR (OfRule r) t n ∧ Below w.heap.size w w' := by
  have HBT : Hid (∀ t w, IsRow .i64 w a len cap r.but → Calls Tryz.prog 65 #[.agg #[.int .i64 r.ev, .int .i64 r.at_, .int .i64 r.fr, .int .i64 r.to_, .slice a len cap], .int .i64 t] w fun x w' => x = .returned (.bool (butHas r.but t)) ∧ Below w.heap.size w w') := fun t w h => l41But r a len cap t w h
  have HR : Hid (IsRow .i64 w a len cap r.but) := hr
  clear hr
  obtain ⟨⟨e1, e2⟩, ⟨a1, a2⟩, ⟨f1, f2⟩, ⟨t1, t2⟩, _, _⟩ := hok
  obtain ⟨ev, at_, fr, to_, but⟩ := r
  dsimp only at *
  by_cases hlo : t + 1 < fr
  · skip
    have HS : Hid (NoneTo (OfRule ⟨ev, at_, fr, to_, but⟩) t (upTo ev at_ fr)) := none_start (r := ⟨ev, at_, fr, to_, but⟩) e1 ⟨a1, a2⟩ (fun u h1 h2 => by dsimp only at h2; omega)
    have HWU : Hid (wrap64 (fr + (wrap64 (wrap64 (at_ - fr % ev) + ev)).tmod ev) = upTo ev at_ fr) := walk_up ⟨e1, e2⟩ ⟨a1, a2⟩ (by omega)
    have hub := upTo_bd (a := at_) (x := fr) e1
    have HUM : Hid (upTo ev at_ fr % ev = at_) := upTo_mod e1 ⟨a1, a2⟩
    go_enter Tryz.func47, Tryz.ntmps47
    go_wp2_with fail
    go_quiet (fail)
    go_wp2_with fail
    go_loopw [5] (fun v wr => ∃ x : Int, v = .int .i64 x ∧ fr ≤ x ∧ t < x ∧ x ≤ 102000 ∧ x % ev = at_ ∧ NoneTo (OfRule ⟨ev, at_, fr, to_, but⟩) t x ∧ Below (w.heap.size + 1) (w.alloc (.cells #[.int .i64 ev, .int .i64 at_, .int .i64 fr, .int .i64 to_, .slice a len cap] 73)) wr) (fun v _ => (102001 - intOf v).toNat)
    case atStart => exact ⟨upTo ev at_ fr, congrArg (Value.int .i64) HWU.out, by omega, by omega, by omega, HUM.out, HS.out, below_drewN (Below.refl _ _) _⟩
    case round =>
      clear HS HWU HUM hub
      obtain ⟨x, rfl, hx1, hx2, hx3, hx4, hno, hB⟩ := hrel
      have HB : Hid _ := hB
      have HNO : Hid (NoneTo (OfRule ⟨ev, at_, fr, to_, but⟩) t x) := hno
      have HX4 : Hid (x % ev = at_) := hx4
      obtain ⟨c0, c1, c2, c3, c4⟩ := box5 hB
      have hBT := HBT.out x wr (HR.out.below (unbox hB))
      clear hB hno hx4
      by_cases hto : x ≤ to_
      · by_cases hbt : butHas but x = true
        · rw [hbt] at hBT
          have HBX : Hid _ := hBT
          have HN2 : Hid (NoneTo (OfRule ⟨ev, at_, fr, to_, but⟩) t (x + ev)) := none_step (r := ⟨ev, at_, fr, to_, but⟩) e1 HNO.out HX4.out hbt
          have HM2 : Hid ((x + ev) % ev = at_) := by show _ = _; rw [Int.add_emod_right]; exact HX4.out
          clear hBT hbt
          go_wp2_with fail
          refine Calls.mono HBX.out ?_
          rintro e w2 ⟨rfl, hw2⟩
          have hB2 := bcall HB.out (by have := HB.out.size; simpa using this) hw2
          obtain ⟨d0, d1, d2, d3, d4⟩ := box5 hB2
          have HB2 : Hid _ := hB2
          clear hB2 hw2
          go_wp2_with fail
          go_roundw
          case rel => exact ⟨x + ev, rfl, by omega, by omega, by omega, HM2.out, HN2.out, HB2.out⟩
          case measure => simp [intOf]; omega
        · have hbt : butHas but x = false := by simpa using hbt
          rw [hbt] at hBT
          have HBX : Hid _ := hBT
          have HF : Hid (FirstR (OfRule ⟨ev, at_, fr, to_, but⟩) t x) := .inr ⟨⟨⟨hx1, hto⟩, HX4.out, by simpa [butHas] using hbt⟩, hx2, HNO.out⟩
          clear hBT hbt
          go_wp2_with fail
          refine Calls.mono HBX.out ?_
          rintro e w2 ⟨rfl, hw2⟩
          have hB2 := bcall HB.out (by have := HB.out.size; simpa using this) hw2
          obtain ⟨d0, d1, d2, d3, d4⟩ := box5 hB2
          have HB2 : Hid _ := hB2
          clear hB2 hw2
          go_wp2_with fail
          go_ret
          exact ⟨x, rfl, HF.out, unbox HB2.out⟩
      · have HF : Hid (FirstR (OfRule ⟨ev, at_, fr, to_, but⟩) t (-1)) := .inl ⟨rfl, fun u h1 h2 => by
          by_cases e : u < x
          · exact HNO.out u h1 e h2
          · have := h2.1.2; dsimp only at this; omega⟩
        clear hBT
        go_wp2_with fail
        go_ret
        exact ⟨-1, rfl, HF.out, unbox HB.out⟩
  · skip
    have HS : Hid (NoneTo (OfRule ⟨ev, at_, fr, to_, but⟩) t (upTo ev at_ (t + 1))) := none_start (r := ⟨ev, at_, fr, to_, but⟩) e1 ⟨a1, a2⟩ (fun u h1 h2 => by dsimp only at h2; omega)
    have HWU : Hid (wrap64 ((t + 1) + (wrap64 (wrap64 (at_ - (t + 1) % ev) + ev)).tmod ev) = upTo ev at_ (t + 1)) := walk_up ⟨e1, e2⟩ ⟨a1, a2⟩ (by omega)
    have hub := upTo_bd (a := at_) (x := (t + 1)) e1
    have HUM : Hid (upTo ev at_ (t + 1) % ev = at_) := upTo_mod e1 ⟨a1, a2⟩
    go_enter Tryz.func47, Tryz.ntmps47
    go_wp2_with fail
    go_quiet (fail)
    go_wp2_with fail
    go_loopw [5] (fun v wr => ∃ x : Int, v = .int .i64 x ∧ fr ≤ x ∧ t < x ∧ x ≤ 102000 ∧ x % ev = at_ ∧ NoneTo (OfRule ⟨ev, at_, fr, to_, but⟩) t x ∧ Below (w.heap.size + 1) (w.alloc (.cells #[.int .i64 ev, .int .i64 at_, .int .i64 fr, .int .i64 to_, .slice a len cap] 73)) wr) (fun v _ => (102001 - intOf v).toNat)
    case atStart => exact ⟨upTo ev at_ (t + 1), congrArg (Value.int .i64) HWU.out, by omega, by omega, by omega, HUM.out, HS.out, below_drewN (Below.refl _ _) _⟩
    case round =>
      clear HS HWU HUM hub
      obtain ⟨x, rfl, hx1, hx2, hx3, hx4, hno, hB⟩ := hrel
      have HB : Hid _ := hB
      have HNO : Hid (NoneTo (OfRule ⟨ev, at_, fr, to_, but⟩) t x) := hno
      have HX4 : Hid (x % ev = at_) := hx4
      obtain ⟨c0, c1, c2, c3, c4⟩ := box5 hB
      have hBT := HBT.out x wr (HR.out.below (unbox hB))
      clear hB hno hx4
      by_cases hto : x ≤ to_
      · by_cases hbt : butHas but x = true
        · rw [hbt] at hBT
          have HBX : Hid _ := hBT
          have HN2 : Hid (NoneTo (OfRule ⟨ev, at_, fr, to_, but⟩) t (x + ev)) := none_step (r := ⟨ev, at_, fr, to_, but⟩) e1 HNO.out HX4.out hbt
          have HM2 : Hid ((x + ev) % ev = at_) := by show _ = _; rw [Int.add_emod_right]; exact HX4.out
          clear hBT hbt
          go_wp2_with fail
          refine Calls.mono HBX.out ?_
          rintro e w2 ⟨rfl, hw2⟩
          have hB2 := bcall HB.out (by have := HB.out.size; simpa using this) hw2
          obtain ⟨d0, d1, d2, d3, d4⟩ := box5 hB2
          have HB2 : Hid _ := hB2
          clear hB2 hw2
          go_wp2_with fail
          go_roundw
          case rel => exact ⟨x + ev, rfl, by omega, by omega, by omega, HM2.out, HN2.out, HB2.out⟩
          case measure => simp [intOf]; omega
        · have hbt : butHas but x = false := by simpa using hbt
          rw [hbt] at hBT
          have HBX : Hid _ := hBT
          have HF : Hid (FirstR (OfRule ⟨ev, at_, fr, to_, but⟩) t x) := .inr ⟨⟨⟨hx1, hto⟩, HX4.out, by simpa [butHas] using hbt⟩, hx2, HNO.out⟩
          clear hBT hbt
          go_wp2_with fail
          refine Calls.mono HBX.out ?_
          rintro e w2 ⟨rfl, hw2⟩
          have hB2 := bcall HB.out (by have := HB.out.size; simpa using this) hw2
          obtain ⟨d0, d1, d2, d3, d4⟩ := box5 hB2
          have HB2 : Hid _ := hB2
          clear hB2 hw2
          go_wp2_with fail
          go_ret
          exact ⟨x, rfl, HF.out, unbox HB2.out⟩
      · have HF : Hid (FirstR (OfRule ⟨ev, at_, fr, to_, but⟩) t (-1)) := .inl ⟨rfl, fun u h1 h2 => by
          by_cases e : u < x
          · exact HNO.out u h1 e h2
          · have := h2.1.2; dsimp only at this; omega⟩
        clear hBT
        go_wp2_with fail
        go_ret
        exact ⟨-1, rfl, HF.out, unbox HB.out⟩
end Go.Proofs.YtghocdiddolinaaGreatDoor

namespace Go.Proofs.YtghocdiddolinaaGreatDoor
set_option linter.unusedVariables false
set_option linter.unusedSimpArgs false
open Go.RowKit Go

theorem FirstR.unique {P : Int → Prop} (hP : ∀ u, P u → 0 ≤ u) {t m n : Int} (h1 : FirstR P t m) (h2 : FirstR P t n) : m = n := by
  rcases h1 with ⟨rfl, h1⟩ | ⟨a1, b1, c1⟩
  · rcases h2 with ⟨rfl, _⟩ | ⟨a2, b2, _⟩
    · rfl
    · exact absurd a2 (h1 n b2)
  · rcases h2 with ⟨rfl, h2⟩ | ⟨a2, b2, c2⟩
    · exact absurd a1 (h2 m b1)
    · rcases Int.lt_trichotomy m n with h | h | h
      · exact absurd a1 (c2 m b1 h)
      · exact h
      · exact absurd a2 (c1 n b2 h)
theorem FirstR.nonneg {P : Int → Prop} (hP : ∀ u, P u → 0 ≤ u) {t n : Int} (h : FirstR P t n) : n = -1 ∨ 0 ≤ n := by
  rcases h with ⟨rfl, _⟩ | ⟨a, _, _⟩
  · exact .inl rfl
  · exact .inr (hP n a)
/-- The first of two kinds. -/
theorem FirstR.take {P Q : Int → Prop} {t b n : Int} (hb : FirstR P t b) (hn : FirstR Q t n) (hP : ∀ u, P u → 0 ≤ u) (h0 : 0 ≤ n) (h1 : b < 0 ∨ n < b) : FirstR (fun u => P u ∨ Q u) t n := by
  rcases hn with ⟨rfl, _⟩ | ⟨a, c, d⟩
  · omega
  · refine .inr ⟨.inr a, c, fun u h2 h3 h4 => ?_⟩
    rcases h4 with h4 | h4
    · rcases hb with ⟨_, hb⟩ | ⟨pb, _, hb⟩
      · exact hb u h2 h4
      · by_cases e : u < b
        · exact hb u h2 e h4
        · rcases h1 with h1 | h1
          · have := hP b pb; omega
          · omega
    · exact d u h2 h3 h4
theorem FirstR.keep {P Q : Int → Prop} {t b n : Int} (hb : FirstR P t b) (hn : FirstR Q t n) (hP : ∀ u, P u → 0 ≤ u) (hQ : ∀ u, Q u → 0 ≤ u) (h : n < 0 ∨ (0 ≤ b ∧ b ≤ n)) : FirstR (fun u => P u ∨ Q u) t b := by
  rcases hb with ⟨rfl, hb⟩ | ⟨a, c, d⟩
  · refine .inl ⟨rfl, fun u h1 h2 => ?_⟩
    rcases h2 with h2 | h2
    · exact hb u h1 h2
    · rcases hn with ⟨_, hn⟩ | ⟨a, _, _⟩
      · exact hn u h1 h2
      · have := hQ n a; omega
  · refine .inr ⟨.inl a, c, fun u h1 h2 h3 => ?_⟩
    rcases h3 with h3 | h3
    · exact d u h1 h2 h3
    · rcases hn with ⟨_, hn⟩ | ⟨a', _, hn⟩
      · exact hn u h1 h3
      · have h0 := hQ n a'
        exact hn u h1 (by omega) h3
theorem FirstR.congr {P Q : Int → Prop} (h : ∀ u, P u ↔ Q u) {t n : Int} (hn : FirstR P t n) : FirstR Q t n := by
  have : P = Q := funext fun u => propext (h u)
  rw [← this]; exact hn

/-- A tick of one of the first q rules. -/
def OfTo (rs : List Rul) (q : Nat) (u : Int) : Prop := ∃ i, ∃ h : i < rs.length, i < q ∧ OfRule rs[i] u
theorem ofTo_nonneg {rs : List Rul} (hok : ∀ i (hi : i < rs.length), RuleOk rs[i]) (q : Nat) : ∀ u, OfTo rs q u → 0 ≤ u := by
  rintro u ⟨i, hi, _, h⟩
  have h1 := (hok i hi).2.2.1.1
  have h2 := h.1.1
  omega
theorem of_nonneg {r : Rul} (h : RuleOk r) : ∀ u, OfRule r u → 0 ≤ u := fun u hu => by
  have h1 := h.2.2.1.1
  have h2 := hu.1.1
  omega
theorem ofTo_step {rs : List Rul} {q : Nat} (hq : q < rs.length) (u : Int) : (OfTo rs q u ∨ OfRule rs[q] u) ↔ OfTo rs (q + 1) u := by
  constructor
  · rintro (⟨i, hi, h1, h2⟩ | h)
    · exact ⟨i, hi, by omega, h2⟩
    · exact ⟨q, hq, by omega, h⟩
  · rintro ⟨i, hi, h1, h2⟩
    by_cases e : i = q
    · subst e; exact .inr h2
    · exact .inl ⟨i, hi, by omega, h2⟩

set_option maxHeartbeats 2000000 in
theorem l41Next (a : Option Addr) (len cap : Nat) (rs : List Rul) (t : Int) (w : World) (hr : IsRuls w a len cap rs) (hok : ∀ i (hi : i < rs.length), RuleOk rs[i]) (ht : -1 ≤ t ∧ t ≤ 100000) :
    Calls Tryz.prog 22 #[.slice a len cap, .int .i64 t] w fun e w' => (∃ n : Int, e = .returned (.int .i64 n) ∧ FirstR (OfTo rs rs.length) t n) ∧ Below w.heap.size w w' := by
  obtain ⟨hz, hm⟩ := IsRecs.len hr
  unfold maxLen at hm
  have HR : Hid (IsRuls w a len cap rs) := hr
  have HOK : Hid (∀ i (hi : i < rs.length), RuleOk rs[i]) := hok
  clear hr hok
  go_enter Tryz.func22, Tryz.ntmps22
  go_wp2
  go_loopw [5, 6] (fun v i wr => ∃ (q : Nat) (b : Int), i = .int .i64 q ∧ v = .int .i64 b ∧ q ≤ len ∧ FirstR (OfTo rs q) t b ∧ Below w.heap.size w wr) (fun _ i _ => len - (intOf i).toNat)
  case atStart => exact ⟨0, -1, rfl, rfl, Nat.zero_le _, .inl ⟨rfl, fun u _ ⟨i, _, h, _⟩ => by omega⟩, Below.refl _ _⟩
  case round =>
    obtain ⟨q, b, rfl, rfl, hq, hf, hb⟩ := hrel
    have HF : Hid (FirstR (OfTo rs q) t b) := hf
    by_cases hlt : q < len
    · have hbn := hf.nonneg (ofTo_nonneg HOK.out q)
      clear hf
      obtain ⟨bk, off, rfl, h1, hbl, a1, l1, k1, c0, c1, c2, c3, c4, hrow1, _⟩ := IsRuls.at (IsRuls.below HR.out hb) (i := q) (by omega)
      have HE : Hid _ := l41First rs[q] a1 l1 k1 t wr hrow1 (HOK.out q (by omega)) ht
      go_wp2_with fail
      refine Calls.mono HE.out ?_
      rintro e w1 ⟨n, rfl, hn, hw1⟩
      have hnn := hn.nonneg (of_nonneg (HOK.out q (by omega)))
      have HN : Hid (FirstR (OfRule rs[q]) t n) := hn
      have HBB : Hid (Below w.heap.size w w1) := bcall hb hb.size hw1
      clear hn hw1 hb c0 c1 c2 c3 c4
      by_cases h0 : 0 ≤ n
      · by_cases hb0 : b < 0
        · have HT : Hid (FirstR (OfTo rs (q + 1)) t n) := (HF.out.take HN.out (ofTo_nonneg HOK.out q) h0 (.inl hb0)).congr (ofTo_step (by omega))
          go_wp2_with fail
          go_roundw
          case rel => exact ⟨q + 1, n, by go_num, rfl, by omega, HT.out, HBB.out⟩
          case measure => simp [intOf]; omega
        · by_cases hnb : n < b
          · have HT : Hid (FirstR (OfTo rs (q + 1)) t n) := (HF.out.take HN.out (ofTo_nonneg HOK.out q) h0 (.inr hnb)).congr (ofTo_step (by omega))
            go_wp2_with fail
            go_roundw
            case rel => exact ⟨q + 1, n, by go_num, rfl, by omega, HT.out, HBB.out⟩
            case measure => simp [intOf]; omega
          · have HT : Hid (FirstR (OfTo rs (q + 1)) t b) := (HF.out.keep HN.out (ofTo_nonneg HOK.out q) (of_nonneg (HOK.out q (by omega))) (.inr ⟨by omega, by omega⟩)).congr (ofTo_step (by omega))
            go_wp2_with fail
            go_roundw
            case rel => exact ⟨q + 1, b, by go_num, rfl, by omega, HT.out, HBB.out⟩
            case measure => simp [intOf]; omega
      · have HT : Hid (FirstR (OfTo rs (q + 1)) t b) := (HF.out.keep HN.out (ofTo_nonneg HOK.out q) (of_nonneg (HOK.out q (by omega))) (.inl (by omega))).congr (ofTo_step (by omega))
        go_wp2_with fail
        go_roundw
        case rel => exact ⟨q + 1, b, by go_num, rfl, by omega, HT.out, HBB.out⟩
        case measure => simp [intOf]; omega
    · have he : q = rs.length := by omega
      clear hf
      go_wp2_with fail
      go_ret
      exact ⟨⟨b, rfl, by rw [← he]; exact HF.out⟩, hb⟩

theorem ofTo_due {rs : List Rul} (h : calOk rs = true) (u : Int) : OfTo rs rs.length u ↔ calDue rs u = true := by
  unfold calDue due
  rw [h, Bool.true_and, List.any_eq_true]
  constructor
  · rintro ⟨i, hi, _, h⟩; exact ⟨_, List.getElem_mem hi, decide_eq_true h⟩
  · rintro ⟨r, hr, h⟩
    obtain ⟨i, hi, rfl⟩ := List.mem_iff_getElem.1 hr
    exact ⟨i, hi, hi, of_decide_eq_true h⟩
theorem due_bd {rs : List Rul} {u : Int} (h : calDue rs u = true) : 0 ≤ u ∧ u ≤ 100000 := by
  have hok : calOk rs = true := by unfold calDue at h; simp only [Bool.and_eq_true] at h; exact h.1
  obtain ⟨i, hi, _, h⟩ := (ofTo_due hok u).2 h
  have h1 := (calOk_rules hok i hi).2.2.1.1
  have h2 := (calOk_rules hok i hi).2.2.2.1.2
  have h3 := h.1
  omega
/-- The next tick that is due. -/
def IsNext (rs : List Rul) (t n : Int) : Prop := FirstR (fun u => calDue rs u = true) t n
open Classical in
noncomputable def calNext (rs : List Rul) (t : Int) : Int := if h : ∃ n, IsNext rs t n then Classical.choose h else -1
theorem calNext_eq {rs : List Rul} {t n : Int} (h : IsNext rs t n) : calNext rs t = n := by
  have he : ∃ n, IsNext rs t n := ⟨n, h⟩
  unfold calNext
  rw [dif_pos he]
  exact FirstR.unique (fun u hu => (due_bd hu).1) (Classical.choose_spec he) h
end Go.Proofs.YtghocdiddolinaaGreatDoor

namespace Go.Proofs.YtghocdiddolinaaGreatDoor
set_option linter.unusedVariables false
set_option linter.unusedSimpArgs false
open Go.RowKit Go

/-- How many ticks below k, and behind lo, are due. -/
def cntTo (rs : List Rul) (lo : Int) : Nat → Nat
  | 0 => 0
  | k + 1 => cntTo rs lo k + if lo < (k : Int) ∧ calDue rs k = true then 1 else 0
theorem cnt_le (rs : List Rul) (lo : Int) : ∀ k, cntTo rs lo k ≤ k
  | 0 => Nat.le_refl _
  | k + 1 => by have := cnt_le rs lo k; show cntTo rs lo k + _ ≤ _; split <;> omega
theorem cnt_same (rs : List Rul) (lo : Int) (j : Nat) : ∀ k, j ≤ k → (∀ u : Nat, j ≤ u → u < k → ¬ (lo < (u : Int) ∧ calDue rs u = true)) → cntTo rs lo k = cntTo rs lo j
  | 0, h, _ => by have : j = 0 := by omega
                  rw [this]
  | k + 1, h, hn => by
    by_cases e : j = k + 1
    · rw [e]
    · show cntTo rs lo k + _ = _
      rw [if_neg (hn k (by omega) (by omega)), Nat.add_zero]
      exact cnt_same rs lo j k (by omega) fun u h1 h2 => hn u h1 (by omega)
def calCount (rs : List Rul) (lo hi : Int) : Int := (cntTo rs lo (hi + 1).toNat : Nat)
theorem count_low (rs : List Rul) {lo hi : Int} (h : hi ≤ lo) : calCount rs lo hi = 0 := by
  unfold calCount
  rw [cnt_same rs lo 0 _ (Nat.zero_le _) fun u _ h2 h3 => by omega]
  rfl
theorem count_none (rs : List Rul) {lo c hi : Int} (h : c ≤ hi) (hn : ∀ u, c < u → u ≤ hi → ¬ calDue rs u = true) : calCount rs lo hi = calCount rs lo c := by
  unfold calCount
  rw [cnt_same rs lo (c + 1).toNat (hi + 1).toNat (by omega) fun u h1 h2 h3 => hn u (by omega) (by omega) h3.2]
theorem count_one (rs : List Rul) {lo c n : Int} (hc : lo ≤ c) (hn : IsNext rs c n) (h0 : 0 ≤ n) : calCount rs lo n = calCount rs lo c + 1 := by
  rcases hn with ⟨rfl, _⟩ | ⟨h1, h2, h3⟩
  · omega
  · have e1 := count_none rs (lo := lo) (c := c) (hi := n - 1) (by omega) (fun u hu hu2 => h3 u hu (by omega))
    rw [← e1]
    unfold calCount
    have e2 : (n + 1).toNat = (n - 1 + 1).toNat + 1 := by omega
    rw [e2]
    show ((cntTo rs lo (n - 1 + 1).toNat + _ : Nat) : Int) = _
    have e3 : (((n - 1 + 1).toNat : Nat) : Int) = n := by omega
    rw [if_pos ⟨by omega, by rw [e3]; exact h1⟩]
    omega
theorem next_is (rs : List Rul) (t : Int) : IsNext rs t (calNext rs t) := by
  by_cases he : ∃ n, IsNext rs t n
  · obtain ⟨n, h⟩ := he; rw [calNext_eq h]; exact h
  · exfalso
    by_cases hd : ∃ u : Nat, t < (u : Int) ∧ calDue rs u = true
    · obtain ⟨u, hu⟩ := hd
      have hw : ∃ u : Nat, (t < (u : Int) ∧ calDue rs u = true) ∧ ∀ v : Nat, v < u → ¬ (t < (v : Int) ∧ calDue rs v = true) := by
        induction u using Nat.strongRecOn with
        | _ u ih =>
          by_cases h : ∃ v : Nat, v < u ∧ (t < (v : Int) ∧ calDue rs v = true)
          · obtain ⟨v, h1, h2⟩ := h; exact ih v h1 h2
          · exact ⟨u, hu, fun v h1 h2 => h ⟨v, h1, h2⟩⟩
      obtain ⟨u, h1, h2⟩ := hw
      refine he ⟨u, .inr ⟨h1.2, h1.1, fun v h3 h4 h5 => ?_⟩⟩
      have := (due_bd h5).1
      refine h2 v.toNat (by omega) ⟨by omega, ?_⟩
      rw [show ((v.toNat : Nat) : Int) = v from by omega]; exact h5
    · refine he ⟨-1, .inl ⟨rfl, fun v h3 h5 => ?_⟩⟩
      have := (due_bd h5).1
      refine hd ⟨v.toNat, by omega, ?_⟩
      rw [show ((v.toNat : Nat) : Int) = v from by omega]; exact h5
theorem next_bd (rs : List Rul) (t : Int) : -1 ≤ calNext rs t ∧ calNext rs t ≤ 100000 ∧ (0 ≤ calNext rs t → t < calNext rs t) := by
  rcases next_is rs t with ⟨h, _⟩ | ⟨h, h2, _⟩
  · rw [h]; omega
  · have := due_bd h; omega

/-- What is left to count. -/
def leftOf (x : Int) : Nat := if x < 0 then 0 else (100002 - x).toNat
end Go.Proofs.YtghocdiddolinaaGreatDoor
