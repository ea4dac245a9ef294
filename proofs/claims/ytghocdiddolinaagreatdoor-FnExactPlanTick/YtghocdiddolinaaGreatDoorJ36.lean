/- The program's own calendars: the rules as parts, each of which tells its first tick above one; the least of them. -/
import Derived.Test.YtghocdiddolinaaGreatDoorJ35
import Derived.Test.YtghocdiddolinaaGreatDoorJ26
import Derived.Test.YtghocdiddolinaaGreatDoorJ4
import Derived.Laws.AppendOwn
namespace Go.Proofs.YtghocdiddolinaaGreatDoor
set_option linter.unusedVariables false
set_option linter.unusedSimpArgs false
open Go.RowKit Go

/-- What modulo answers. -/
theorem mod_walk {e n : Int} (he : 1 ≤ e ∧ e ≤ 1000) (hn : -200000 ≤ n ∧ n ≤ 200000) : (wrap64 (n.tmod e + e)).tmod e = n % e := by
  have h0 : n.tmod e % e = n % e := by
    have h1 := Int.mul_tdiv_add_tmod n e
    conv => rhs; rw [← h1]
    rw [Int.add_comm, Int.add_mul_emod_self_left]
  have hlo : -e < n.tmod e := by
    by_cases h : 0 ≤ n
    · have := Int.tmod_nonneg e h; omega
    · have h2 : n.tmod e = -((-n).tmod e) := by rw [Int.neg_tmod]; omega
      have h3 := Int.tmod_lt_of_pos (-n) (show 0 < e by omega)
      omega
  have hhi : n.tmod e < e := Int.tmod_lt_of_pos n (by omega)
  rw [wrap64_id _ (by omega) (by omega), Int.tmod_eq_emod_of_nonneg (by omega), Int.add_emod_right, h0]

theorem modulo (e n : Int) (he : 1 ≤ e ∧ e ≤ 1000) (hn : -200000 ≤ n ∧ n ≤ 200000) (w : World) :
    Calls Tryz.prog 93 #[.int .i64 n, .int .i64 e] w fun x w' => x = .returned (.int .i64 (n % e)) ∧ w' = w := by
  have HM : Hid ((wrap64 (n.tmod e + e)).tmod e = n % e) := mod_walk he hn
  have hv : ¬ e = 0 := by omega
  have hv2 : (e == 0) = false := by simpa using hv
  go_enter Tryz.func93, Tryz.ntmps93
  go_wp2
  go_ret
  refine ⟨?_, rfl⟩
  rw [← HM.out]
  rfl

theorem up_eq {e a x : Int} : x + (a - x) % e = upTo e a x := by
  unfold upTo
  rw [Int.add_emod_right]
  have h1 := Int.emod_add_mul_ediv x e
  have : a - x = (a - x % e) + e * (-(x / e)) := by rw [Int.mul_neg]; omega
  rw [this, Int.add_mul_emod_self_left]

theorem none_step' {r : Rul} {t x : Int} (he : 1 ≤ r.ev) (h : NoneTo (OfRule r) t x) (hx : x % r.ev = r.at_) (hb : ofRule r x = false) : NoneTo (OfRule r) t (x + r.ev) := by
  intro u h1 h2 h3
  by_cases e : u < x
  · exact h u h1 e h3
  · by_cases e2 : u = x
    · subst e2; exact (of_decide_eq_false hb) h3
    · exact mod_apart he (h3.2.1.trans hx.symm) (by omega) h2

/-- What tells the first tick of P above t: it, and true; or false. -/
def Tells (P : Int → Prop) (t : Int) (x : Ending) : Prop := (∃ n : Int, x = .returned (.tuple #[.int .i64 n, .bool true]) ∧ 0 ≤ n ∧ n ≤ 100000 ∧ FirstR P t n) ∨ ∃ n : Int, x = .returned (.tuple #[.int .i64 n, .bool false]) ∧ FirstR P t (-1)

set_option maxRecDepth 4000 in
set_option maxHeartbeats 2000000 in
theorem tickAbove (r : Rul) (a : Option Addr) (len cap : Nat) (t : Int) (w : World) (hr : IsRow .i64 w a len cap r.but) (hok : RuleOk r) (ht : -9223372036854775808 ≤ t) :
    Calls Tryz.prog 82 #[.agg #[.int .i64 r.ev, .int .i64 r.at_, .int .i64 r.fr, .int .i64 r.to_, .slice a len cap], .int .i64 t] w fun x w' => Tells (OfRule r) t x ∧ Below w.heap.size w w' := by
  have HBT : Hid (∀ t w, IsRow .i64 w a len cap r.but → Calls Tryz.prog 94 #[.agg #[.int .i64 r.ev, .int .i64 r.at_, .int .i64 r.fr, .int .i64 r.to_, .slice a len cap], .int .i64 t] w fun x w' => x = .returned (.bool (ofRule r t)) ∧ Below w.heap.size w w') := fun t w h => hasTick r a len cap t w h hok
  have HR : Hid (IsRow .i64 w a len cap r.but) := hr
  clear hr
  obtain ⟨⟨e1, e2⟩, ⟨a1, a2⟩, ⟨f1, f2⟩, ⟨t1, t2⟩, _, _⟩ := hok
  obtain ⟨ev, at_, fr, to_, but⟩ := r
  dsimp only at *
  by_cases hto : to_ ≤ t
  · have HF : Hid (FirstR (OfRule ⟨ev, at_, fr, to_, but⟩) t (-1)) := .inl ⟨rfl, fun u h1 h2 => by have := h2.1.2; dsimp only at this; omega⟩
    go_enter Tryz.func82, Tryz.ntmps82
    go_wp2_with fail
    refine bodyPost_ret (v := .tuple #[.int .i64 0, .bool false]) ?_ rfl ?_
    · simp [results, Tryz.results82, go_sem]
    · exact ⟨.inr ⟨0, rfl, HF.out⟩, (Below.refl _ _).alloc (Nat.le_refl _) _⟩
  · obtain ⟨x0, hx0, hx1, hlo⟩ : ∃ x0, x0 = max (t + 1) fr ∧ (0 ≤ x0 ∧ x0 ≤ 100000 ∧ fr ≤ x0 ∧ t < x0) ∧ ∀ u, t < u → fr ≤ u → x0 ≤ u := ⟨_, rfl, by omega, fun u h1 h2 => by omega⟩
    have HS : Hid (NoneTo (OfRule ⟨ev, at_, fr, to_, but⟩) t (upTo ev at_ x0)) := none_start (r := ⟨ev, at_, fr, to_, but⟩) e1 ⟨a1, a2⟩ hlo
    have hub := upTo_bd (a := at_) (x := x0) e1
    have HUM : Hid (upTo ev at_ x0 % ev = at_) := upTo_mod e1 ⟨a1, a2⟩
    have HMO : Hid (∀ w, Calls Tryz.prog 93 #[.int .i64 (at_ - x0), .int .i64 ev] w fun x w' => x = .returned (.int .i64 ((at_ - x0) % ev)) ∧ w' = w) := fun w => modulo ev (at_ - x0) ⟨e1, e2⟩ (by omega) w
    have HUE : Hid (x0 + (at_ - x0) % ev = upTo ev at_ x0) := up_eq
    have hm1 := Int.emod_nonneg (at_ - x0) (show ev ≠ 0 by omega)
    have hm2 := Int.emod_lt_of_pos (at_ - x0) (show 0 < ev by omega)
    generalize (at_ - x0) % ev = md at HMO HUE hm1 hm2
    generalize upTo ev at_ x0 = ux at HS hub HUM HUE
    go_enter Tryz.func82, Tryz.ntmps82
    go_upto_region 3 with fail
    go_cut [6] (fun t6 wx => t6 = .int .i64 x0 ∧ wx = w.alloc (.cells #[.int .i64 ev, .int .i64 at_, .int .i64 fr, .int .i64 to_, .slice a len cap] 73))
    case first =>
      clear HMO HUE HS HUM hub hlo
      rcases Int.lt_trichotomy fr (t + 1) with hmx | hmx | hmx
      · obtain rfl : x0 = t + 1 := by omega
        clear hx0
        go_wp2_with fail
        go_meet
        case rel => exact ⟨by first | rfl | exact congrArg (Value.int .i64) (by omega), rfl⟩
      · subst hmx
        obtain rfl : x0 = t + 1 := by omega
        clear hx0
        go_wp2_with fail
        go_meet
        case rel => exact ⟨by first | rfl | exact congrArg (Value.int .i64) (by omega), rfl⟩
      · obtain rfl : x0 = fr := by omega
        clear hx0
        go_wp2_with fail
        go_meet
        case rel => exact ⟨by first | rfl | exact congrArg (Value.int .i64) (by omega), rfl⟩
    case rest =>
      obtain ⟨rfl, rfl⟩ := hcut
      obtain ⟨y0, y1, y2, y3⟩ := hx1
      have z1 := hub.1
      have z2 := hub.2
      clear hx0 hlo
      go_wp2_with (go_at_call 93; refine (HMO.out _).mono ?_; rintro e w2 ⟨rfl, rfl⟩)
      rw [show x0 + md = ux from HUE.out]
      go_loopw [7] (fun v wr => ∃ x : Int, v = .int .i64 x ∧ fr ≤ x ∧ t < x ∧ x ≤ 102000 ∧ x % ev = at_ ∧ NoneTo (OfRule ⟨ev, at_, fr, to_, but⟩) t x ∧ Below (w.heap.size + 1) (w.alloc (.cells #[.int .i64 ev, .int .i64 at_, .int .i64 fr, .int .i64 to_, .slice a len cap] 73)) wr) (fun v _ => (102001 - intOf v).toNat)
      case atStart => exact ⟨ux, rfl, by omega, by omega, by omega, HUM.out, HS.out, Below.refl _ _⟩
      case round =>
        clear HS HMO HUE HUM hub hm1 hm2 y0 y1 y2 y3 z1 z2
        obtain ⟨x, rfl, hx1, hx2, hx3, hx4, hno, hB⟩ := hrel
        have HB : Hid _ := hB
        have HNO : Hid (NoneTo (OfRule ⟨ev, at_, fr, to_, but⟩) t x) := hno
        have HX4 : Hid (x % ev = at_) := hx4
        obtain ⟨c0, c1, c2, c3, c4⟩ := box5 hB
        have hBT := HBT.out x wr (HR.out.below (unbox hB))
        clear hB hno hx4
        by_cases hxt : x ≤ to_
        · by_cases hbt : ofRule ⟨ev, at_, fr, to_, but⟩ x = true
          · rw [hbt] at hBT
            have HBX : Hid _ := hBT
            have HF : Hid (FirstR (OfRule ⟨ev, at_, fr, to_, but⟩) t x) := .inr ⟨of_decide_eq_true hbt, hx2, HNO.out⟩
            clear hBT hbt
            go_wp2_with fail
            refine Calls.mono HBX.out ?_
            rintro e w2 ⟨rfl, hw2⟩
            have hB2 := bcall HB.out (by have := HB.out.size; simpa using this) hw2
            have HB2 : Hid _ := hB2
            clear hB2 hw2
            go_wp2_with fail
            refine bodyPost_ret (v := .tuple #[.int .i64 x, .bool true]) ?_ rfl ?_
            · simp [results, Tryz.results82, go_sem]
            · exact ⟨.inl ⟨x, rfl, by omega, by omega, HF.out⟩, unbox HB2.out⟩
          · have hbt : ofRule ⟨ev, at_, fr, to_, but⟩ x = false := by simpa using hbt
            have HN2 : Hid (NoneTo (OfRule ⟨ev, at_, fr, to_, but⟩) t (x + ev)) := none_step' (r := ⟨ev, at_, fr, to_, but⟩) e1 HNO.out HX4.out hbt
            have HM2 : Hid ((x + ev) % ev = at_) := by show _ = _; rw [Int.add_emod_right]; exact HX4.out
            rw [hbt] at hBT
            have HBX : Hid _ := hBT
            clear hBT hbt
            go_wp2_with fail
            refine Calls.mono HBX.out ?_
            rintro e w2 ⟨rfl, hw2⟩
            have hB2 := bcall HB.out (by have := HB.out.size; simpa using this) hw2
            obtain ⟨d0, d1, d2, d3, d4⟩ := box5 hB2
            have HB2 : Hid _ := hB2
            clear hB2 hw2
            go_wp2_with fail
            go_roundw
            case rel => exact ⟨x + ev, rfl, by omega, by omega, by omega, HM2.out, HN2.out, HB2.out⟩
            case measure => simp [intOf]; omega
        · have HF : Hid (FirstR (OfRule ⟨ev, at_, fr, to_, but⟩) t (-1)) := .inl ⟨rfl, fun u h1 h2 => by
            by_cases e : u < x
            · exact HNO.out u h1 e h2
            · have := h2.1.2; dsimp only at this; omega⟩
          clear hBT
          go_wp2_with fail
          refine bodyPost_ret (v := .tuple #[.int .i64 0, .bool false]) ?_ rfl ?_
          · simp [results, Tryz.results82, go_sem]
          · exact ⟨.inr ⟨0, rfl, HF.out⟩, unbox HB.out⟩
end Go.Proofs.YtghocdiddolinaaGreatDoor

namespace Go.Proofs.YtghocdiddolinaaGreatDoor
set_option linter.unusedVariables false
set_option linter.unusedSimpArgs false
open Go.RowKit Go

/-- A rule in a block of its own. -/
def RulBox (W : World) (k : Nat) (r : Rul) (s : Value) : Prop := W.heap[k]? = some (.cells #[.int .i64 r.ev, .int .i64 r.at_, .int .i64 r.fr, .int .i64 r.to_, s] 73 (0, 0))
/-- Rows of numbers that lay there are there yet. -/
structure Sees (w0 W : World) : Prop where
  size : w0.heap.size ≤ W.heap.size
  rows : ∀ (a : Option Addr) (l c : Nat) (zs : List Int), IsRow .i64 w0 a l c zs → IsRow .i64 W a l c zs
theorem Sees.of_below {w0 W : World} (h : Below w0.heap.size w0 W) : Sees w0 W := ⟨h.size, fun _ _ _ _ hr => hr.below h⟩
theorem Sees.below {w0 W W' : World} (h : Sees w0 W) (hb : Below W.heap.size W W') : Sees w0 W' := ⟨Nat.le_trans h.size hb.size, fun a l c zs hr => (h.rows a l c zs hr).below hb⟩
/-- A part: what tells the first tick of a rule. -/
def fnOf (k : Nat) : Value := .func (.func 81) #[] #[.pointer (some ⟨k, 0, none⟩)]

set_option maxHeartbeats 1000000 in
theorem tickFn (r : Rul) (a : Option Addr) (len cap : Nat) (k : Nat) (t : Int) (w : World) (hk : RulBox w k r (.slice a len cap)) (hr : IsRow .i64 w a len cap r.but) (hok : RuleOk r) (ht : -9223372036854775808 ≤ t) :
    Calls Tryz.prog 81 #[.int .i64 t, .pointer (some ⟨k, 0, none⟩)] w fun x w' => Tells (OfRule r) t x ∧ Below w.heap.size w w' := by
  have HT : Hid _ := tickAbove r a len cap t w hr hok ht
  have c0 : w.cell? ⟨k, 0, none⟩ = some (.int .i64 r.ev) := by simp [World.cell?, show w.heap[k]? = _ from hk]
  have c1 : w.cell? ⟨k, 1, none⟩ = some (.int .i64 r.at_) := by simp [World.cell?, show w.heap[k]? = _ from hk]
  have c2 : w.cell? ⟨k, 2, none⟩ = some (.int .i64 r.fr) := by simp [World.cell?, show w.heap[k]? = _ from hk]
  have c3 : w.cell? ⟨k, 3, none⟩ = some (.int .i64 r.to_) := by simp [World.cell?, show w.heap[k]? = _ from hk]
  have c4 : w.cell? ⟨k, 4, none⟩ = some (.slice a len cap) := by simp [World.cell?, show w.heap[k]? = _ from hk]
  clear hr hok hk
  go_enter Tryz.func81, Tryz.ntmps81
  go_wp2_with fail
  refine Calls.mono HT.out ?_
  rintro e w1 ⟨(⟨n, rfl, h0, h1, hf⟩ | ⟨n, rfl, hf⟩), hw1⟩
  · have HF : Hid (FirstR (OfRule r) t n) := hf
    clear hf
    go_wp2_with fail
    refine bodyPost_ret (v := .tuple #[.int .i64 n, .bool true]) ?_ rfl ?_
    · simp [results, Tryz.results81, go_sem]
    · exact ⟨.inl ⟨n, rfl, h0, h1, HF.out⟩, hw1⟩
  · have HF : Hid (FirstR (OfRule r) t (-1)) := hf
    clear hf
    go_wp2_with fail
    refine bodyPost_ret (v := .tuple #[.int .i64 n, .bool false]) ?_ rfl ?_
    · simp [results, Tryz.results81, go_sem]
    · exact ⟨.inr ⟨n, rfl, HF.out⟩, hw1⟩

/-- A part of a rule: its block lies from M on; what is left out lies where it lay in w0. -/
def PartAt (w0 W : World) (M : Nat) (u : Value) (r : Rul) : Prop := ∃ k a l c, u = fnOf k ∧ M ≤ k ∧ RulBox W k r (.slice a l c) ∧ IsRow .i64 w0 a l c r.but
def Parts (w0 W : World) (M : Nat) (v : Value) (ps : List Rul) : Prop :=
  ∃ us : List Value, ∃ hu : us.length = ps.length, W.ownsRow M 148 1 v ps.length us ∧ ∀ i (h : i < ps.length), PartAt w0 W M (us[i]'(by omega)) ps[i]
/-- What lies in blocks from M on, as cells, stands. -/
def KeptUp (M : Nat) (W W' : World) : Prop := ∀ (k : Nat) (c : Array Value) (t : TypeId) (fz : Nat × Nat), M ≤ k → W.heap[k]? = some (.cells c t fz) → W'.heap[k]? = some (.cells c t fz)
theorem KeptUp.below {M : Nat} {W W' : World} (h : Below W.heap.size W W') : KeptUp M W W' := fun k _ _ _ _ hk => (h.block k (Array.getElem?_eq_some_iff.1 hk).1).trans hk
theorem PartAt.keep {w0 W W' : World} {M : Nat} {u : Value} {r : Rul} (h : PartAt w0 W M u r) (hk : KeptUp M W W') : PartAt w0 W' M u r := by
  obtain ⟨k, a, l, c, h1, h2, h3, h4⟩ := h
  exact ⟨k, a, l, c, h1, h2, hk _ _ _ _ h2 h3, h4⟩
theorem own_keep {w w' : World} {M : Nat} {e : TypeId} {size : Nat} {v : Value} {n : Nat} {xs : List Value} (h : w.ownsRow M e size v n xs) (hk : KeptUp M w w') : w'.ownsRow M e size v n xs := by
  refine ⟨h.1, ?_⟩
  rcases h.2 with h | ⟨g, cap, cur, h1, h2, h3, h4⟩
  · exact .inl h
  · exact .inr ⟨g, cap, cur, h1, h2, hk _ _ _ _ h2 h3, h4⟩
theorem Parts.keep {w0 W W' : World} {M : Nat} {v : Value} {ps : List Rul} (h : Parts w0 W M v ps) (hk : KeptUp M W W') : Parts w0 W' M v ps := by
  obtain ⟨us, hu, h1, h2⟩ := h
  exact ⟨us, hu, own_keep h1 hk, fun i hi => (h2 i hi).keep hk⟩
theorem Parts.nil (w0 W : World) (M : Nat) : Parts w0 W M (.slice none 0 0) [] := ⟨[], rfl, World.ownsRow_nil _ _ _ _, fun i h => by simp at h⟩
/-- One part, by its place. -/
theorem Parts.at {w0 W : World} {M : Nat} {v : Value} {ps : List Rul} (h : Parts w0 W M v ps) {i : Nat} (hi : i < ps.length) : ∃ g cap k a l c, v = .slice (some ⟨g, 0, none⟩) ps.length cap ∧ ps.length ≤ cap ∧ W.cell? ⟨g, i, none⟩ = some (fnOf k) ∧ RulBox W k ps[i] (.slice a l c) ∧ IsRow .i64 w0 a l c ps[i].but := by
  obtain ⟨us, hu, h1, h2⟩ := h
  obtain ⟨k, a, l, c, e1, _, e3, e4⟩ := h2 i hi
  rcases h1.2 with ⟨_, hn⟩ | ⟨g, cap, cur, rfl, _, hg, hc, _, _, ht⟩
  · omega
  · refine ⟨g, cap, k, a, l, c, rfl, hc, ?_, e3, e4⟩
    have hq : us[i]? = some (fnOf k) := by rw [List.getElem?_eq_getElem (by omega), e1]
    rw [← ht, List.getElem?_take_of_lt (by omega)] at hq
    simp only [World.cell?, hg]
    simpa using hq
theorem Parts.form {w0 W : World} {M : Nat} {v : Value} {ps : List Rul} (h : Parts w0 W M v ps) : ∃ a c, v = .slice a ps.length c ∧ ps.length ≤ maxLen := by
  obtain ⟨us, hu, h1, _⟩ := h
  rcases h1.2 with ⟨rfl, hn⟩ | ⟨g, cap, cur, rfl, _, hg, hc, hm, _⟩
  · exact ⟨none, 0, by rw [hn], by rw [hn]; unfold maxLen; omega⟩
  · exact ⟨_, _, rfl, by omega⟩

theorem first_none (rs : List Rul) (t : Int) : FirstR (OfTo rs 0) t (-1) := .inl ⟨rfl, fun u _ ⟨i, _, h, _⟩ => by omega⟩

set_option maxRecDepth 4000 in
set_option maxHeartbeats 2000000 in
theorem leastAbove (w0 : World) (M : Nat) (ps : List Rul) (v : Value) (t : Int) (W : World) (hp : Parts w0 W M v ps) (hb0 : Sees w0 W) (hok : ∀ i (hi : i < ps.length), RuleOk ps[i]) (ht : -9223372036854775808 ≤ t) :
    Calls Tryz.prog 96 #[v, .int .i64 t] W fun x w' => Tells (OfTo ps ps.length) t x ∧ Below W.heap.size W w' := by
  obtain ⟨a, cp, rfl, hm⟩ := hp.form
  unfold maxLen at hm
  have HP : Hid (Parts w0 W M (.slice a ps.length cp) ps) := hp
  have HB0 : Hid _ := hb0
  have HOK : Hid (∀ i (hi : i < ps.length), RuleOk ps[i]) := hok
  clear hp hb0 hok
  go_enter Tryz.func96, Tryz.ntmps96
  go_wp2_with fail
  go_loopw [6, 7, 14] (fun l f i wr => ∃ (k : Nat) (b x : Int), k ≤ ps.length ∧ i = .int .i64 k ∧ FirstR (OfTo ps k) t b ∧ l = .int .i64 x ∧ ((b = -1 ∧ f = .bool false) ∨ (0 ≤ b ∧ b ≤ 100000 ∧ x = b ∧ f = .bool true)) ∧ Below W.heap.size W wr) (fun _ _ i _ => ps.length - (intOf i).toNat)
  case atStart => exact ⟨0, -1, 0, Nat.zero_le _, rfl, first_none _ _, rfl, .inl ⟨rfl, rfl⟩, Below.refl _ _⟩
  case round =>
    obtain ⟨k, b, x, hk, rfl, hfb, rfl, hst, hB⟩ := hrel
    have HFB : Hid (FirstR (OfTo ps k) t b) := hfb
    clear hfb
    by_cases hlt : k < ps.length
    · obtain ⟨g, cap, kk, a1, l1, c1, e1, hcap, hcell, hbox, hrow⟩ := (HP.out.keep (KeptUp.below hB)).at hlt
      have hT := tickFn ps[k] a1 l1 c1 kk t wr hbox ((HB0.out.below hB).rows _ _ _ _ hrow) (HOK.out k hlt) ht
      have HT : Hid _ := hT
      have HST : Hid (∀ u, (OfTo ps k u ∨ OfRule ps[k] u) ↔ OfTo ps (k + 1) u) := ofTo_step hlt
      have HPO : Hid (∀ u, OfTo ps k u → 0 ≤ u) := ofTo_nonneg HOK.out k
      have HQO : Hid (∀ u, OfRule ps[k] u → 0 ≤ u) := of_nonneg (HOK.out k hlt)
      cases e1
      unfold fnOf at hcell
      clear hbox hrow hT
      generalize ps[k] = rk at HT HST HQO
      have HT : Hid (Calls Tryz.prog 81 #[.int .i64 t, .pointer (some ⟨kk, 0, none⟩)] wr fun x w' => Tells (OfRule rk) t x ∧ Below wr.heap.size wr w') := HT
      rcases hst with ⟨rfl, rfl⟩ | ⟨hb1, hb2, rfl, rfl⟩
      · go_wp2_with fail
        refine Calls.mono HT.out ?_
        rintro e w1 ⟨(⟨n, rfl, h0, h1, hf⟩ | ⟨n, rfl, hf⟩), hw1⟩
        · have HF : Hid (FirstR (OfTo ps (k + 1)) t n) := (HFB.out.take hf HPO.out h0 (.inl (by omega))).congr HST.out
          clear hf
          go_wp2_with fail
          go_roundw
          case rel => exact ⟨k + 1, n, n, by omega, by go_num, HF.out, rfl, .inr ⟨h0, h1, rfl, rfl⟩, bcall hB hB.size hw1⟩
          case measure => simp [intOf]; omega
        · have HF : Hid (FirstR (OfTo ps (k + 1)) t (-1)) := (HFB.out.keep hf HPO.out HQO.out (.inl (by omega))).congr HST.out
          clear hf
          go_wp2_with fail
          go_roundw
          case rel => exact ⟨k + 1, -1, x, by omega, by go_num, HF.out, rfl, .inl ⟨rfl, rfl⟩, bcall hB hB.size hw1⟩
          case measure => simp [intOf]; omega
      · go_wp2_with fail
        refine Calls.mono HT.out ?_
        rintro e w1 ⟨(⟨n, rfl, h0, h1, hf⟩ | ⟨n, rfl, hf⟩), hw1⟩
        · by_cases hnb : n < x
          · have HF : Hid (FirstR (OfTo ps (k + 1)) t n) := (HFB.out.take hf HPO.out h0 (.inr hnb)).congr HST.out
            clear hf
            go_wp2_with fail
            go_roundw
            case rel => exact ⟨k + 1, n, n, by omega, by go_num, HF.out, rfl, .inr ⟨h0, h1, rfl, rfl⟩, bcall hB hB.size hw1⟩
            case measure => simp [intOf]; omega
          · have HF : Hid (FirstR (OfTo ps (k + 1)) t x) := (HFB.out.keep hf HPO.out HQO.out (.inr ⟨hb1, by omega⟩)).congr HST.out
            clear hf
            go_wp2_with fail
            go_roundw
            case rel => exact ⟨k + 1, x, x, by omega, by go_num, HF.out, rfl, .inr ⟨hb1, hb2, rfl, rfl⟩, bcall hB hB.size hw1⟩
            case measure => simp [intOf]; omega
        · have HF : Hid (FirstR (OfTo ps (k + 1)) t x) := (HFB.out.keep hf HPO.out HQO.out (.inl (by omega))).congr HST.out
          clear hf
          go_wp2_with fail
          go_roundw
          case rel => exact ⟨k + 1, x, x, by omega, by go_num, HF.out, rfl, .inr ⟨hb1, hb2, rfl, rfl⟩, bcall hB hB.size hw1⟩
          case measure => simp [intOf]; omega
    · obtain rfl : k = ps.length := by omega
      rcases hst with ⟨rfl, rfl⟩ | ⟨hb1, hb2, rfl, rfl⟩
      · go_wp2_with fail
        refine bodyPost_ret (v := .tuple #[.int .i64 x, .bool false]) ?_ rfl ?_
        · simp [results, Tryz.results96, go_sem]
        · exact ⟨.inr ⟨x, rfl, HFB.out⟩, hB⟩
      · go_wp2_with fail
        refine bodyPost_ret (v := .tuple #[.int .i64 x, .bool true]) ?_ rfl ?_
        · simp [results, Tryz.results96, go_sem]
        · exact ⟨.inl ⟨x, rfl, hb1, hb2, HFB.out⟩, hB⟩
end Go.Proofs.YtghocdiddolinaaGreatDoor
