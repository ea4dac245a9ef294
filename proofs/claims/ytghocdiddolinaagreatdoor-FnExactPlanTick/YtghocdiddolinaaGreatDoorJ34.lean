/- The program's own calendars: what is found wrong with them. -/
import Derived.Test.YtghocdiddolinaaGreatDoorJ18
import Derived.Test.YtghocdiddolinaaGreatDoorJ19
import Derived.Test.YtghocdiddolinaaGreatDoorJ30
import Derived.Test.YtghocdiddolinaaGreatDoorJ27
import Derived.Test.YtghocdiddolinaaGreatDoorJ20
namespace Go.Proofs.YtghocdiddolinaaGreatDoor
set_option linter.unusedVariables false
set_option linter.unusedSimpArgs false
open Go.RowKit Go
namespace Pl
open Dr (ButO rowB rowB_own rowB_pos)

/-- The world, cut off behind its first blocks. -/
def cutP (w : World) (R : Nat) : World := { w with heap := w.heap.extract 0 R }
theorem cutP_size {w : World} {R : Nat} (h : R ≤ w.heap.size) : (cutP w R).heap.size = R := by simp [cutP]; omega
theorem cutP_block {w : World} {R k : Nat} (h : k < R) (hR : R ≤ w.heap.size) : (cutP w R).heap[k]? = w.heap[k]? := by
  simp only [cutP, Array.getElem?_extract]
  rw [if_pos (by omega), Nat.zero_add]
theorem cutP_below {w : World} {R : Nat} (hR : R ≤ w.heap.size) : Below R (cutP w R) w := ⟨rfl, rfl, rfl, by rw [cutP_size hR]; exact hR, fun k hk => (cutP_block hk hR).symm⟩
theorem copyIntsN (a : Option Addr) (len cap : Nat) (zs : List Int) (w : World) (hr : IsRow .i64 w a len cap zs) (hs : len ≤ 1048576) :
    Calls Tryz.prog 75 #[.slice a len cap, .func (.func 76) #[] #[]] w fun e w' => (∃ v, e = .returned v ∧ w'.ownsRow w.heap.size 3 1 v len (zs.map (Value.int .i64)) ∧ NZ v) ∧ Below w.heap.size w w' := by
  by_cases h0 : len = 0
  · have hz := hr.len.1
    subst h0
    have hz0 : zs = [] := List.length_eq_zero_iff.1 hz
    subst hz0
    clear hr hz
    go_enter Tryz.func75, Tryz.ntmps75
    go_wp2
    go_ret
    exact ⟨⟨_, rfl, World.ownsRow_nil _ _ _ _, nz_none⟩, Below.refl _ _⟩
  · refine (copyInts a len cap zs w hr hs).mono ?_
    rintro e w' ⟨⟨v, rfl, hn⟩, hb⟩
    obtain ⟨b, c, rfl⟩ := own_form hn
    exact ⟨⟨_, rfl, hn, nz_pos (by omega)⟩, hb⟩

set_option maxHeartbeats 2000000 in
theorem copyPlanU (ra : Option Addr) (rl rc : Nat) (ga : Option Addr) (gl gc : Nat) (wa : Option Addr) (wl wk : Nat) (ta : Option Addr) (tl tc : Nat) (p : Pla) (w : World) (hp : IsPla w ra rl rc ga gl gc wa wl wk ta tl tc p) (hs : plaSmall p) :
    Calls Tryz.prog 52 #[.agg #[.slice ra rl rc, .int .i64 p.pol, .int .i64 p.win, .int .i64 p.last, .slice ga gl gc, .slice wa wl wk, .slice ta tl tc]] w fun e w' => (∃ a0 k0 vs a4 k4 a5 k5 a6 k6 F', e = .returned (.agg #[.slice a0 rl k0, .int .i64 p.pol, .int .i64 p.win, .int .i64 p.last, .slice a4 gl k4, .slice a5 wl k5, .slice a6 tl k6]) ∧ w.heap.size ≤ F' ∧ F' ≤ w'.heap.size ∧ (∃ w0, w0.heap.size = F' ∧ Below F' w0 w' ∧ Cal.GathV w0 w.heap.size (.slice a0 rl k0) vs p.rs) ∧ (∀ i (hi : i < vs.length), ∀ b, vs[i].ownBlock = some b → b < F') ∧ Und w' F' (.slice a4 gl k4) (.slice a5 wl k5) (.slice a6 tl k6) (.slice none 0 0) p.goes p.waits p.told [] ∧ NZ (.slice a4 gl k4) ∧ NZ (.slice a5 wl k5)) ∧ Below w.heap.size w w' := by
  have hr := (IsRecs.len hp.1).1
  have hg := (hp.2.1.len).1
  have hw := (hp.2.2.1.len).1
  have ht := (IsRecs.len hp.2.2.2).1
  obtain ⟨s1, s2, s3, s4, s5⟩ := hs
  have HP : Hid _ := hp
  clear hp
  have T1 : Hid (∀ w', Below w.heap.size w w' → Calls Tryz.prog 73 #[.slice ra rl rc, .func (.func 74) #[] #[]] w' fun e w'' => (∃ v vs, e = .returned v ∧ Cal.GathV w'' w'.heap.size v vs p.rs) ∧ Below w'.heap.size w' w'') := fun w' hb => copyRules _ _ _ p.rs w' (IsPla.below HP.out hb).1 (by omega) s2
  have T2 : Hid (∀ w', Below w.heap.size w w' → Calls Tryz.prog 75 #[.slice ga gl gc, .func (.func 76) #[] #[]] w' fun e w'' => (∃ v, e = .returned v ∧ w''.ownsRow w'.heap.size 3 1 v gl (p.goes.map (Value.int .i64)) ∧ NZ v) ∧ Below w'.heap.size w' w'') := fun w' hb => copyIntsN _ _ _ p.goes w' (IsPla.below HP.out hb).2.1 (by omega)
  have T3 : Hid (∀ w', Below w.heap.size w w' → Calls Tryz.prog 75 #[.slice wa wl wk, .func (.func 76) #[] #[]] w' fun e w'' => (∃ v, e = .returned v ∧ w''.ownsRow w'.heap.size 3 1 v wl (p.waits.map (Value.int .i64)) ∧ NZ v) ∧ Below w'.heap.size w' w'') := fun w' hb => copyIntsN _ _ _ p.waits w' (IsPla.below HP.out hb).2.2.1 (by omega)
  have T4 : Hid (∀ w', Below w.heap.size w w' → Calls Tryz.prog 77 #[.slice ta tl tc, .func (.func 78) #[] #[]] w' fun e w'' => (∃ v, e = .returned v ∧ w''.ownsRow w'.heap.size 61 2 v tl (flatT p.told)) ∧ Below w'.heap.size w' w'') := fun w' hb => copyTolds _ _ _ p.told w' (IsPla.below HP.out hb).2.2.2 (by omega)
  clear s2
  have hbx := boxes2_new w 31 31 #[.slice ra rl rc, .int .i64 p.pol, .int .i64 p.win, .int .i64 p.last, .slice ga gl gc, .slice wa wl wk, .slice ta tl tc] #[.slice none 0 0, .int .i64 0, .int .i64 0, .int .i64 0, .slice none 0 0, .slice none 0 0, .slice none 0 0]
  have HBX : Hid _ := hbx
  clear hbx
  have hbe : ∀ (i : Nat) (v : Value) (W : World), Below w.heap.size w W → Below w.heap.size w (W.setCell ⟨w.heap.size, i, none⟩ v) := fun i v W h => h.setCell (p := ⟨w.heap.size, i, none⟩) (Nat.le_refl _) v
  have HBE : Hid _ := hbe
  clear hbe
  go_enter Tryz.func52, Tryz.ntmps52
  go_wp2_with fail
  refine (T1.out _ (by first | exact ((Below.refl _ _).alloc (Nat.le_refl _) _).alloc (by simp) _)).mono ?_
  rintro e w1 ⟨⟨v0, vs, rfl, hn1⟩, hb1⟩
  obtain ⟨a0, k0, rfl⟩ := own_form hn1.2.1
  rw [hr] at hn1 ⊢
  have HX1 : Hid _ := HBX.out.1.below hb1
  have HY1 : Hid _ := HBX.out.2.below hb1
  have HLO : Hid (∀ i (hi : i < vs.length), ∀ b, vs[i].ownBlock = some b → b < w1.heap.size) := fun i hi b hb => (World.ownsRow.lt (hn1.2.2.1 i (by have := hn1.1; omega)).1 b hb).2
  have HN1 : Hid _ := gathV_base hn1 (base' := w.heap.size) (by simp; omega)
  have HB1 : Hid _ := bcall (((Below.refl w.heap.size w).alloc (Nat.le_refl _) _).alloc (by simp) _) (by simp; omega) hb1
  have hz1 : w.heap.size + 1 + 1 ≤ w1.heap.size := by have := hb1.size; simpa using this
  clear hn1 hb1
  obtain ⟨x0, x1, x2, x3, x4, x5, x6, xf⟩ := sevenOf HX1.out
  go_wp2_with fail
  obtain ⟨y1, z1⟩ := box_set HX1.out 0 (.slice a0 rl k0) rfl
  have yb := HBE.out 0 (.slice a0 rl k0) _ HB1.out
  refine (T2.out _ yb).mono ?_
  rintro e w2 ⟨⟨v4, rfl, hn2, hnz2⟩, hb2⟩
  obtain ⟨a4, k4, rfl⟩ := own_form hn2
  have HZ2 : Hid _ := hnz2
  clear hnz2
  have HX2 : Hid _ := y1.below hb2
  have HY2 : Hid _ := (holds_else HY1.out (M := w.heap.size) (by omega) 0 (.slice a0 rl k0)).below hb2
  have zz := z1.trans (SameP.below hb2)
  have HN1b : Hid _ := GathV_same HN1.out zz.toT
  have HL4 : Hid (∀ b, (Value.slice a4 gl k4).ownBlock = some b → w1.heap.size ≤ b ∧ b < w2.heap.size) := fun b hb => by have := World.ownsRow.lt hn2 b hb; simpa using this
  have HN2 : Hid _ := Cal.own_base hn2 (base' := w1.heap.size) (by simp)
  have HS2 : Hid (SameP w1 w2) := zz
  have HB2 : Hid _ := bcall yb (by have := HB1.out.size; simpa using this) hb2
  have hz2 : w1.heap.size ≤ w2.heap.size := by have := hb2.size; simpa using this
  clear y1 z1 yb hb2 hn2 zz x0 x1 x2 x3 x4 x5 x6 xf
  obtain ⟨x0, x1, x2, x3, x4, x5, x6, xf⟩ := sevenOf HX2.out
  go_wp2_with fail
  obtain ⟨y1, z1⟩ := box_set HX2.out 4 (.slice a4 gl k4) rfl
  have yb := HBE.out 4 (.slice a4 gl k4) _ HB2.out
  refine (T3.out _ yb).mono ?_
  rintro e w3 ⟨⟨v5, rfl, hn3, hnz3⟩, hb3⟩
  obtain ⟨a5, k5, rfl⟩ := own_form hn3
  have HZ3 : Hid _ := hnz3
  clear hnz3
  have HX3 : Hid _ := y1.below hb3
  have HY3 : Hid _ := (holds_else HY2.out (M := w.heap.size) (by omega) 4 (.slice a4 gl k4)).below hb3
  have zz := z1.trans (SameP.below hb3)
  have HN1c : Hid _ := GathV_same HN1b.out zz.toT
  have HN2c : Hid _ := own_same HN2.out zz (.inr (.inl rfl))
  have HL5 : Hid (∀ b, (Value.slice a5 wl k5).ownBlock = some b → w2.heap.size ≤ b) := fun b hb => by have := (World.ownsRow.lt hn3 b hb).1; simpa using this
  have HN3 : Hid _ := Cal.own_base hn3 (base' := w2.heap.size) (by simp)
  have HS3 : Hid (SameP w1 w3) := HS2.out.trans zz
  have hl4b : w2.heap.size ≤ w3.heap.size := by have := hb3.size; simpa using this
  have HL4b : Hid (w2.heap.size ≤ w3.heap.size) := hl4b
  clear hl4b
  have HB3 : Hid _ := bcall yb (by have := HB2.out.size; simpa using this) hb3
  have hz3 : w2.heap.size ≤ w3.heap.size := by have := hb3.size; simpa using this
  clear y1 z1 yb hb3 hn3 zz x0 x1 x2 x3 x4 x5 x6 xf
  obtain ⟨x0, x1, x2, x3, x4, x5, x6, xf⟩ := sevenOf HX3.out
  go_wp2_with fail
  obtain ⟨y1, z1⟩ := box_set HX3.out 5 (.slice a5 wl k5) rfl
  have yb := HBE.out 5 (.slice a5 wl k5) _ HB3.out
  refine (T4.out _ yb).mono ?_
  rintro e w4 ⟨⟨v6, rfl, hn4⟩, hb4⟩
  obtain ⟨a6, k6, rfl⟩ := own_form hn4
  have HX4 : Hid _ := y1.below hb4
  have HY4 : Hid _ := (holds_else HY3.out (M := w.heap.size) (by omega) 5 (.slice a5 wl k5)).below hb4
  have zz := z1.trans (SameP.below hb4)
  have HN1d : Hid _ := GathV_same HN1c.out zz.toT
  have HN2d : Hid _ := own_same HN2c.out zz (.inr (.inl rfl))
  have HN3d : Hid _ := own_same HN3.out zz (.inr (.inl rfl))
  have HN4 : Hid _ := Cal.own_base hn4 (base' := w3.heap.size) (by simp)
  have HS4 : Hid (SameP w1 w4) := HS3.out.trans zz
  have HB4 : Hid _ := bcall yb (by have := HB3.out.size; simpa using this) hb4
  clear y1 z1 yb hb4 hn4 zz x0 x1 x2 x3 x4 x5 x6 xf
  obtain ⟨x0, x1, x2, x3, x4, x5, x6, xf⟩ := sevenOf HX4.out
  obtain ⟨b0, b1, b2, b3, b4, b5, b6, bf⟩ := sevenOf HY4.out
  go_wp2_with fail
  have fill : SameP w4 ((((((((w4.setCell ⟨w.heap.size, 6, none⟩ (.slice a6 tl k6)).setCell ⟨w.heap.size + 1, 0, none⟩ (.slice a0 rl k0)).setCell ⟨w.heap.size + 1, 1, none⟩ (.int .i64 p.pol)).setCell ⟨w.heap.size + 1, 2, none⟩ (.int .i64 p.win)).setCell ⟨w.heap.size + 1, 3, none⟩ (.int .i64 p.last)).setCell ⟨w.heap.size + 1, 4, none⟩ (.slice a4 gl k4)).setCell ⟨w.heap.size + 1, 5, none⟩ (.slice a5 wl k5)).setCell ⟨w.heap.size + 1, 6, none⟩ (.slice a6 tl k6)) := by
    obtain ⟨_, z⟩ := box_set HX4.out 6 (.slice a6 tl k6) rfl
    have y := holds_else HY4.out (M := w.heap.size) (by omega) 6 (.slice a6 tl k6)
    obtain ⟨y0, z0⟩ := box_set y 0 (.slice a0 rl k0) rfl
    obtain ⟨y1, z1⟩ := box_set y0 1 (.int .i64 p.pol) rfl
    obtain ⟨y2, z2⟩ := box_set y1 2 (.int .i64 p.win) rfl
    obtain ⟨y3, z3⟩ := box_set y2 3 (.int .i64 p.last) rfl
    obtain ⟨y4, z4⟩ := box_set y3 4 (.slice a4 gl k4) rfl
    obtain ⟨y5, z5⟩ := box_set y4 5 (.slice a5 wl k5) rfl
    obtain ⟨_, z6⟩ := box_set y5 6 (.slice a6 tl k6) rfl
    exact ((((((z.trans z0).trans z1).trans z2).trans z3).trans z4).trans z5).trans z6
  refine bodyPost_ret (v := .agg #[.slice a0 rl k0, .int .i64 p.pol, .int .i64 p.win, .int .i64 p.last, .slice a4 gl k4, .slice a5 wl k5, .slice a6 tl k6]) ?_ rfl ?_
  · simp [results, Tryz.results52, go_sem, b0, b1, b2, b3, b4, b5, b6]
  · have hs := HS4.out.trans fill
    have q2 : ButO w4 w1.heap.size (.slice a4 gl k4) p.goes := .inr (by rw [hg]; exact HN2d.out)
    have q3 : ButO w4 w2.heap.size (.slice a5 wl k5) p.waits := .inr (by rw [hw]; exact HN3d.out)
    have q4 : TO w4 w3.heap.size (.slice a6 tl k6) p.told := TO.of_own (by rw [ht]; exact HN4.out)
    refine ⟨⟨a0, k0, vs, a4, k4, a5, k5, a6, k6, w1.heap.size, rfl, by have := HB1.out.size; omega, hs.size, ⟨cutP _ w1.heap.size, cutP_size hs.size, cutP_below hs.size, gathV_stay HN1.out (fun b e => by
      have hl := World.ownsRow.lt HN1.out.2.1 b e
      obtain ⟨c, hk⟩ := Cal.own_int_block HN1.out.2.1 e
      rw [cutP_block hl.2 hs.size, hk]
      exact hs.rows b c _ _ (.inl rfl) hk) (fun i hi b e => by
      have hl := World.ownsRow.lt (HN1.out.2.2.1 i (by have := HN1.out.1; omega)).1 b e
      obtain ⟨c, hk⟩ := Cal.own_int_block (HN1.out.2.2.1 i (by have := HN1.out.1; omega)).1 e
      rw [cutP_block hl.2 hs.size, hk]
      exact hs.rows b c _ _ (.inr (.inl rfl)) hk)⟩, HLO.out, (und_copy q2 q3 q4 (Nat.le_refl _) hz2 (by have := HL4b.out; omega) (fun b e => (HL4.out b (rowB_own e)).2)).same fill, HZ2.out, HZ3.out⟩, ?_⟩
    · have hq := HB4.out
      exact (((((((hq.setCell (by simp only; omega) _).setCell (by simp only; omega) _).setCell (by simp only; omega) _).setCell (by simp only; omega) _).setCell (by simp only; omega) _).setCell (by simp only; omega) _).setCell (by simp only; omega) _).setCell (by simp only; omega) _
end Pl
end Go.Proofs.YtghocdiddolinaaGreatDoor

namespace Go.Proofs.YtghocdiddolinaaGreatDoor
set_option linter.unusedVariables false
set_option linter.unusedSimpArgs false
open Go.RowKit Go

/-- What is found wrong with rules: nothing, just if they are ok. -/
def Looked (e : Ending) (rs : List Rul) : Prop := (e = .returned .nilIface ∧ calOk rs = true) ∨ ∃ z : Int, e = .returned (.iface 121 (.agg #[.int .i64 z])) ∧ calOk rs = false

set_option maxHeartbeats 1000000 in
theorem lookedAtRules (a : Option Addr) (len cap : Nat) (rs : List Rul) (w : World) (hr : IsRuls w a len cap rs) :
    Calls Tryz.prog 87 #[.slice a len cap] w fun e w' => Looked e rs ∧ Below w.heap.size w w' := by
  obtain ⟨hz, hm⟩ := IsRecs.len hr
  unfold maxLen at hm
  have HR : Hid (IsRuls w a len cap rs) := hr
  clear hr
  have HT : Hid (∀ n lo hi w, lo ≤ n ∧ n ≤ hi → Calls Tryz.prog 67 #[.int .i64 n, .int .i64 lo, .int .i64 hi] w fun x w' => x = .returned (.bool true) ∧ w' = w) := fun n lo hi w h => isWithin_t n lo hi h w
  have HN : Hid (∀ n lo hi w, ¬ (lo ≤ n ∧ n ≤ hi) → Calls Tryz.prog 67 #[.int .i64 n, .int .i64 lo, .int .i64 hi] w fun x w' => x = .returned (.bool false) ∧ w' = w) := fun n lo hi w h => isWithin_f n lo hi h w
  by_cases hn : (1 : Int) ≤ (len : Int) ∧ (len : Int) ≤ 4
  · go_enter Tryz.func87, Tryz.ntmps87
    go_wp2_with (go_at_call 67; refine (HT.out _ _ _ _ hn).mono ?_; rintro e w1 ⟨rfl, hw⟩; subst w1)
    go_loopw [13] (fun i wr => ∃ q : Nat, i = .int .i64 q ∧ q ≤ len ∧ (∀ i (hi : i < rs.length), i < q → ruleOk rs[i] = true) ∧ Below w.heap.size w wr) (fun i _ => len - (intOf i).toNat)
    case atStart => exact ⟨0, rfl, Nat.zero_le _, fun i _ h => by omega, Below.refl _ _⟩
    case round =>
      obtain ⟨q, rfl, hq, hok, hb⟩ := hrel
      by_cases hlt : q < len
      · obtain ⟨b, off, rfl, h1, hbl, a1, l1, k1, c0, c1, c2, c3, c4, hrow1, _⟩ := IsRuls.at (IsRuls.below HR.out hb) (i := q) (by omega)
        have HE := fun o => implRuleOk rs[q] a1 l1 k1 (wr.alloc o) (hrow1.alloc o)
        by_cases hy : ruleOk rs[q] = true
        · have HOK : Hid (∀ i (hi : i < rs.length), i < q + 1 → ruleOk rs[i] = true) := fun i hi hiq => by
            by_cases e : i = q
            · subst e; exact hy
            · exact hok i hi (by omega)
          rw [hy] at HE
          have HE : Hid _ := HE
          clear hok hy
          go_wp2_with fail
          refine Calls.mono (HE.out _) ?_
          rintro e w1 ⟨rfl, hw1⟩
          go_wp2_with fail
          go_roundw
          case rel => exact ⟨q + 1, by go_num, by omega, HOK.out, bcall (hb.alloc hb.size _) (by have := hb.size; simp; omega) hw1⟩
          case measure => simp [intOf]; omega
        · have hy : ruleOk rs[q] = false := by simpa using hy
          have HF : Hid (calOk rs = false) := calOk_no (by omega) hy
          rw [hy] at HE
          have HE : Hid _ := HE
          clear hok hy
          go_wp2_with fail
          refine Calls.mono (HE.out _) ?_
          rintro e w1 ⟨rfl, hw1⟩
          go_wp2_with fail
          go_ret
          exact ⟨.inr ⟨_, rfl, HF.out⟩, bcall (hb.alloc hb.size _) (by have := hb.size; simp; omega) hw1⟩
      · have hf := calOk_all fun i hi => hok i hi (by omega)
        rw [hz, decide_eq_true hn] at hf
        have HF : Hid (calOk rs = true) := hf
        clear hok hf
        go_wp2_with fail
        go_ret
        exact ⟨.inl ⟨rfl, HF.out⟩, hb⟩
  · have HF : Hid (calOk rs = false) := by
      show calOk rs = false
      unfold calOk
      rw [hz, decide_eq_false hn, Bool.and_false]
    go_enter Tryz.func87, Tryz.ntmps87
    go_wp2_with (go_at_call 67; refine (HN.out _ _ _ _ hn).mono ?_; rintro e w1 ⟨rfl, hw⟩; subst w1)
    go_ret
    exact ⟨.inr ⟨0, rfl, HF.out⟩, Below.refl _ _⟩
end Go.Proofs.YtghocdiddolinaaGreatDoor
