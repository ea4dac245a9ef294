/- The program's own plans: what was told; what waits lies behind what goes on. -/
import Derived.Test.YtghocdiddolinaaGreatDoorJ41
import Derived.Test.YtghocdiddolinaaGreatDoorJ24
import Derived.BigQuiet
namespace Go.Proofs.YtghocdiddolinaaGreatDoor
set_option linter.unusedVariables false
set_option linter.unusedSimpArgs false
open Go.RowKit Go
namespace Pl

set_option maxHeartbeats 1000000 in
theorem hasCome (ra : Option Addr) (rl rc : Nat) (rs : List Rul) (pol win last : Int) (v4 v5 v6 : Value) (t : Int) (w : World) (hr : IsRuls w ra rl rc rs) (hg : ErrT w) :
    Calls Tryz.prog 91 #[.agg #[.slice ra rl rc, .int .i64 pol, .int .i64 win, .int .i64 last, v4, v5, v6], .int .i64 t] w fun e w' => e = .returned (.bool (decide (t ≤ last) && calDue rs t)) ∧ Below w.heap.size w w' := by
  have HD : Hid (∀ o, Calls Tryz.prog 102 #[.slice ra rl rc, .int .i64 t] (w.alloc o) fun e w' => e = .returned (.bool (calDue rs t)) ∧ Below (w.alloc o).heap.size (w.alloc o) w') := fun o => implCalDue ra rl rc rs t (w.alloc o) (hr.alloc o) (hg.below ((Below.refl _ _).alloc (Nat.le_refl _) _))
  clear hr hg
  generalize calDue rs t = v at HD
  by_cases h : t ≤ last
  · have HE : Hid (v = (decide (t ≤ last) && v)) := by rw [decide_eq_true h, Bool.true_and]; trivial
    go_enter Tryz.func91, Tryz.ntmps91
    go_wp2_with fail
    refine (HD.out _).mono ?_
    rintro e w1 ⟨rfl, hb⟩
    have HB : Hid _ := unbox (below_box hb)
    clear hb
    go_wp2_with fail
    go_ret
    exact ⟨ret_bool HE.out, HB.out⟩
  · have hd : decide (t ≤ last) = false := decide_eq_false h
    have HE : Hid (false = (decide (t ≤ last) && v)) := by rw [hd, Bool.false_and]; trivial
    go_enter Tryz.func91, Tryz.ntmps91
    go_wp2_with fail
    go_ret
    exact ⟨ret_bool (by first | rfl | exact HE.out), (Below.refl _ _).alloc (Nat.le_refl _) _⟩

/-- A plan's box: its seven cells. -/
def PlaBox (w : World) (pb : Nat) (ra : Option Addr) (rl rc : Nat) (pol win last : Int) (v4 v5 v6 : Value) : Prop :=
  w.cell? ⟨pb, 0, none⟩ = some (.slice ra rl rc) ∧ w.cell? ⟨pb, 1, none⟩ = some (.int .i64 pol) ∧ w.cell? ⟨pb, 2, none⟩ = some (.int .i64 win) ∧ w.cell? ⟨pb, 3, none⟩ = some (.int .i64 last) ∧ w.cell? ⟨pb, 4, none⟩ = some v4 ∧ w.cell? ⟨pb, 5, none⟩ = some v5 ∧ w.cell? ⟨pb, 6, none⟩ = some v6
theorem PlaBox.below {w w' : World} {pb : Nat} {ra : Option Addr} {rl rc : Nat} {pol win last : Int} {v4 v5 v6 : Value} (h : PlaBox w pb ra rl rc pol win last v4 v5 v6) (hb : Below w.heap.size w w') : PlaBox w' pb ra rl rc pol win last v4 v5 v6 := by
  have k : ∀ {i v}, w.cell? ⟨pb, i, none⟩ = some v → w'.cell? ⟨pb, i, none⟩ = some v := fun h => (hb.cell (World.block_lt_of_cell? _ _ h)).trans h
  exact ⟨k h.1, k h.2.1, k h.2.2.1, k h.2.2.2.1, k h.2.2.2.2.1, k h.2.2.2.2.2.1, k h.2.2.2.2.2.2⟩
theorem PlaBox.new {w w' : World} {t : TypeId} {ra : Option Addr} {rl rc : Nat} {pol win last : Int} {v4 v5 v6 : Value} (h : Below (w.heap.size + 1) (w.alloc (.cells #[.slice ra rl rc, .int .i64 pol, .int .i64 win, .int .i64 last, v4, v5, v6] t)) w') : PlaBox w' w.heap.size ra rl rc pol win last v4 v5 v6 :=
  ⟨boxAt h rfl, boxAt h rfl, boxAt h rfl, boxAt h rfl, boxAt h rfl, boxAt h rfl, boxAt h rfl⟩

set_option maxHeartbeats 1000000 in
theorem timesFn (pb : Nat) (ra : Option Addr) (rl rc : Nat) (rs : List Rul) (pol win last : Int) (v4 v5 v6 : Value) (t : Int) (w : World) (hp : PlaBox w pb ra rl rc pol win last v4 v5 v6) (hr : IsRuls w ra rl rc rs) (hg : ErrT w) :
    Calls Tryz.prog 90 #[.int .i64 t, .pointer (some ⟨pb, 0, none⟩)] w fun e w' => e = .returned (.bool (decide (t ≤ last) && calDue rs t)) ∧ Below w.heap.size w w' := by
  have HC : Hid _ := hasCome ra rl rc rs pol win last v4 v5 v6 t w hr hg
  clear hr hg
  obtain ⟨c0, c1, c2, c3, c4, c5, c6⟩ := hp
  go_enter Tryz.func90, Tryz.ntmps90
  go_wp2_with fail
  refine Calls.mono HC.out ?_
  rintro e w1 ⟨rfl, hb⟩
  have HB : Hid _ := hb
  clear hb
  go_wp2_with fail
  go_ret
  exact ⟨rfl, HB.out⟩

set_option maxHeartbeats 1000000 in
theorem allHoldTimes (pb : Nat) (ra : Option Addr) (rl rc : Nat) (rs : List Rul) (pol win last : Int) (v4 v5 v6 : Value) (a : Option Addr) (len cap : Nat) (l : List Int) (w : World) (hp : PlaBox w pb ra rl rc pol win last v4 v5 v6) (hr : IsRuls w ra rl rc rs) (hg : ErrT w) (hl : IsRow .i64 w a len cap l) :
    Calls Tryz.prog 89 #[.slice a len cap, .func (.func 90) #[] #[.pointer (some ⟨pb, 0, none⟩)]] w fun e w' => SaysIf e (∀ i, i < l.length → l.getD i 0 ≤ last ∧ calDue rs (l.getD i 0) = true) ∧ Below w.heap.size w w' := by
  obtain ⟨hz, hm⟩ := hl.len
  unfold maxLen at hm
  have HL : Hid (IsRow .i64 w a len cap l) := hl
  have HF : Hid (∀ t w', Below w.heap.size w w' → Calls Tryz.prog 90 #[.int .i64 t, .pointer (some ⟨pb, 0, none⟩)] w' fun e w'' => e = .returned (.bool (decide (t ≤ last) && calDue rs t)) ∧ Below w'.heap.size w' w'') := fun t w' hb => timesFn pb ra rl rc rs pol win last v4 v5 v6 t w' (hp.below hb) (hr.below hb) (hg.below hb)
  clear hl hp hr hg
  go_enter Tryz.func89, Tryz.ntmps89
  go_wp2
  go_loopw [9] (fun i wr => ∃ k : Nat, k ≤ len ∧ i = .int .i64 k ∧ (∀ i, i < k → l.getD i 0 ≤ last ∧ calDue rs (l.getD i 0) = true) ∧ Below w.heap.size w wr) (fun i _ => len - (intOf i).toNat)
  case atStart => exact ⟨0, Nat.zero_le _, rfl, fun i h => by omega, Below.refl _ _⟩
  case round =>
    obtain ⟨k, hk, rfl, hn, hb⟩ := hrel
    have HN : Hid (∀ i, i < k → l.getD i 0 ≤ last ∧ calDue rs (l.getD i 0) = true) := hn
    have HB : Hid _ := hb
    clear hn hb
    by_cases hlt : k < len
    · obtain ⟨b, off, rfl, h1, h2, hc⟩ := IsRow.at (HL.out.below HB.out) hlt
      have hT := HF.out (l.getD k 0) wr HB.out
      by_cases hin : l.getD k 0 ≤ last ∧ calDue rs (l.getD k 0) = true
      · have HN1 : Hid (∀ i, i < k + 1 → l.getD i 0 ≤ last ∧ calDue rs (l.getD i 0) = true) := fun i hi => by
          by_cases e : i = k
          · subst e; exact hin
          · exact HN.out i (by omega)
        rw [hin.2, decide_eq_true hin.1] at hT
        have HT : Hid _ := hT
        clear hin hT
        generalize l.getD k 0 = z at hc HT
        go_wp2_with fail
        refine Calls.mono HT.out ?_
        rintro e w1 ⟨rfl, hb1⟩
        have HB1 : Hid _ := bcall HB.out HB.out.size hb1
        clear hb1
        go_wp2_with fail
        go_roundw
        case rel => exact ⟨k + 1, by omega, by go_num, HN1.out, HB1.out⟩
        case measure => simp [intOf]; omega
      · have HFA : Hid (¬ ∀ i, i < l.length → l.getD i 0 ≤ last ∧ calDue rs (l.getD i 0) = true) := fun h => hin (h k (by omega))
        have hv : (decide (l.getD k 0 ≤ last) && calDue rs (l.getD k 0)) = false := by
          rw [Bool.and_eq_false_iff]
          by_cases h : l.getD k 0 ≤ last
          · exact .inr (by simpa using fun h2 => hin ⟨h, h2⟩)
          · exact .inl (decide_eq_false h)
        rw [hv] at hT
        have HT : Hid _ := hT
        clear hin hT hv
        generalize l.getD k 0 = z at hc HT
        go_wp2_with fail
        refine Calls.mono HT.out ?_
        rintro e w1 ⟨rfl, hb1⟩
        have HB1 : Hid _ := bcall HB.out HB.out.size hb1
        clear hb1
        go_wp2_with fail
        go_ret
        exact ⟨⟨false, rfl, by simpa using HFA.out⟩, HB1.out⟩
    · have HFA : Hid (∀ i, i < l.length → l.getD i 0 ≤ last ∧ calDue rs (l.getD i 0) = true) := fun i hi => HN.out i (by omega)
      clear HN
      go_wp2
      go_ret
      exact ⟨⟨true, rfl, by simpa using HFA.out⟩, HB.out⟩

set_option maxHeartbeats 1000000 in
theorem timesOk (ra : Option Addr) (rl rc : Nat) (rs : List Rul) (pol win last : Int) (v4 v5 v6 : Value) (a : Option Addr) (len cap : Nat) (l : List Int) (w : World) (hr : IsRuls w ra rl rc rs) (hg : ErrT w) (hl : IsRow .i64 w a len cap l) (hok : calOk rs = true) :
    Calls Tryz.prog 68 #[.agg #[.slice ra rl rc, .int .i64 pol, .int .i64 win, .int .i64 last, v4, v5, v6], .slice a len cap] w fun e w' => e = .returned (.bool (times rs last l)) ∧ Below w.heap.size w w' := by
  have HA : Hid (∀ w', Below w.heap.size w w' → Calls Tryz.prog 88 #[.slice a len cap, .func (.func 76) #[] #[]] w' fun e w'' => SaysIf e (Asc l) ∧ ∃ q, w'' = w'.drewN q) := fun w' hb => ascendsInt a len cap l w' (hl.below hb)
  have HH : Hid (∀ pb w', Below w.heap.size w w' → PlaBox w' pb ra rl rc pol win last v4 v5 v6 → Calls Tryz.prog 89 #[.slice a len cap, .func (.func 90) #[] #[.pointer (some ⟨pb, 0, none⟩)]] w' fun e w'' => SaysIf e (∀ i, i < l.length → l.getD i 0 ≤ last ∧ calDue rs (l.getD i 0) = true) ∧ Below w'.heap.size w' w'') := fun pb w' hb h => allHoldTimes pb ra rl rc rs pol win last v4 v5 v6 a len cap l w' h (hr.below hb) (hg.below hb) (hl.below hb)
  have HT : Hid (times rs last l = true ↔ Asc l ∧ ∀ i, i < l.length → l.getD i 0 ≤ last ∧ calDue rs (l.getD i 0) = true) := by
    have hd : ∀ t, calDue rs t = due rs t := fun t => by unfold calDue; rw [hok]; rfl
    show times rs last l = true ↔ _
    rw [times_iff]
    constructor
    · intro h
      exact ⟨fun i hi h0 => (h i hi).2.2 h0, fun i hi => ⟨(h i hi).1, by rw [hd]; exact (h i hi).2.1⟩⟩
    · rintro ⟨h1, h2⟩ i hi
      exact ⟨(h2 i hi).1, by rw [← hd]; exact (h2 i hi).2, fun h0 => h1 i hi h0⟩
  clear hr hg hl hok
  go_enter Tryz.func68, Tryz.ntmps68
  go_wp2_with fail
  refine (HA.out _ ((Below.refl _ _).alloc (Nat.le_refl _) _)).mono ?_
  rintro e w1 ⟨⟨v, rfl, hv⟩, q, rfl⟩
  have hB := below_drewN (Below.refl (w.heap.size + 1) (w.alloc (.cells #[.slice ra rl rc, .int .i64 pol, .int .i64 win, .int .i64 last, v4, v5, v6] 31))) q
  have HB : Hid _ := hB
  clear hB
  cases v with
  | true =>
    have HV : Hid (Asc l) := hv.1 rfl
    clear hv
    go_wp2_with fail
    refine (HH.out _ _ (unbox HB.out) (PlaBox.new HB.out)).mono ?_
    rintro e w2 ⟨⟨v, rfl, hv⟩, hb2⟩
    have HB2 : Hid _ := bcall (unbox HB.out) (unbox HB.out).size hb2
    have HF : Hid (times rs last l = v) := by
      show times rs last l = v
      rw [Bool.eq_iff_iff, HT.out]
      exact ⟨fun h => hv.2 h.2, fun h => ⟨HV.out, hv.1 h⟩⟩
    clear hv hb2
    go_wp2_with fail
    go_ret
    exact ⟨ret_bool HF.out.symm, HB2.out⟩
  | false =>
    have HF : Hid (times rs last l = false) := by
      show times rs last l = false
      rw [Bool.eq_false_iff]
      intro h
      have := hv.2 (HT.out.1 h).1
      cases this
    clear hv
    go_wp2_with fail
    go_ret
    exact ⟨ret_bool HF.out.symm, unbox HB.out⟩
end Pl
end Go.Proofs.YtghocdiddolinaaGreatDoor

namespace Go.Proofs.YtghocdiddolinaaGreatDoor
set_option linter.unusedVariables false
set_option linter.unusedSimpArgs false
open Go.RowKit Go
namespace Pl

theorem told_bool {rs : List Rul} {last : Int} {t : Tld} (hok : calOk rs = true) {v : Bool} (h : v = true ↔ ToldAt rs last t) : v = (decide (1 ≤ t.wh ∧ t.wh ≤ 5) && (decide (t.tk ≤ last) && calDue rs t.tk)) := by
  have hd : calDue rs t.tk = due rs t.tk := by unfold calDue; rw [hok]; rfl
  rw [Bool.eq_iff_iff, h, hd]
  simp [ToldAt]

set_option maxHeartbeats 1000000 in
theorem toldOk (ra : Option Addr) (rl rc : Nat) (rs : List Rul) (pol win last : Int) (v4 v5 v6 : Value) (tk wh : Int) (w : World) (hr : IsRuls w ra rl rc rs) (hg : ErrT w) :
    Calls Tryz.prog 71 #[.agg #[.slice ra rl rc, .int .i64 pol, .int .i64 win, .int .i64 last, v4, v5, v6], .agg #[.int .i64 tk, .int .i64 wh]] w fun e w' => e = .returned (.bool (decide (1 ≤ wh ∧ wh ≤ 5) && (decide (tk ≤ last) && calDue rs tk))) ∧ Below w.heap.size w w' := by
  have HC : Hid (∀ w', Below w.heap.size w w' → Calls Tryz.prog 91 #[.agg #[.slice ra rl rc, .int .i64 pol, .int .i64 win, .int .i64 last, v4, v5, v6], .int .i64 tk] w' fun e w'' => e = .returned (.bool (decide (tk ≤ last) && calDue rs tk)) ∧ Below w'.heap.size w' w'') := fun w' hb => hasCome ra rl rc rs pol win last v4 v5 v6 tk w' (hr.below hb) (hg.below hb)
  clear hr hg
  generalize (decide (tk ≤ last) && calDue rs tk) = v at HC
  have hb0 : Below w.heap.size w ((w.alloc (.cells #[.slice ra rl rc, .int .i64 pol, .int .i64 win, .int .i64 last, v4, v5, v6] 31)).alloc (.cells #[.int .i64 tk, .int .i64 wh] 61)) := ((Below.refl _ _).alloc (Nat.le_refl _) _).alloc (by simp) _
  have HB0 : Hid _ := hb0
  clear hb0
  by_cases h : 1 ≤ wh ∧ wh ≤ 5
  · have HI : Hid (∀ w, Calls Tryz.prog 67 #[.int .i64 wh, .int .i64 1, .int .i64 5] w fun e w' => e = .returned (.bool true) ∧ w' = w) := fun w => isWithin_t wh 1 5 h w
    have HE : Hid (v = (decide (1 ≤ wh ∧ wh ≤ 5) && v)) := by rw [decide_eq_true h, Bool.true_and]; trivial
    clear h
    go_enter Tryz.func71, Tryz.ntmps71
    go_wp2_with (go_at_call 67; refine (HI.out _).mono ?_; rintro e w1 ⟨rfl, rfl⟩)
    refine (HC.out _ HB0.out).mono ?_
    rintro e w1 ⟨rfl, hb⟩
    have HB : Hid _ := bcall HB0.out HB0.out.size hb
    clear hb
    go_wp2_with fail
    go_ret
    exact ⟨ret_bool HE.out, HB.out⟩
  · have HI : Hid (∀ w, Calls Tryz.prog 67 #[.int .i64 wh, .int .i64 1, .int .i64 5] w fun e w' => e = .returned (.bool false) ∧ w' = w) := fun w => isWithin_f wh 1 5 h w
    have HE : Hid (false = (decide (1 ≤ wh ∧ wh ≤ 5) && v)) := by rw [decide_eq_false h, Bool.false_and]; trivial
    clear h
    go_enter Tryz.func71, Tryz.ntmps71
    go_wp2_with (go_at_call 67; refine (HI.out _).mono ?_; rintro e w1 ⟨rfl, rfl⟩)
    go_ret
    exact ⟨ret_bool HE.out, HB0.out⟩

set_option maxHeartbeats 1000000 in
theorem toldFn (pb : Nat) (ra : Option Addr) (rl rc : Nat) (rs : List Rul) (pol win last : Int) (v4 v5 v6 : Value) (tk wh : Int) (w : World) (hp : PlaBox w pb ra rl rc pol win last v4 v5 v6) (hr : IsRuls w ra rl rc rs) (hg : ErrT w) :
    Calls Tryz.prog 70 #[.agg #[.int .i64 tk, .int .i64 wh], .pointer (some ⟨pb, 0, none⟩)] w fun e w' => e = .returned (.bool (decide (1 ≤ wh ∧ wh ≤ 5) && (decide (tk ≤ last) && calDue rs tk))) ∧ Below w.heap.size w w' := by
  have HC : Hid (∀ w', Below w.heap.size w w' → Calls Tryz.prog 71 #[.agg #[.slice ra rl rc, .int .i64 pol, .int .i64 win, .int .i64 last, v4, v5, v6], .agg #[.int .i64 tk, .int .i64 wh]] w' fun e w'' => e = .returned (.bool (decide (1 ≤ wh ∧ wh ≤ 5) && (decide (tk ≤ last) && calDue rs tk))) ∧ Below w'.heap.size w' w'') := fun w' hb => toldOk ra rl rc rs pol win last v4 v5 v6 tk wh w' (hr.below hb) (hg.below hb)
  clear hr hg
  generalize (decide (1 ≤ wh ∧ wh ≤ 5) && (decide (tk ≤ last) && calDue rs tk)) = v at HC ⊢
  obtain ⟨c0, c1, c2, c3, c4, c5, c6⟩ := hp
  have hpb := World.block_lt_of_cell? _ _ c0
  simp only at hpb
  go_enter Tryz.func70, Tryz.ntmps70
  go_wp2_with fail
  refine (HC.out _ ((Below.refl _ _).alloc (Nat.le_refl _) _)).mono ?_
  rintro e w1 ⟨rfl, hb⟩
  have HB : Hid _ := unbox (below_box hb)
  clear hb
  go_wp2_with fail
  go_ret
  exact ⟨rfl, HB.out⟩

set_option maxHeartbeats 1000000 in
theorem allHoldTold (pb : Nat) (ra : Option Addr) (rl rc : Nat) (rs : List Rul) (pol win last : Int) (v4 v5 v6 : Value) (a : Option Addr) (len cap : Nat) (l : List Tld) (w : World) (hp : PlaBox w pb ra rl rc pol win last v4 v5 v6) (hr : IsRuls w ra rl rc rs) (hg : ErrT w) (hl : IsTlds w a len cap l) (hok : calOk rs = true) :
    Calls Tryz.prog 69 #[.slice a len cap, .func (.func 70) #[] #[.pointer (some ⟨pb, 0, none⟩)]] w fun e w' => SaysIf e (∀ i (h : i < l.length), ToldAt rs last l[i]) ∧ Below w.heap.size w w' := by
  obtain ⟨hz, hm⟩ := IsRecs.len hl
  unfold maxLen at hm
  have HL : Hid (IsTlds w a len cap l) := hl
  have HF : Hid (∀ tk wh w', Below w.heap.size w w' → Calls Tryz.prog 70 #[.agg #[.int .i64 tk, .int .i64 wh], .pointer (some ⟨pb, 0, none⟩)] w' fun e w'' => e = .returned (.bool (decide (1 ≤ wh ∧ wh ≤ 5) && (decide (tk ≤ last) && calDue rs tk))) ∧ Below w'.heap.size w' w'') := fun tk wh w' hb => toldFn pb ra rl rc rs pol win last v4 v5 v6 tk wh w' (hp.below hb) (hr.below hb) (hg.below hb)
  have HOK : Hid (calOk rs = true) := hok
  clear hl hp hr hg hok
  go_enter Tryz.func69, Tryz.ntmps69
  go_wp2
  go_loopw [9] (fun i wr => ∃ k : Nat, k ≤ len ∧ i = .int .i64 k ∧ (∀ i (h : i < l.length), i < k → ToldAt rs last l[i]) ∧ Below w.heap.size w wr) (fun i _ => len - (intOf i).toNat)
  case atStart => exact ⟨0, Nat.zero_le _, rfl, fun i _ h => by omega, Below.refl _ _⟩
  case round =>
    obtain ⟨k, hk, rfl, hn, hb⟩ := hrel
    have HN : Hid (∀ i (h : i < l.length), i < k → ToldAt rs last l[i]) := hn
    have HB : Hid _ := hb
    clear hn hb
    by_cases hlt : k < len
    · obtain ⟨b, off, rfl, h1, h2, d0, d1, _⟩ := IsTlds.at (HL.out.below HB.out) (i := k) (by omega)
      have hT := fun o => HF.out l[k].tk l[k].wh (wr.alloc o) (HB.out.alloc HB.out.size o)
      have hba := fun o => HB.out.alloc HB.out.size o
      have HBA : Hid _ := hba
      clear hba
      by_cases hin : ToldAt rs last l[k]
      · have HN1 : Hid (∀ i (h : i < l.length), i < k + 1 → ToldAt rs last l[i]) := fun i hi hik => by
          by_cases e : i = k
          · subst e; exact hin
          · exact HN.out i hi (by omega)
        have hv := told_bool HOK.out (v := true) (t := l[k]) (last := last) (by simp [hin])
        rw [← hv] at hT
        have HT : Hid _ := hT
        clear hin hT hv
        generalize l[k] = t at d0 d1 HT
        go_wp2_with fail
        refine (HT.out _).mono ?_
        rintro e w1 ⟨rfl, hb1⟩
        have HB1 : Hid _ := bcall (HBA.out _) (by have := HB.out.size; simp; omega) hb1
        clear hb1
        go_wp2_with fail
        go_roundw
        case rel => exact ⟨k + 1, by omega, by go_num, HN1.out, HB1.out⟩
        case measure => simp [intOf]; omega
      · have HFA : Hid (¬ ∀ i (h : i < l.length), ToldAt rs last l[i]) := fun h => hin (h k (by omega))
        have hv := told_bool HOK.out (v := false) (t := l[k]) (last := last) (by simp [hin])
        rw [← hv] at hT
        have HT : Hid _ := hT
        clear hin hT hv
        generalize l[k] = t at d0 d1 HT
        go_wp2_with fail
        refine (HT.out _).mono ?_
        rintro e w1 ⟨rfl, hb1⟩
        have HB1 : Hid _ := bcall (HBA.out _) (by have := HB.out.size; simp; omega) hb1
        clear hb1
        go_wp2_with fail
        go_ret
        exact ⟨⟨false, rfl, by simpa using HFA.out⟩, HB1.out⟩
    · have HFA : Hid (∀ i (h : i < l.length), ToldAt rs last l[i]) := fun i hi => HN.out i hi (by omega)
      clear HN
      go_wp2
      go_ret
      exact ⟨⟨true, rfl, by simpa using HFA.out⟩, HB.out⟩

set_option maxRecDepth 4000 in
set_option maxHeartbeats 2000000 in
theorem waitsBehind (v0 : Value) (pol win last : Int) (ga : Option Addr) (gl gc : Nat) (wa : Option Addr) (wl wk : Nat) (v6 : Value) (goes waits : List Int) (w : World) (hg : IsRow .i64 w ga gl gc goes) (hw : IsRow .i64 w wa wl wk waits) :
    Calls Tryz.prog 72 #[.agg #[v0, .int .i64 pol, .int .i64 win, .int .i64 last, .slice ga gl gc, .slice wa wl wk, v6]] w fun e w' => SaysIf e (WaitsOk goes waits) ∧ Below w.heap.size w w' := by
  obtain ⟨hgl, hgm⟩ := hg.len
  obtain ⟨hwl, hwm⟩ := hw.len
  unfold maxLen at hgm hwm
  have HB : Hid (∀ n, Below w.heap.size w ((w.alloc (.cells #[v0, .int .i64 pol, .int .i64 win, .int .i64 last, .slice ga gl gc, .slice wa wl wk, v6] 31)).drewN n)) := fun n => below_drewN ((Below.refl _ _).alloc (Nat.le_refl _) _) n
  have HB0 : Hid (Below w.heap.size w (w.alloc (.cells #[v0, .int .i64 pol, .int .i64 win, .int .i64 last, .slice ga gl gc, .slice wa wl wk, v6] 31))) := (Below.refl _ _).alloc (Nat.le_refl _) _
  by_cases q6 : 0 < wl
  case neg =>
    have HW : Hid (WaitsOk goes waits) := fun h => absurd h (by omega)
    have hd : ((wl : Int) == 0) = true := by simp; omega
    clear hg hw q6
    go_enter Tryz.func72, Tryz.ntmps72
    go_wp2_with fail
    go_ret
    exact ⟨⟨true, rfl, by simpa using HW.out⟩, HB0.out⟩
  have hd0 : ((wl : Int) == 0) = false := by simp; omega
  by_cases q7 : 0 < gl
  case neg =>
    have HW : Hid (¬ WaitsOk goes waits) := fun h => q7 (by have := (h (by omega)).1; omega)
    have hd : decide (0 < gl) = false := decide_eq_false (by omega)
    clear hg hw q7
    go_enter Tryz.func72, Tryz.ntmps72
    go_wp2_with fail
    go_quiet (fail)
    go_wp2_with fail
    go_ret
    exact ⟨⟨false, rfl, by simpa using HW.out⟩, HB.out _⟩
  obtain ⟨j, hj⟩ : ∃ j, gl = j + 1 := ⟨gl - 1, by omega⟩
  obtain ⟨b1, off1, rfl, h1, h2, hc1⟩ := IsRow.at hw q6
  obtain ⟨b2, off2, rfl, h3, h4, hc2⟩ := IsRow.at hg (i := j) (by omega)
  rw [Nat.add_zero] at hc1
  have hd5' : (0 : Int) < (wl : Int) := by omega
  by_cases q8 : goes.getD j 0 < waits.getD 0 0
  · have HWO : Hid (WaitsOk goes waits) := fun _ => ⟨by omega, by rw [hgl, hj, Nat.add_sub_cancel]; exact q8⟩
    have hdl : goes.getD j 0 < waits.getD 0 0 := q8
    clear q8 hg hw
    generalize waits.getD 0 0 = y at hc1 hdl
    generalize goes.getD j 0 = z at hc2 hdl
    subst hj
    go_enter Tryz.func72, Tryz.ntmps72
    go_wp2_with fail
    go_quiet (fail)
    go_wp2_with fail
    go_ret
    exact ⟨⟨true, rfl, by simpa using HWO.out⟩, HB.out _⟩
  · have HWO : Hid (¬ WaitsOk goes waits) := fun h => q8 (by have := (h (by omega)).2; rw [hgl, hj, Nat.add_sub_cancel] at this; exact this)
    have hdl : decide (goes.getD j 0 < waits.getD 0 0) = false := decide_eq_false q8
    clear q8 hg hw
    generalize waits.getD 0 0 = y at hc1 hdl
    generalize goes.getD j 0 = z at hc2 hdl
    subst hj
    go_enter Tryz.func72, Tryz.ntmps72
    go_wp2_with fail
    go_quiet (fail)
    go_wp2_with fail
    go_ret
    exact ⟨⟨false, rfl, by simpa using HWO.out⟩, HB.out _⟩
end Pl
end Go.Proofs.YtghocdiddolinaaGreatDoor
