/- The program's own plans: times of a plan, what was told. -/
import Derived.Test.YtnieaeakaajleaaDoorJ16
import Derived.Test.YtnieaeakaajleaaDoorJ11
import Derived.BigQuiet
namespace Go.Proofs.YtnieaeakaajleaaDoor
set_option linter.unusedVariables false
set_option linter.unusedSimpArgs false
open Go.RowKit Go

set_option maxHeartbeats 1000000 in
theorem dueFn (r : Rul) (a : Option Addr) (len cap : Nat) (t : Int) (pt : Nat) (w : World) (hr : IsRow .i64 w a len cap r.but) (hok : RuleOk r) (hct : w.cell? ⟨pt, 0, none⟩ = some (.int .i64 t)) :
    Calls Tryd.prog 74 #[.agg #[.int .i64 r.ev, .int .i64 r.at_, .int .i64 r.fr, .int .i64 r.to_, .slice a len cap], .pointer (some ⟨pt, 0, none⟩)] w fun x w' => x = .returned (.bool (ofRule r t)) ∧ Below w.heap.size w w' := by
  have hc2 : ∀ o, (w.alloc o).cell? ⟨pt, 0, none⟩ = some (.int .i64 t) := fun o => by rw [World.cell?_alloc_lt _ _ _ (World.block_lt_of_cell? _ _ hct)]; exact hct
  have HT : Hid (∀ o, Calls Tryd.prog 75 #[.agg #[.int .i64 r.ev, .int .i64 r.at_, .int .i64 r.fr, .int .i64 r.to_, .slice a len cap], .int .i64 t] (w.alloc o) fun x w' => x = .returned (.bool (ofRule r t)) ∧ Below (w.alloc o).heap.size (w.alloc o) w') := fun o => hasTick r a len cap t (w.alloc o) (hr.alloc o) hok
  clear hr hok hct
  generalize ofRule r t = v at HT ⊢
  go_enter Tryd.func74, Tryd.ntmps74
  go_wp2_with fail
  refine (HT.out _).mono ?_
  rintro e w1 ⟨rfl, hw1⟩
  go_wp2_with fail
  go_ret
  exact ⟨rfl, bcall ((Below.refl _ _).alloc (Nat.le_refl _) _) (by simp) hw1⟩

set_option maxHeartbeats 1000000 in
theorem indexFunc (a : Option Addr) (len cap : Nat) (rs : List Rul) (t : Int) (pt : Nat) (w : World) (hr : IsRuls w a len cap rs) (hok : ∀ i (hi : i < rs.length), RuleOk rs[i]) (hct : w.cell? ⟨pt, 0, none⟩ = some (.int .i64 t)) :
    Calls Tryd.prog 76 #[.slice a len cap, .func (.func 74) #[] #[.pointer (some ⟨pt, 0, none⟩)]] w fun e w' => IdxPost e (due rs t) ∧ Below w.heap.size w w' := by
  obtain ⟨hz, hm⟩ := IsRecs.len hr
  unfold maxLen at hm
  have HR : Hid (IsRuls w a len cap rs) := hr
  have HOK : Hid (∀ i (hi : i < rs.length), RuleOk rs[i]) := hok
  have HCT : Hid (w.cell? ⟨pt, 0, none⟩ = some (.int .i64 t)) := hct
  clear hr hok hct
  go_enter Tryd.func76, Tryd.ntmps76
  go_wp2
  go_loopw [8] (fun i wr => ∃ q : Nat, i = .int .i64 q ∧ q ≤ len ∧ (∀ i (hi : i < rs.length), i < q → ofRule rs[i] t = false) ∧ Below w.heap.size w wr) (fun i _ => len - (intOf i).toNat)
  case atStart => exact ⟨0, rfl, Nat.zero_le _, fun i _ h => by omega, Below.refl _ _⟩
  case round =>
    obtain ⟨q, rfl, hq, hno, hb⟩ := hrel
    by_cases hlt : q < len
    · obtain ⟨b, off, rfl, h1, hbl, a1, l1, k1, c0, c1, c2, c3, c4, hrow1, _⟩ := IsRuls.at (IsRuls.below HR.out hb) (i := q) (by omega)
      have HE := dueFn rs[q] a1 l1 k1 t pt wr hrow1 (HOK.out q (by omega)) (by rw [hb.cell (World.block_lt_of_cell? _ _ HCT.out)]; exact HCT.out)
      by_cases hy : ofRule rs[q] t = true
      · have HF : Hid (due rs t = true) := due_yes (by omega) hy
        rw [hy] at HE
        have HE : Hid _ := HE
        clear hno hy
        go_wp2_with fail
        refine Calls.mono HE.out ?_
        rintro e w1 ⟨rfl, hw1⟩
        go_wp2_with fail
        go_ret
        exact ⟨.inl ⟨q, rfl, HF.out⟩, bcall hb hb.size hw1⟩
      · have hy : ofRule rs[q] t = false := by simpa using hy
        have HNO : Hid (∀ i (hi : i < rs.length), i < q + 1 → ofRule rs[i] t = false) := fun i hi hiq => by
          by_cases e : i = q
          · subst e; exact hy
          · exact hno i hi (by omega)
        rw [hy] at HE
        have HE : Hid _ := HE
        clear hno hy
        go_wp2_with fail
        refine Calls.mono HE.out ?_
        rintro e w1 ⟨rfl, hw1⟩
        go_wp2_with fail
        go_roundw
        case rel => exact ⟨q + 1, by go_num, by omega, HNO.out, bcall hb hb.size hw1⟩
        case measure => simp [intOf]; omega
    · have HF : Hid (due rs t = false) := due_no fun i hi => hno i hi (by omega)
      clear hno
      go_wp2_with fail
      go_ret
      exact ⟨.inr ⟨rfl, HF.out⟩, hb⟩

set_option maxHeartbeats 1000000 in
theorem containsFunc (a : Option Addr) (len cap : Nat) (rs : List Rul) (t : Int) (pt : Nat) (w : World) (hr : IsRuls w a len cap rs) (hok : ∀ i (hi : i < rs.length), RuleOk rs[i]) (hct : w.cell? ⟨pt, 0, none⟩ = some (.int .i64 t)) :
    Calls Tryd.prog 73 #[.slice a len cap, .func (.func 74) #[] #[.pointer (some ⟨pt, 0, none⟩)]] w fun e w' => e = .returned (.bool (due rs t)) ∧ Below w.heap.size w w' := by
  have HI : Hid _ := indexFunc a len cap rs t pt w hr hok hct
  clear hr hok hct
  go_enter Tryd.func73, Tryd.ntmps73
  go_wp2_with fail
  refine Calls.mono HI.out ?_
  rintro e w1 ⟨(⟨n, rfl, hb⟩ | ⟨rfl, hb⟩), hw⟩
  · have HB : Hid _ := hb
    clear hb
    have hd : decide ((0 : Int) ≤ (n : Int)) = true := decide_eq_true (by omega)
    go_wp2_with fail
    go_ret
    exact ⟨ret_bool HB.out.symm, hw⟩
  · have HB : Hid _ := hb
    clear hb
    go_wp2_with fail
    go_ret
    exact ⟨ret_bool HB.out.symm, hw⟩

set_option maxHeartbeats 1000000 in
theorem implCalDue (a : Option Addr) (len cap : Nat) (rs : List Rul) (t : Int) (w : World) (hr : IsRuls w a len cap rs) (hg : ErrT w) :
    Calls Tryd.prog 68 #[.slice a len cap, .int .i64 t] w fun e w' => e = .returned (.bool (calDue rs t)) ∧ Below w.heap.size w w' := by
  have HK := fun o => implCalOk a len cap rs (w.alloc o) (hr.alloc o) (hg.below ((Below.refl _ _).alloc (Nat.le_refl _) _))
  have HR : Hid (IsRuls w a len cap rs) := hr
  clear hr hg
  by_cases hok : calOk rs = true
  · rw [hok] at HK
    have HK : Hid _ := HK
    have HD : Hid (∀ pt w, IsRuls w a len cap rs → w.cell? ⟨pt, 0, none⟩ = some (.int .i64 t) → Calls Tryd.prog 73 #[.slice a len cap, .func (.func 74) #[] #[.pointer (some ⟨pt, 0, none⟩)]] w fun e w' => e = .returned (.bool (due rs t)) ∧ Below w.heap.size w w') := fun pt w h h2 => containsFunc a len cap rs t pt w h (calOk_rules hok) h2
    have HF : Hid (calDue rs t = due rs t) := by show _ = _; unfold calDue; rw [hok]; rfl
    go_enter Tryd.func68, Tryd.ntmps68
    go_wp2_with fail
    refine Calls.mono (HK.out _) ?_
    rintro e w1 ⟨rfl, hw1⟩
    have hc : w1.cell? ⟨w.heap.size, 0, none⟩ = some (.int .i64 t) := by rw [(bcell hw1).1 _ _ (by simp)]; simp
    have hb : Below w.heap.size w w1 := bcall ((Below.refl _ _).alloc (Nat.le_refl _) _) (by simp) hw1
    clear hw1
    go_wp2_with fail
    refine (HD.out _ _ (HR.out.below hb) hc).mono ?_
    rintro e w2 ⟨rfl, hw2⟩
    go_wp2_with fail
    go_ret
    exact ⟨ret_bool HF.out.symm, bcall hb hb.size hw2⟩
  · have hok : calOk rs = false := by simpa using hok
    rw [hok] at HK
    have HK : Hid _ := HK
    have HF : Hid (calDue rs t = false) := by show _ = _; unfold calDue; rw [hok]; rfl
    go_enter Tryd.func68, Tryd.ntmps68
    go_wp2_with fail
    refine Calls.mono (HK.out _) ?_
    rintro e w1 ⟨rfl, hw1⟩
    go_wp2_with fail
    go_ret
    exact ⟨ret_bool HF.out.symm, bcall ((Below.refl _ _).alloc (Nat.le_refl _) _) (by simp) hw1⟩
end Go.Proofs.YtnieaeakaajleaaDoor

namespace Go.Proofs.YtnieaeakaajleaaDoor
set_option linter.unusedVariables false
set_option linter.unusedSimpArgs false
open Go.RowKit Go
namespace Pl

set_option maxHeartbeats 1000000 in
theorem hasCome (ra : Option Addr) (rl rc : Nat) (rs : List Rul) (pol win last : Int) (v4 v5 v6 : Value) (t : Int) (w : World) (hr : IsRuls w ra rl rc rs) (hg : ErrT w) :
    Calls Tryd.prog 61 #[.agg #[.slice ra rl rc, .int .i64 pol, .int .i64 win, .int .i64 last, v4, v5, v6], .int .i64 t] w fun e w' => e = .returned (.bool (decide (t ≤ last) && calDue rs t)) ∧ Below w.heap.size w w' := by
  have HD : Hid (∀ o, Calls Tryd.prog 68 #[.slice ra rl rc, .int .i64 t] (w.alloc o) fun e w' => e = .returned (.bool (calDue rs t)) ∧ Below (w.alloc o).heap.size (w.alloc o) w') := fun o => implCalDue ra rl rc rs t (w.alloc o) (hr.alloc o) (hg.below ((Below.refl _ _).alloc (Nat.le_refl _) _))
  clear hr hg
  generalize calDue rs t = v at HD
  by_cases h : t ≤ last
  · have HE : Hid (v = (decide (t ≤ last) && v)) := by rw [decide_eq_true h, Bool.true_and]; trivial
    go_enter Tryd.func61, Tryd.ntmps61
    go_wp2_with fail
    refine (HD.out _).mono ?_
    rintro e w1 ⟨rfl, hb⟩
    have HB : Hid _ := unbox (below_box hb)
    clear hb
    go_wp2_with fail
    go_ret
    exact ⟨ret_bool HE.out, HB.out⟩
  · have hd : decide (t ≤ last) = false := decide_eq_false h
    have HE : Hid (false = (decide (t ≤ last) && v)) := by rw [hd, Bool.false_and]; trivial
    go_enter Tryd.func61, Tryd.ntmps61
    go_wp2_with fail
    go_ret
    exact ⟨ret_bool (by first | rfl | exact HE.out), (Below.refl _ _).alloc (Nat.le_refl _) _⟩

/-- A plan's box: its seven cells. -/
def PlaBox (w : World) (pb : Nat) (ra : Option Addr) (rl rc : Nat) (pol win last : Int) (v4 v5 v6 : Value) : Prop :=
  w.cell? ⟨pb, 0, none⟩ = some (.slice ra rl rc) ∧ w.cell? ⟨pb, 1, none⟩ = some (.int .i64 pol) ∧ w.cell? ⟨pb, 2, none⟩ = some (.int .i64 win) ∧ w.cell? ⟨pb, 3, none⟩ = some (.int .i64 last) ∧ w.cell? ⟨pb, 4, none⟩ = some v4 ∧ w.cell? ⟨pb, 5, none⟩ = some v5 ∧ w.cell? ⟨pb, 6, none⟩ = some v6
theorem PlaBox.below {w w' : World} {pb : Nat} {ra : Option Addr} {rl rc : Nat} {pol win last : Int} {v4 v5 v6 : Value} (h : PlaBox w pb ra rl rc pol win last v4 v5 v6) (hb : Below w.heap.size w w') : PlaBox w' pb ra rl rc pol win last v4 v5 v6 := by
  have k : ∀ {i v}, w.cell? ⟨pb, i, none⟩ = some v → w'.cell? ⟨pb, i, none⟩ = some v := fun h => (hb.cell (World.block_lt_of_cell? _ _ h)).trans h
  exact ⟨k h.1, k h.2.1, k h.2.2.1, k h.2.2.2.1, k h.2.2.2.2.1, k h.2.2.2.2.2.1, k h.2.2.2.2.2.2⟩
theorem PlaBox.new {w w' : World} {t : TypeId} {ra : Option Addr} {rl rc : Nat} {pol win last : Int} {v4 v5 v6 : Value} (h : Below (w.heap.size + 1) (w.alloc (.cells #[.slice ra rl rc, .int .i64 pol, .int .i64 win, .int .i64 last, v4, v5, v6] t)) w') : PlaBox w' w.heap.size ra rl rc pol win last v4 v5 v6 :=
  ⟨boxAt h rfl, boxAt h rfl, boxAt h rfl, boxAt h rfl, boxAt h rfl, boxAt h rfl, boxAt h rfl⟩

set_option maxHeartbeats 1000000 in
theorem timesFn (pb : Nat) (ra : Option Addr) (rl rc : Nat) (rs : List Rul) (pol win last : Int) (v4 v5 v6 : Value) (t : Int) (w : World) (hp : PlaBox w pb ra rl rc pol win last v4 v5 v6) (hr : IsRuls w ra rl rc rs) (hg : ErrT w) :
    Calls Tryd.prog 60 #[.int .i64 t, .pointer (some ⟨pb, 0, none⟩)] w fun e w' => e = .returned (.bool (decide (t ≤ last) && calDue rs t)) ∧ Below w.heap.size w w' := by
  have HC : Hid _ := hasCome ra rl rc rs pol win last v4 v5 v6 t w hr hg
  clear hr hg
  obtain ⟨c0, c1, c2, c3, c4, c5, c6⟩ := hp
  go_enter Tryd.func60, Tryd.ntmps60
  go_wp2_with fail
  refine Calls.mono HC.out ?_
  rintro e w1 ⟨rfl, hb⟩
  have HB : Hid _ := hb
  clear hb
  go_wp2_with fail
  go_ret
  exact ⟨rfl, HB.out⟩

set_option maxHeartbeats 1000000 in
theorem allHoldTimes (pb : Nat) (ra : Option Addr) (rl rc : Nat) (rs : List Rul) (pol win last : Int) (v4 v5 v6 : Value) (a : Option Addr) (len cap : Nat) (l : List Int) (w : World) (hp : PlaBox w pb ra rl rc pol win last v4 v5 v6) (hr : IsRuls w ra rl rc rs) (hg : ErrT w) (hl : IsRow .i64 w a len cap l) :
    Calls Tryd.prog 59 #[.slice a len cap, .func (.func 60) #[] #[.pointer (some ⟨pb, 0, none⟩)]] w fun e w' => SaysIf e (∀ i, i < l.length → l.getD i 0 ≤ last ∧ calDue rs (l.getD i 0) = true) ∧ Below w.heap.size w w' := by
  obtain ⟨hz, hm⟩ := hl.len
  unfold maxLen at hm
  have HL : Hid (IsRow .i64 w a len cap l) := hl
  have HF : Hid (∀ t w', Below w.heap.size w w' → Calls Tryd.prog 60 #[.int .i64 t, .pointer (some ⟨pb, 0, none⟩)] w' fun e w'' => e = .returned (.bool (decide (t ≤ last) && calDue rs t)) ∧ Below w'.heap.size w' w'') := fun t w' hb => timesFn pb ra rl rc rs pol win last v4 v5 v6 t w' (hp.below hb) (hr.below hb) (hg.below hb)
  clear hl hp hr hg
  go_enter Tryd.func59, Tryd.ntmps59
  go_wp2
  go_loopw [9] (fun i wr => ∃ k : Nat, k ≤ len ∧ i = .int .i64 k ∧ (∀ i, i < k → l.getD i 0 ≤ last ∧ calDue rs (l.getD i 0) = true) ∧ Below w.heap.size w wr) (fun i _ => len - (intOf i).toNat)
  case atStart => exact ⟨0, Nat.zero_le _, rfl, fun i h => by omega, Below.refl _ _⟩
  case round =>
    obtain ⟨k, hk, rfl, hn, hb⟩ := hrel
    have HN : Hid (∀ i, i < k → l.getD i 0 ≤ last ∧ calDue rs (l.getD i 0) = true) := hn
    have HB : Hid _ := hb
    clear hn hb
    by_cases hlt : k < len
    · obtain ⟨b, off, rfl, h1, h2, hc⟩ := IsRow.at (HL.out.below HB.out) hlt
      have hT := HF.out (l.getD k 0) wr HB.out
      by_cases hin : l.getD k 0 ≤ last ∧ calDue rs (l.getD k 0) = true
      · have HN1 : Hid (∀ i, i < k + 1 → l.getD i 0 ≤ last ∧ calDue rs (l.getD i 0) = true) := fun i hi => by
          by_cases e : i = k
          · subst e; exact hin
          · exact HN.out i (by omega)
        rw [hin.2, decide_eq_true hin.1] at hT
        have HT : Hid _ := hT
        clear hin hT
        generalize l.getD k 0 = z at hc HT
        go_wp2_with fail
        refine Calls.mono HT.out ?_
        rintro e w1 ⟨rfl, hb1⟩
        have HB1 : Hid _ := bcall HB.out HB.out.size hb1
        clear hb1
        go_wp2_with fail
        go_roundw
        case rel => exact ⟨k + 1, by omega, by go_num, HN1.out, HB1.out⟩
        case measure => simp [intOf]; omega
      · have HFA : Hid (¬ ∀ i, i < l.length → l.getD i 0 ≤ last ∧ calDue rs (l.getD i 0) = true) := fun h => hin (h k (by omega))
        have hv : (decide (l.getD k 0 ≤ last) && calDue rs (l.getD k 0)) = false := by
          rw [Bool.and_eq_false_iff]
          by_cases h : l.getD k 0 ≤ last
          · exact .inr (by simpa using fun h2 => hin ⟨h, h2⟩)
          · exact .inl (decide_eq_false h)
        rw [hv] at hT
        have HT : Hid _ := hT
        clear hin hT hv
        generalize l.getD k 0 = z at hc HT
        go_wp2_with fail
        refine Calls.mono HT.out ?_
        rintro e w1 ⟨rfl, hb1⟩
        have HB1 : Hid _ := bcall HB.out HB.out.size hb1
        clear hb1
        go_wp2_with fail
        go_ret
        exact ⟨⟨false, rfl, by simpa using HFA.out⟩, HB1.out⟩
    · have HFA : Hid (∀ i, i < l.length → l.getD i 0 ≤ last ∧ calDue rs (l.getD i 0) = true) := fun i hi => HN.out i (by omega)
      clear HN
      go_wp2
      go_ret
      exact ⟨⟨true, rfl, by simpa using HFA.out⟩, HB.out⟩

set_option maxHeartbeats 1000000 in
theorem timesOk (ra : Option Addr) (rl rc : Nat) (rs : List Rul) (pol win last : Int) (v4 v5 v6 : Value) (a : Option Addr) (len cap : Nat) (l : List Int) (w : World) (hr : IsRuls w ra rl rc rs) (hg : ErrT w) (hl : IsRow .i64 w a len cap l) (hok : calOk rs = true) :
    Calls Tryd.prog 41 #[.agg #[.slice ra rl rc, .int .i64 pol, .int .i64 win, .int .i64 last, v4, v5, v6], .slice a len cap] w fun e w' => e = .returned (.bool (times rs last l)) ∧ Below w.heap.size w w' := by
  have HA : Hid (∀ w', Below w.heap.size w w' → Calls Tryd.prog 58 #[.slice a len cap, .func (.func 49) #[] #[]] w' fun e w'' => SaysIf e (Asc l) ∧ ∃ q, w'' = w'.drewN q) := fun w' hb => ascendsInt a len cap l w' (hl.below hb)
  have HH : Hid (∀ pb w', Below w.heap.size w w' → PlaBox w' pb ra rl rc pol win last v4 v5 v6 → Calls Tryd.prog 59 #[.slice a len cap, .func (.func 60) #[] #[.pointer (some ⟨pb, 0, none⟩)]] w' fun e w'' => SaysIf e (∀ i, i < l.length → l.getD i 0 ≤ last ∧ calDue rs (l.getD i 0) = true) ∧ Below w'.heap.size w' w'') := fun pb w' hb h => allHoldTimes pb ra rl rc rs pol win last v4 v5 v6 a len cap l w' h (hr.below hb) (hg.below hb) (hl.below hb)
  have HT : Hid (times rs last l = true ↔ Asc l ∧ ∀ i, i < l.length → l.getD i 0 ≤ last ∧ calDue rs (l.getD i 0) = true) := by
    have hd : ∀ t, calDue rs t = due rs t := fun t => by unfold calDue; rw [hok]; rfl
    show times rs last l = true ↔ _
    rw [times_iff]
    constructor
    · intro h
      exact ⟨fun i hi h0 => (h i hi).2.2 h0, fun i hi => ⟨(h i hi).1, by rw [hd]; exact (h i hi).2.1⟩⟩
    · rintro ⟨h1, h2⟩ i hi
      exact ⟨(h2 i hi).1, by rw [← hd]; exact (h2 i hi).2, fun h0 => h1 i hi h0⟩
  clear hr hg hl hok
  go_enter Tryd.func41, Tryd.ntmps41
  go_wp2_with fail
  refine (HA.out _ ((Below.refl _ _).alloc (Nat.le_refl _) _)).mono ?_
  rintro e w1 ⟨⟨v, rfl, hv⟩, q, rfl⟩
  have hB := below_drewN (Below.refl (w.heap.size + 1) (w.alloc (.cells #[.slice ra rl rc, .int .i64 pol, .int .i64 win, .int .i64 last, v4, v5, v6] 28))) q
  have HB : Hid _ := hB
  clear hB
  cases v with
  | true =>
    have HV : Hid (Asc l) := hv.1 rfl
    clear hv
    go_wp2_with fail
    refine (HH.out _ _ (unbox HB.out) (PlaBox.new HB.out)).mono ?_
    rintro e w2 ⟨⟨v, rfl, hv⟩, hb2⟩
    have HB2 : Hid _ := bcall (unbox HB.out) (unbox HB.out).size hb2
    have HF : Hid (times rs last l = v) := by
      show times rs last l = v
      rw [Bool.eq_iff_iff, HT.out]
      exact ⟨fun h => hv.2 h.2, fun h => ⟨HV.out, hv.1 h⟩⟩
    clear hv hb2
    go_wp2_with fail
    go_ret
    exact ⟨ret_bool HF.out.symm, HB2.out⟩
  | false =>
    have HF : Hid (times rs last l = false) := by
      show times rs last l = false
      rw [Bool.eq_false_iff]
      intro h
      have := hv.2 (HT.out.1 h).1
      cases this
    clear hv
    go_wp2_with fail
    go_ret
    exact ⟨ret_bool HF.out.symm, unbox HB.out⟩
end Pl
end Go.Proofs.YtnieaeakaajleaaDoor
