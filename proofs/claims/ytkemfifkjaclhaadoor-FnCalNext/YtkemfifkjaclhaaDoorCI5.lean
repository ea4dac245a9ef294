/- The program's own calendars: CalDue. -/
import Derived.Test.YtkemfifkjaclhaaDoorCI4
namespace Go.Proofs.YtkemfifkjaclhaaDoor
set_option linter.unusedVariables false
set_option linter.unusedSimpArgs false
open Go.RowKit Go

set_option maxHeartbeats 1000000 in
theorem dueFn (r : Rul) (a : Option Addr) (len cap : Nat) (t : Int) (pt : Nat) (w : World) (hr : IsRow .i64 w a len cap r.but) (hok : RuleOk r) (hct : w.cell? ⟨pt, 0, none⟩ = some (.int .i64 t)) :
    Calls Tryd.prog 22 #[.agg #[.int .i64 r.ev, .int .i64 r.at_, .int .i64 r.fr, .int .i64 r.to_, .slice a len cap], .pointer (some ⟨pt, 0, none⟩)] w fun x w' => x = .returned (.bool (ofRule r t)) ∧ Below w.heap.size w w' := by
  have hc2 : ∀ o, (w.alloc o).cell? ⟨pt, 0, none⟩ = some (.int .i64 t) := fun o => by rw [World.cell?_alloc_lt _ _ _ (World.block_lt_of_cell? _ _ hct)]; exact hct
  have HT : Hid (∀ o, Calls Tryd.prog 23 #[.agg #[.int .i64 r.ev, .int .i64 r.at_, .int .i64 r.fr, .int .i64 r.to_, .slice a len cap], .int .i64 t] (w.alloc o) fun x w' => x = .returned (.bool (ofRule r t)) ∧ Below (w.alloc o).heap.size (w.alloc o) w') := fun o => hasTick r a len cap t (w.alloc o) (hr.alloc o) hok
  clear hr hok hct
  generalize ofRule r t = v at HT ⊢
  go_enter Tryd.func22, Tryd.ntmps22
  go_wp2_with fail
  refine (HT.out _).mono ?_
  rintro e w1 ⟨rfl, hw1⟩
  go_wp2_with fail
  go_ret
  exact ⟨rfl, bcall ((Below.refl _ _).alloc (Nat.le_refl _) _) (by simp) hw1⟩

set_option maxHeartbeats 1000000 in
theorem indexFunc (a : Option Addr) (len cap : Nat) (rs : List Rul) (t : Int) (pt : Nat) (w : World) (hr : IsRuls w a len cap rs) (hok : ∀ i (hi : i < rs.length), RuleOk rs[i]) (hct : w.cell? ⟨pt, 0, none⟩ = some (.int .i64 t)) :
    Calls Tryd.prog 36 #[.slice a len cap, .func (.func 22) #[] #[.pointer (some ⟨pt, 0, none⟩)]] w fun e w' => IdxPost e (due rs t) ∧ Below w.heap.size w w' := by
  obtain ⟨hz, hm⟩ := IsRecs.len hr
  unfold maxLen at hm
  have HR : Hid (IsRuls w a len cap rs) := hr
  have HOK : Hid (∀ i (hi : i < rs.length), RuleOk rs[i]) := hok
  have HCT : Hid (w.cell? ⟨pt, 0, none⟩ = some (.int .i64 t)) := hct
  clear hr hok hct
  go_enter Tryd.func36, Tryd.ntmps36
  go_wp2
  go_loopw [8] (fun i wr => ∃ q : Nat, i = .int .i64 q ∧ q ≤ len ∧ (∀ i (hi : i < rs.length), i < q → ofRule rs[i] t = false) ∧ Below w.heap.size w wr) (fun i _ => len - (intOf i).toNat)
  case atStart => exact ⟨0, rfl, Nat.zero_le _, fun i _ h => by omega, Below.refl _ _⟩
  case round =>
    obtain ⟨q, rfl, hq, hno, hb⟩ := hrel
    by_cases hlt : q < len
    · obtain ⟨b, off, rfl, h1, hbl, a1, l1, k1, c0, c1, c2, c3, c4, hrow1, _⟩ := IsRuls.at (IsRuls.below HR.out hb) (i := q) (by omega)
      have HE := dueFn rs[q] a1 l1 k1 t pt wr hrow1 (HOK.out q (by omega)) (by rw [hb.cell (World.block_lt_of_cell? _ _ HCT.out)]; exact HCT.out)
      by_cases hy : ofRule rs[q] t = true
      · have HF : Hid (due rs t = true) := due_yes (by omega) hy
        rw [hy] at HE
        have HE : Hid _ := HE
        clear hno hy
        go_wp2_with fail
        refine Calls.mono HE.out ?_
        rintro e w1 ⟨rfl, hw1⟩
        go_wp2_with fail
        go_ret
        exact ⟨.inl ⟨q, rfl, HF.out⟩, bcall hb hb.size hw1⟩
      · have hy : ofRule rs[q] t = false := by simpa using hy
        have HNO : Hid (∀ i (hi : i < rs.length), i < q + 1 → ofRule rs[i] t = false) := fun i hi hiq => by
          by_cases e : i = q
          · subst e; exact hy
          · exact hno i hi (by omega)
        rw [hy] at HE
        have HE : Hid _ := HE
        clear hno hy
        go_wp2_with fail
        refine Calls.mono HE.out ?_
        rintro e w1 ⟨rfl, hw1⟩
        go_wp2_with fail
        go_roundw
        case rel => exact ⟨q + 1, by go_num, by omega, HNO.out, bcall hb hb.size hw1⟩
        case measure => simp [intOf]; omega
    · have HF : Hid (due rs t = false) := due_no fun i hi => hno i hi (by omega)
      clear hno
      go_wp2_with fail
      go_ret
      exact ⟨.inr ⟨rfl, HF.out⟩, hb⟩

set_option maxHeartbeats 1000000 in
theorem containsFunc (a : Option Addr) (len cap : Nat) (rs : List Rul) (t : Int) (pt : Nat) (w : World) (hr : IsRuls w a len cap rs) (hok : ∀ i (hi : i < rs.length), RuleOk rs[i]) (hct : w.cell? ⟨pt, 0, none⟩ = some (.int .i64 t)) :
    Calls Tryd.prog 21 #[.slice a len cap, .func (.func 22) #[] #[.pointer (some ⟨pt, 0, none⟩)]] w fun e w' => e = .returned (.bool (due rs t)) ∧ Below w.heap.size w w' := by
  have HI : Hid _ := indexFunc a len cap rs t pt w hr hok hct
  clear hr hok hct
  go_enter Tryd.func21, Tryd.ntmps21
  go_wp2_with fail
  refine Calls.mono HI.out ?_
  rintro e w1 ⟨(⟨n, rfl, hb⟩ | ⟨rfl, hb⟩), hw⟩
  · have HB : Hid _ := hb
    clear hb
    have hd : decide ((0 : Int) ≤ (n : Int)) = true := decide_eq_true (by omega)
    go_wp2_with fail
    go_ret
    exact ⟨ret_bool HB.out.symm, hw⟩
  · have HB : Hid _ := hb
    clear hb
    go_wp2_with fail
    go_ret
    exact ⟨ret_bool HB.out.symm, hw⟩

set_option maxHeartbeats 1000000 in
theorem implCalDue (a : Option Addr) (len cap : Nat) (rs : List Rul) (t : Int) (w : World) (hr : IsRuls w a len cap rs) (hg : ErrT w) :
    Calls Tryd.prog 8 #[.slice a len cap, .int .i64 t] w fun e w' => e = .returned (.bool (calDue rs t)) ∧ Below w.heap.size w w' := by
  have HK := fun o => implCalOk a len cap rs (w.alloc o) (hr.alloc o) (hg.below ((Below.refl _ _).alloc (Nat.le_refl _) _))
  have HR : Hid (IsRuls w a len cap rs) := hr
  clear hr hg
  by_cases hok : calOk rs = true
  · rw [hok] at HK
    have HK : Hid _ := HK
    have HD : Hid (∀ pt w, IsRuls w a len cap rs → w.cell? ⟨pt, 0, none⟩ = some (.int .i64 t) → Calls Tryd.prog 21 #[.slice a len cap, .func (.func 22) #[] #[.pointer (some ⟨pt, 0, none⟩)]] w fun e w' => e = .returned (.bool (due rs t)) ∧ Below w.heap.size w w') := fun pt w h h2 => containsFunc a len cap rs t pt w h (calOk_rules hok) h2
    have HF : Hid (calDue rs t = due rs t) := by show _ = _; unfold calDue; rw [hok]; rfl
    go_enter Tryd.func8, Tryd.ntmps8
    go_wp2_with fail
    refine Calls.mono (HK.out _) ?_
    rintro e w1 ⟨rfl, hw1⟩
    have hc : w1.cell? ⟨w.heap.size, 0, none⟩ = some (.int .i64 t) := by rw [(bcell hw1).1 _ _ (by simp)]; simp
    have hb : Below w.heap.size w w1 := bcall ((Below.refl _ _).alloc (Nat.le_refl _) _) (by simp) hw1
    clear hw1
    go_wp2_with fail
    refine (HD.out _ _ (HR.out.below hb) hc).mono ?_
    rintro e w2 ⟨rfl, hw2⟩
    go_wp2_with fail
    go_ret
    exact ⟨ret_bool HF.out.symm, bcall hb hb.size hw2⟩
  · have hok : calOk rs = false := by simpa using hok
    rw [hok] at HK
    have HK : Hid _ := HK
    have HF : Hid (calDue rs t = false) := by show _ = _; unfold calDue; rw [hok]; rfl
    go_enter Tryd.func8, Tryd.ntmps8
    go_wp2_with fail
    refine Calls.mono (HK.out _) ?_
    rintro e w1 ⟨rfl, hw1⟩
    go_wp2_with fail
    go_ret
    exact ⟨ret_bool HF.out.symm, bcall ((Below.refl _ _).alloc (Nat.le_refl _) _) (by simp) hw1⟩
end Go.Proofs.YtkemfifkjaclhaaDoor
