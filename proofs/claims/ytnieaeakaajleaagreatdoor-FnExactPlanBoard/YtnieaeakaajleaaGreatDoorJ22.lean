/- The program's own calendars: CalDue. -/
import Derived.Test.YtnieaeakaajleaaGreatDoorJ21
import Derived.Test.YtnieaeakaajleaaGreatDoorJ12
namespace Go.Proofs.YtnieaeakaajleaaGreatDoor
set_option linter.unusedVariables false
set_option linter.unusedSimpArgs false
open Go.RowKit Go

set_option maxHeartbeats 1000000 in
theorem implCalOk (a : Option Addr) (len cap : Nat) (rs : List Rul) (w : World) (hr : IsRuls w a len cap rs) (hg : ErrT w) :
    Calls Tryz.prog 72 #[.slice a len cap] w fun e w' => e = .returned (.bool (calOk rs)) ∧ Below w.heap.size w w' := by
  have HL : Hid (∀ w, IsRuls w a len cap rs → Calls Tryz.prog 101 #[.slice a len cap] w fun e w' => Looked e rs ∧ Below w.heap.size w w') := fun w h => lookedAtRules a len cap rs w h
  have HR : Hid (IsRuls w a len cap rs) := hr
  have HG : Hid (ErrT w) := hg
  clear hr hg
  go_enter Tryz.func72, Tryz.ntmps72
  go_wp2_with fail
  refine (HL.out _ (IsRuls.alloc HR.out _)).mono ?_
  rintro e w1 ⟨(⟨rfl, hk⟩ | ⟨z, rfl, hk⟩), hb⟩
  · have HK : Hid (calOk rs = true) := hk
    clear hk
    go_wp2_with (go_at_call 100; refine (as_nil _ _).mono ?_; rintro e w2 ⟨rfl, rfl⟩)
    go_ret
    exact ⟨ret_bool HK.out.symm, bcall ((Below.refl _ _).alloc (Nat.le_refl _) _) (by simp) hb⟩
  · have HK : Hid (calOk rs = false) := hk
    have hb0 : Below w.heap.size w w1 := bcall ((Below.refl _ _).alloc (Nat.le_refl _) _) (by simp) hb
    have hg1 : ErrT w1 := HG.out.below hb0
    have hc : w1.cell? ⟨w.heap.size, 0, none⟩ = some (.int .i64 0) := by rw [(bcell hb).1 _ _ (by simp)]; simp
    have hf : w1.frozen? ⟨w.heap.size, 0, none⟩ = false := by rw [(bcell hb).2 _ _ (by simp)]; simp
    clear hk
    go_wp2_with fail
    refine (as_hit z _ _ _ hg1 hc hf).mono ?_
    rintro e w2 ⟨rfl, rfl⟩
    go_wp2_with fail
    go_ret
    refine ⟨ret_bool HK.out.symm, ?_⟩
    have h1 := hb0.size
    exact ((((hb0.alloc h1 _).alloc (by simp; omega) _).alloc (by simp; omega) _).alloc (by simp; omega) _).setCell (by simp) _
end Go.Proofs.YtnieaeakaajleaaGreatDoor

namespace Go.Proofs.YtnieaeakaajleaaGreatDoor
set_option linter.unusedVariables false
set_option linter.unusedSimpArgs false
open Go.RowKit Go

/-- A place, or -1: whether it is there. -/
def IdxPost (x : Ending) (h : Bool) : Prop := (∃ n : Nat, x = .returned (.int .i64 n) ∧ h = true) ∨ (x = .returned (.int .i64 (-1)) ∧ h = false)

set_option maxHeartbeats 1000000 in
theorem slicesIndex (a : Option Addr) (len cap : Nat) (zs : List Int) (t : Int) (w : World) (hr : IsRow .i64 w a len cap zs) :
    Calls Tryz.prog 69 #[.slice a len cap, .int .i64 t] w fun x w' => IdxPost x (butHas zs t) ∧ w' = w := by
  obtain ⟨hz, hm⟩ := hr.len
  unfold maxLen at hm
  have HR : Hid (IsRow .i64 w a len cap zs) := hr
  clear hr
  go_enter Tryz.func69, Tryz.ntmps69
  go_wp2
  go_loop [8] (fun i => ∃ k : Nat, k ≤ len ∧ i = .int .i64 k ∧ ∀ i, i < k → zs.getD i 0 ≠ t) (fun i => len - (intOf i).toNat)
  case atStart => exact ⟨0, Nat.zero_le _, rfl, fun i h => by omega⟩
  case round =>
    obtain ⟨k, hk, rfl, hn⟩ := hrel
    have HN : Hid (∀ i, i < k → zs.getD i 0 ≠ t) := hn
    clear hn
    by_cases hlt : k < len
    · obtain ⟨b, off, rfl, h1, h2, hc⟩ := IsRow.at HR.out hlt
      by_cases he : zs.getD k 0 = t
      · have HF : Hid (butHas zs t = true) := butHas_yes (by omega) he
        rw [he] at hc
        go_wp2
        go_ret
        exact ⟨.inl ⟨k, rfl, HF.out⟩, rfl⟩
      · have HN1 : Hid (∀ i, i < k + 1 → zs.getD i 0 ≠ t) := fun i hi => by
          by_cases e : i = k
          · subst e; exact he
          · exact HN.out i (by omega)
        generalize zs.getD k 0 = z at hc he
        have hd : (t == z) = false := by simpa using fun e => he (Eq.symm e)
        go_wp2
        go_round
        case rel => exact ⟨k + 1, by omega, by go_num, HN1.out⟩
        case measure => simp [intOf]; omega
    · have HF : Hid (butHas zs t = false) := butHas_no fun i hi => HN.out i (by omega)
      go_wp2
      go_ret
      exact ⟨.inr ⟨rfl, HF.out⟩, rfl⟩

theorem slicesContains (a : Option Addr) (len cap : Nat) (zs : List Int) (t : Int) (w : World) (hr : IsRow .i64 w a len cap zs) :
    Calls Tryz.prog 126 #[.slice a len cap, .int .i64 t] w fun x w' => x = .returned (.bool (butHas zs t)) ∧ w' = w := by
  have HI : Hid _ := slicesIndex a len cap zs t w hr
  clear hr
  go_enter Tryz.func126, Tryz.ntmps126
  go_wp2_with fail
  refine Calls.mono HI.out ?_
  rintro e w1 ⟨(⟨n, rfl, hb⟩ | ⟨rfl, hb⟩), hw⟩
  · subst w1
    have HB : Hid _ := hb
    clear hb
    have hd : decide ((0 : Int) ≤ (n : Int)) = true := decide_eq_true (by omega)
    go_wp2_with fail
    go_ret
    exact ⟨ret_bool HB.out.symm, rfl⟩
  · subst w1
    have HB : Hid _ := hb
    clear hb
    go_wp2_with fail
    go_ret
    exact ⟨ret_bool HB.out.symm, rfl⟩

set_option maxRecDepth 4000 in
set_option maxHeartbeats 2000000 in
theorem hasTick (r : Rul) (a : Option Addr) (len cap : Nat) (t : Int) (w : World) (hr : IsRow .i64 w a len cap r.but) (hok : RuleOk r) :
    Calls Tryz.prog 111 #[.agg #[.int .i64 r.ev, .int .i64 r.at_, .int .i64 r.fr, .int .i64 r.to_, .slice a len cap], .int .i64 t] w fun x w' => x = .returned (.bool (ofRule r t)) ∧ Below w.heap.size w w' := by
  have HBT : Hid (∀ w, IsRow .i64 w a len cap r.but → Calls Tryz.prog 126 #[.slice a len cap, .int .i64 t] w fun x w' => x = .returned (.bool (butHas r.but t)) ∧ w' = w) := fun w h => slicesContains a len cap r.but t w h
  have HR : Hid (IsRow .i64 w a len cap r.but) := hr
  clear hr
  have HI := fun w => isWithin t r.fr r.to_ w
  obtain ⟨⟨e1, e2⟩, ⟨a1, a2⟩, ⟨f1, f2⟩, ⟨t1, t2⟩, _, _⟩ := hok
  obtain ⟨ev, at_, fr, to_, but⟩ := r
  dsimp only at *
  by_cases p1 : fr ≤ t ∧ t ≤ to_
  · rw [decide_eq_true p1] at HI
    have HI : Hid _ := HI
    have ht0 : 0 ≤ t := by omega
    by_cases p2 : t % ev = at_
    · by_cases p3 : butHas but t = true
      · rw [p3] at HBT
        have HF : Hid (ofRule ⟨ev, at_, fr, to_, but⟩ t = false) := decide_eq_false fun h => h.2.2 (by simpa [butHas] using p3)
        go_enter Tryz.func111, Tryz.ntmps111
        go_wp2_with fail
        go_quiet (first
          | (go_at_call 73; exact Calls.quiet_of_same (HI.out _))
          | (go_at_call 126; exact Calls.quiet_of_same (HBT.out _ (isRow_drewN (IsRow.alloc HR.out _) _))))
        go_wp2_with fail
        go_ret
        exact ⟨ret_bool HF.out.symm, below_drewN ((Below.refl _ _).alloc (Nat.le_refl _) _) _⟩
      · have p3 : butHas but t = false := by simpa using p3
        rw [p3] at HBT
        have HF : Hid (ofRule ⟨ev, at_, fr, to_, but⟩ t = true) := decide_eq_true ⟨p1, p2, by simpa [butHas] using p3⟩
        go_enter Tryz.func111, Tryz.ntmps111
        go_wp2_with fail
        go_quiet (first
          | (go_at_call 73; exact Calls.quiet_of_same (HI.out _))
          | (go_at_call 126; exact Calls.quiet_of_same (HBT.out _ (isRow_drewN (IsRow.alloc HR.out _) _))))
        go_wp2_with fail
        go_ret
        exact ⟨ret_bool HF.out.symm, below_drewN ((Below.refl _ _).alloc (Nat.le_refl _) _) _⟩
    · have HF : Hid (ofRule ⟨ev, at_, fr, to_, but⟩ t = false) := decide_eq_false fun h => p2 h.2.1
      have hm : t.tmod ev = t % ev := Int.tmod_eq_emod_of_nonneg ht0
      have hq : (t.tmod ev == at_) = false := by rw [hm]; simpa using p2
      have hq2 : (t % ev == at_) = false := by simpa using p2
      have hv : ev ≠ 0 := by omega
      clear hm
      go_enter Tryz.func111, Tryz.ntmps111
      go_wp2_with fail
      go_quiet ((go_at_call 73; exact Calls.quiet_of_same (HI.out _)))
      go_wp2_with fail
      go_ret
      exact ⟨ret_bool HF.out.symm, below_drewN ((Below.refl _ _).alloc (Nat.le_refl _) _) _⟩
  · rw [decide_eq_false p1] at HI
    have HI : Hid _ := HI
    have HF : Hid (ofRule ⟨ev, at_, fr, to_, but⟩ t = false) := decide_eq_false fun h => p1 h.1
    go_enter Tryz.func111, Tryz.ntmps111
    go_wp2_with fail
    go_quiet ((go_at_call 73; exact Calls.quiet_of_same (HI.out _)))
    go_wp2_with fail
    go_ret
    exact ⟨ret_bool HF.out.symm, below_drewN ((Below.refl _ _).alloc (Nat.le_refl _) _) _⟩
end Go.Proofs.YtnieaeakaajleaaGreatDoor

namespace Go.Proofs.YtnieaeakaajleaaGreatDoor
set_option linter.unusedVariables false
set_option linter.unusedSimpArgs false
open Go.RowKit Go

set_option maxHeartbeats 1000000 in
theorem dueFn (r : Rul) (a : Option Addr) (len cap : Nat) (t : Int) (pt : Nat) (w : World) (hr : IsRow .i64 w a len cap r.but) (hok : RuleOk r) (hct : w.cell? ⟨pt, 0, none⟩ = some (.int .i64 t)) :
    Calls Tryz.prog 131 #[.agg #[.int .i64 r.ev, .int .i64 r.at_, .int .i64 r.fr, .int .i64 r.to_, .slice a len cap], .pointer (some ⟨pt, 0, none⟩)] w fun x w' => x = .returned (.bool (ofRule r t)) ∧ Below w.heap.size w w' := by
  have hc2 : ∀ o, (w.alloc o).cell? ⟨pt, 0, none⟩ = some (.int .i64 t) := fun o => by rw [World.cell?_alloc_lt _ _ _ (World.block_lt_of_cell? _ _ hct)]; exact hct
  have HT : Hid (∀ o, Calls Tryz.prog 111 #[.agg #[.int .i64 r.ev, .int .i64 r.at_, .int .i64 r.fr, .int .i64 r.to_, .slice a len cap], .int .i64 t] (w.alloc o) fun x w' => x = .returned (.bool (ofRule r t)) ∧ Below (w.alloc o).heap.size (w.alloc o) w') := fun o => hasTick r a len cap t (w.alloc o) (hr.alloc o) hok
  clear hr hok hct
  generalize ofRule r t = v at HT ⊢
  go_enter Tryz.func131, Tryz.ntmps131
  go_wp2_with fail
  refine (HT.out _).mono ?_
  rintro e w1 ⟨rfl, hw1⟩
  go_wp2_with fail
  go_ret
  exact ⟨rfl, bcall ((Below.refl _ _).alloc (Nat.le_refl _) _) (by simp) hw1⟩

set_option maxHeartbeats 1000000 in
theorem indexFunc (a : Option Addr) (len cap : Nat) (rs : List Rul) (t : Int) (pt : Nat) (w : World) (hr : IsRuls w a len cap rs) (hok : ∀ i (hi : i < rs.length), RuleOk rs[i]) (hct : w.cell? ⟨pt, 0, none⟩ = some (.int .i64 t)) :
    Calls Tryz.prog 138 #[.slice a len cap, .func (.func 131) #[] #[.pointer (some ⟨pt, 0, none⟩)]] w fun e w' => IdxPost e (due rs t) ∧ Below w.heap.size w w' := by
  obtain ⟨hz, hm⟩ := IsRecs.len hr
  unfold maxLen at hm
  have HR : Hid (IsRuls w a len cap rs) := hr
  have HOK : Hid (∀ i (hi : i < rs.length), RuleOk rs[i]) := hok
  have HCT : Hid (w.cell? ⟨pt, 0, none⟩ = some (.int .i64 t)) := hct
  clear hr hok hct
  go_enter Tryz.func138, Tryz.ntmps138
  go_wp2
  go_loopw [8] (fun i wr => ∃ q : Nat, i = .int .i64 q ∧ q ≤ len ∧ (∀ i (hi : i < rs.length), i < q → ofRule rs[i] t = false) ∧ Below w.heap.size w wr) (fun i _ => len - (intOf i).toNat)
  case atStart => exact ⟨0, rfl, Nat.zero_le _, fun i _ h => by omega, Below.refl _ _⟩
  case round =>
    obtain ⟨q, rfl, hq, hno, hb⟩ := hrel
    by_cases hlt : q < len
    · obtain ⟨b, off, rfl, h1, hbl, a1, l1, k1, c0, c1, c2, c3, c4, hrow1, _⟩ := IsRuls.at (IsRuls.below HR.out hb) (i := q) (by omega)
      have HE := dueFn rs[q] a1 l1 k1 t pt wr hrow1 (HOK.out q (by omega)) (by rw [hb.cell (World.block_lt_of_cell? _ _ HCT.out)]; exact HCT.out)
      by_cases hy : ofRule rs[q] t = true
      · have HF : Hid (due rs t = true) := due_yes (by omega) hy
        rw [hy] at HE
        have HE : Hid _ := HE
        clear hno hy
        go_wp2_with fail
        refine Calls.mono HE.out ?_
        rintro e w1 ⟨rfl, hw1⟩
        go_wp2_with fail
        go_ret
        exact ⟨.inl ⟨q, rfl, HF.out⟩, bcall hb hb.size hw1⟩
      · have hy : ofRule rs[q] t = false := by simpa using hy
        have HNO : Hid (∀ i (hi : i < rs.length), i < q + 1 → ofRule rs[i] t = false) := fun i hi hiq => by
          by_cases e : i = q
          · subst e; exact hy
          · exact hno i hi (by omega)
        rw [hy] at HE
        have HE : Hid _ := HE
        clear hno hy
        go_wp2_with fail
        refine Calls.mono HE.out ?_
        rintro e w1 ⟨rfl, hw1⟩
        go_wp2_with fail
        go_roundw
        case rel => exact ⟨q + 1, by go_num, by omega, HNO.out, bcall hb hb.size hw1⟩
        case measure => simp [intOf]; omega
    · have HF : Hid (due rs t = false) := due_no fun i hi => hno i hi (by omega)
      clear hno
      go_wp2_with fail
      go_ret
      exact ⟨.inr ⟨rfl, HF.out⟩, hb⟩

set_option maxHeartbeats 1000000 in
theorem containsFunc (a : Option Addr) (len cap : Nat) (rs : List Rul) (t : Int) (pt : Nat) (w : World) (hr : IsRuls w a len cap rs) (hok : ∀ i (hi : i < rs.length), RuleOk rs[i]) (hct : w.cell? ⟨pt, 0, none⟩ = some (.int .i64 t)) :
    Calls Tryz.prog 130 #[.slice a len cap, .func (.func 131) #[] #[.pointer (some ⟨pt, 0, none⟩)]] w fun e w' => e = .returned (.bool (due rs t)) ∧ Below w.heap.size w w' := by
  have HI : Hid _ := indexFunc a len cap rs t pt w hr hok hct
  clear hr hok hct
  go_enter Tryz.func130, Tryz.ntmps130
  go_wp2_with fail
  refine Calls.mono HI.out ?_
  rintro e w1 ⟨(⟨n, rfl, hb⟩ | ⟨rfl, hb⟩), hw⟩
  · have HB : Hid _ := hb
    clear hb
    have hd : decide ((0 : Int) ≤ (n : Int)) = true := decide_eq_true (by omega)
    go_wp2_with fail
    go_ret
    exact ⟨ret_bool HB.out.symm, hw⟩
  · have HB : Hid _ := hb
    clear hb
    go_wp2_with fail
    go_ret
    exact ⟨ret_bool HB.out.symm, hw⟩

set_option maxHeartbeats 1000000 in
theorem implCalDue (a : Option Addr) (len cap : Nat) (rs : List Rul) (t : Int) (w : World) (hr : IsRuls w a len cap rs) (hg : ErrT w) :
    Calls Tryz.prog 119 #[.slice a len cap, .int .i64 t] w fun e w' => e = .returned (.bool (calDue rs t)) ∧ Below w.heap.size w w' := by
  have HK := fun o => implCalOk a len cap rs (w.alloc o) (hr.alloc o) (hg.below ((Below.refl _ _).alloc (Nat.le_refl _) _))
  have HR : Hid (IsRuls w a len cap rs) := hr
  clear hr hg
  by_cases hok : calOk rs = true
  · rw [hok] at HK
    have HK : Hid _ := HK
    have HD : Hid (∀ pt w, IsRuls w a len cap rs → w.cell? ⟨pt, 0, none⟩ = some (.int .i64 t) → Calls Tryz.prog 130 #[.slice a len cap, .func (.func 131) #[] #[.pointer (some ⟨pt, 0, none⟩)]] w fun e w' => e = .returned (.bool (due rs t)) ∧ Below w.heap.size w w') := fun pt w h h2 => containsFunc a len cap rs t pt w h (calOk_rules hok) h2
    have HF : Hid (calDue rs t = due rs t) := by show _ = _; unfold calDue; rw [hok]; rfl
    go_enter Tryz.func119, Tryz.ntmps119
    go_wp2_with fail
    refine Calls.mono (HK.out _) ?_
    rintro e w1 ⟨rfl, hw1⟩
    have hc : w1.cell? ⟨w.heap.size, 0, none⟩ = some (.int .i64 t) := by rw [(bcell hw1).1 _ _ (by simp)]; simp
    have hb : Below w.heap.size w w1 := bcall ((Below.refl _ _).alloc (Nat.le_refl _) _) (by simp) hw1
    clear hw1
    go_wp2_with fail
    refine (HD.out _ _ (HR.out.below hb) hc).mono ?_
    rintro e w2 ⟨rfl, hw2⟩
    go_wp2_with fail
    go_ret
    exact ⟨ret_bool HF.out.symm, bcall hb hb.size hw2⟩
  · have hok : calOk rs = false := by simpa using hok
    rw [hok] at HK
    have HK : Hid _ := HK
    have HF : Hid (calDue rs t = false) := by show _ = _; unfold calDue; rw [hok]; rfl
    go_enter Tryz.func119, Tryz.ntmps119
    go_wp2_with fail
    refine Calls.mono (HK.out _) ?_
    rintro e w1 ⟨rfl, hw1⟩
    go_wp2_with fail
    go_ret
    exact ⟨ret_bool HF.out.symm, bcall ((Below.refl _ _).alloc (Nat.le_refl _) _) (by simp) hw1⟩
end Go.Proofs.YtnieaeakaajleaaGreatDoor
