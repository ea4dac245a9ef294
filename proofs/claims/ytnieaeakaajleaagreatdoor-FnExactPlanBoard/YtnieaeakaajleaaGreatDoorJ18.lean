/- The model's PlanBoard. -/
import Derived.Test.YtnieaeakaajleaaGreatDoorJ15
import Derived.Test.YtnieaeakaajleaaGreatDoorJ16
import Derived.Test.YtnieaeakaajleaaGreatDoorJ17
import Derived.Test.YtnieaeakaajleaaGreatDoorJ12
import Derived.Lib.QuietBelow
import Derived.Deep.QuietTactic
namespace Go.Proofs.YtnieaeakaajleaaGreatDoor
set_option linter.unusedVariables false
set_option linter.unusedSimpArgs false
open Go.RowKit Go Go.Sort
namespace Pl

theorem dec_call (n : Int) (h : -9223372036854775807 ≤ n ∧ n ≤ 9223372036854775807) (w : World) : Calls Tryz.prog 44 #[.int .i64 n] w fun e w' => e = .returned (.string (itoB n)) ∧ Below w.heap.size w w' := l41Dec n h.1 h.2 w

theorem times_fit {p : Pla} (h : PlanOk p) {l : List Int} (ht : times p.rs p.last l = true) (i : Nat) (hi : i < l.length) : Fits (l.getD i 0) := by
  obtain ⟨h1, h2, _⟩ := times_iff.1 ht i hi
  have := due_bd (rs := p.rs) (u := l.getD i 0) (by unfold calDue; rw [h.rules, h2]; rfl)
  exact ⟨by omega, by omega⟩

set_option maxRecDepth 4000 in
set_option maxHeartbeats 4000000 in
theorem specPlanBoard (ra : Option Addr) (rl rc : Nat) (ga : Option Addr) (gl gc : Nat) (wa : Option Addr) (wl wk : Nat) (ta : Option Addr) (tl tc : Nat) (p : Pla) (w : World) (hp : IsPla w ra rl rc ga gl gc wa wl wk ta tl tc p) :
    Calls Tryz.prog 18 #[.agg #[.slice ra rl rc, .int .i64 p.pol, .int .i64 p.win, .int .i64 p.last, .slice ga gl gc, .slice wa wl wk, .slice ta tl tc]] w fun e w' => e = .returned (.string (boardB p)) ∧ Below w.heap.size w w' := by
  have hrl := (IsRecs.len hp.1).1
  obtain ⟨hgl, hgm⟩ := hp.2.1.len
  obtain ⟨hwl, hwm⟩ := hp.2.2.1.len
  obtain ⟨htl, htm⟩ := IsRecs.len hp.2.2.2
  unfold maxLen at hgm hwm htm
  have HP : Hid _ := hp
  clear hp
  have HK : Hid (∀ w', Below w.heap.size w w' → Calls Tryz.prog 23 #[.agg #[.slice ra rl rc, .int .i64 p.pol, .int .i64 p.win, .int .i64 p.last, .slice ga gl gc, .slice wa wl wk, .slice ta tl tc]] w' fun e w'' => e = .returned (.bool (planOk p)) ∧ Below w'.heap.size w' w'') := fun w' hb => specPlanOk _ _ _ _ _ _ _ _ _ _ _ _ p w' (IsPla.below HP.out hb)
  by_cases hok : planOk p = true
  case neg =>
    have hok' : planOk p = false := by simpa using hok
    have HF : Hid (boardB p = ⟨#[]⟩) := if_neg hok
    rw [hok'] at HK
    clear hok hok'
    go_enter Tryz.func18, Tryz.ntmps18
    go_wp2_with fail
    refine (HK.out _ ((Below.refl _ _).alloc (Nat.le_refl _) _)).mono ?_
    rintro e w1 ⟨rfl, hb1⟩
    have HB1 : Hid _ := unbox (below_box hb1)
    clear hb1
    go_wp2_with fail
    go_ret
    exact ⟨congrArg (fun s => Ending.returned (.string s)) HF.out.symm, HB1.out⟩
  have hpo := planOk_ok hok
  have HPO : Hid (PlanOk p) := hpo
  have HF : Hid (boardB p = boardT p) := if_pos hok
  rw [hok] at HK
  have hbd := calNext_bd p.rs p.last
  have hl := hpo.last
  have HD1 : Hid (∀ w, Calls Tryz.prog 44 #[.int .i64 p.last] w fun e w' => e = .returned (.string (itoB p.last)) ∧ Below w.heap.size w w') := fun w => dec_call p.last (by omega) w
  have HD2 : Hid (∀ w, Calls Tryz.prog 44 #[.int .i64 (calNext p.rs p.last)] w fun e w' => e = .returned (.string (itoB (calNext p.rs p.last))) ∧ Below w.heap.size w w') := fun w => dec_call (calNext p.rs p.last) (by omega) w
  have HNX : Hid (∀ w', Below w.heap.size w w' → Calls Tryz.prog 25 #[.slice ra rl rc, .int .i64 p.last] w' fun e w'' => e = .returned (.int .i64 (calNext p.rs p.last)) ∧ Below w'.heap.size w' w'') := fun w' hb => by
    refine (l41Next ra rl rc p.rs p.last w' (IsPla.below HP.out hb).1 (calOk_rules hpo.rules) hl).mono ?_
    rintro e w'' ⟨⟨n, rfl, hn⟩, hb2⟩
    rw [calNext_eq (show IsNext p.rs p.last n from hn.congr (ofTo_due hpo.rules))]
    exact ⟨rfl, hb2⟩
  have s1 := itoB_size p.last (by omega) (by omega)
  have s2 := itoB_size (calNext p.rs p.last) (by omega) (by omega)
  have HH : Hid (headP p = bLast ++ itoB p.last ++ bNext ++ itoB (calNext p.rs p.last) ++ bGoes) := rfl
  have hhs := headP_size hpo
  clear hok hpo hbd hl
  generalize itoB (calNext p.rs p.last) = NX at HD2 HH s2
  generalize calNext p.rs p.last = nx at HNX HD2
  generalize itoB p.last = LA at HD1 HH s1
  go_enter Tryz.func18, Tryz.ntmps18
  go_wp2_with fail
  refine (HK.out _ ((Below.refl _ _).alloc (Nat.le_refl _) _)).mono ?_
  rintro e w1 ⟨rfl, hb1⟩
  have HB1 : Hid _ := below_box hb1
  clear hb1 HK
  have n1 : ¬ 9223372036854775807 < 5 + LA.size := by omega
  have n2 : ¬ 9223372036854775807 < 5 + LA.size + 7 := by omega
  have n3 : ¬ 9223372036854775807 < 5 + LA.size + 7 + NX.size := by omega
  have n4 : ¬ 9223372036854775807 < 5 + LA.size + 7 + NX.size + 5 := by omega
  have c0 := cell_regrown (boxAt HB1.out (i := 0) rfl)
  have c3 := cell_regrown (boxAt HB1.out (i := 3) rfl)
  have CN := (fun W (h : Below (w.heap.size + 1) _ W) d os => Calls.regrown_of (HNX.out (grow (redrawn W d) os) ((unbox h).trans ((below_regrown W d os).mono (unbox h).size)))) _ HB1.out
  have C1 := (fun W (_ : Below (w.heap.size + 1) _ W) d os => Calls.regrown_of (HD1.out (grow (redrawn W d) os))) _ HB1.out
  have C2 := (fun W (_ : Below (w.heap.size + 1) _ W) d os => Calls.regrown_of (HD2.out (grow (redrawn W d) os))) _ HB1.out
  have HBR := (fun W (h : Below (w.heap.size + 1) _ W) d os => h.trans ((below_regrown W d os).mono (by have := h.size; simpa using this))) _ HB1.out
  have HBR : Hid _ := HBR
  go_wp2_with fail
  refine wp_region_quiet_below (by kernel_rfl) (by kernel_rfl) ?_
  repeat (quiet_step (first | (go_at_call 25; exact CN _ _) | with_reducible exact C1 _ _ | with_reducible exact C2 _ _))
  refine wpQuiet_nil ?_
  rintro _ ⟨⟨dq, osq⟩, rfl⟩
  have HB2 : Hid _ := HBR.out dq osq
  generalize grow (redrawn w1 dq) osq = V at HB2
  clear c0 c3 CN C1 C2 HBR n1 n2 n3 n4 HD1 HD2 HNX
  have hhd : (⟨#[108, 97, 115, 116, 32]⟩ : ByteArray) ++ LA ++ ⟨#[44, 32, 110, 101, 120, 116, 32]⟩ ++ NX ++ ⟨#[10, 103, 111, 101, 115]⟩ = headP p := HH.out.symm
  rw [hhd]
  clear hhd HH s1 s2
  have HFG : Hid (∀ i, i < gl → Fits (p.goes.getD i 0)) := fun i hi => times_fit HPO.out HPO.out.goes i (by omega)
  have HFW : Hid (∀ i, i < wl → Fits (p.waits.getD i 0)) := fun i hi => times_fit HPO.out HPO.out.waits i (by omega)
  have HTO : Hid (∀ i (h : i < p.told.length), (1 ≤ p.told[i].wh ∧ p.told[i].wh ≤ 5) ∧ Fits p.told[i].tk) := fun i h => by
    obtain ⟨h1, h2, h3⟩ := HPO.out.told i h
    have := due_bd (rs := p.rs) (u := p.told[i].tk) (by unfold calDue; rw [HPO.out.rules, h3]; rfl)
    exact ⟨h1, by omega, by omega⟩
  have ht60 : p.told.length ≤ 60 := HPO.out.told60
  have hg8 : gl ≤ 8 := by have := HPO.out.goesN; have := mostG_bd p.pol; omega
  have hw8 : wl ≤ 8 := by have := HPO.out.waitsN; have := mostW_bd p.pol; omega
  go_wp2_with fail
  go_loopw [3, 4] (fun o i wr => ∃ k : Nat, k ≤ gl ∧ i = .int .i64 k ∧ o = .string (numsT (headP p) (p.goes.take k)) ∧ Below (w.heap.size + 1) (w.alloc (.cells #[.slice ra rl rc, .int .i64 p.pol, .int .i64 p.win, .int .i64 p.last, .slice ga gl gc, .slice wa wl wk, .slice ta tl tc] 31)) wr) (fun _ i _ => gl - (intOf i).toNat)
  case atStart => exact ⟨0, Nat.zero_le _, rfl, rfl, HB2.out⟩
  case round =>
    obtain ⟨q, hq, rfl, rfl, hB⟩ := hrel
    have c4 := boxAt hB (i := 4) rfl
    have c5 := boxAt hB (i := 5) rfl
    have HB : Hid _ := hB
    clear hB HB2
    by_cases hlt : q < gl
    · obtain ⟨b, off, rfl, h1, h2, hc⟩ := IsRow.at (IsPla.below HP.out (unbox HB.out)).2.1 hlt
      have hf := HFG.out q hlt
      have HQ : Hid (∀ w, Calls Tryz.prog 44 #[.int .i64 (p.goes.getD q 0)] w fun e w' => e = .returned (.string (itoB (p.goes.getD q 0))) ∧ Below w.heap.size w w') := fun w => dec_call _ hf w
      have HT : Hid (numsT (headP p) (p.goes.take (q + 1)) = numsT (headP p) (p.goes.take q) ++ spB ++ itoB (p.goes.getD q 0)) := by
        show _ = _
        rw [takeI_snoc p.goes q (by omega), numsT_snoc]
      have hz1 := itoB_size (p.goes.getD q 0) (by have := hf.1; omega) hf.2
      have hz2 : (numsT (headP p) (p.goes.take q)).size ≤ 300 := by
        have := numsT_size (p.goes.take q) (fun n hn => by
          obtain ⟨i, hi, rfl⟩ := List.getElem_of_mem (List.mem_of_mem_take hn)
          have := HFG.out i (by omega)
          rwa [getD_at _ _ hi] at this) (headP p)
        have : (p.goes.take q).length ≤ 8 := by simp; omega
        omega
      have hz3 := spB_size
      generalize p.goes.getD q 0 = z at hc HQ HT hz1 hf
      generalize numsT (headP p) (p.goes.take q) = P at HT hz2 ⊢
      have e32 := e_spB
      have hz4 : (P ++ spB).size ≤ 301 := by rw [ByteArray.size_append]; omega
      go_wp2_with (go_at_call 44; refine (HQ.out _).mono ?_; rintro e w3 ⟨rfl, hw3⟩)
      go_roundw
      case rel => exact ⟨q + 1, by omega, by go_num, by rw [HT.out], bcall HB.out (by have := HB.out.size; simpa using this) hw3⟩
      case measure => simp [intOf]; omega
    · have he : p.goes.take q = p.goes := List.take_of_length_le (by omega)
      rw [he]
      have hg1 : (numsT (headP p) p.goes).size ≤ 300 := by
        have := numsT_size p.goes (fun n hn => by
          obtain ⟨i, hi, rfl⟩ := List.getElem_of_mem hn
          have := HFG.out i (by omega)
          rwa [getD_at _ _ hi] at this) (headP p)
        omega
      have HG : Hid (boardT p = toldT (numsT (numsT (headP p) p.goes ++ bWaits) p.waits ++ nlB) p.told) := rfl
      generalize numsT (headP p) p.goes = A at hg1 HG ⊢
      have y5 : (⟨#[10, 119, 97, 105, 116, 115]⟩ : ByteArray) = bWaits := rfl
      have z5 : bWaits.size = 6 := rfl
      have hz5 : (A ++ bWaits).size ≤ 306 := by rw [ByteArray.size_append]; omega
      have n5 : ¬ 9223372036854775807 < A.size + 6 := by omega
      clear hg1 HFG he
      go_wp2_with fail
      go_loopw [3, 5] (fun o i wr => ∃ k : Nat, k ≤ wl ∧ i = .int .i64 k ∧ o = .string (numsT (A ++ bWaits) (p.waits.take k)) ∧ Below (w.heap.size + 1) (w.alloc (.cells #[.slice ra rl rc, .int .i64 p.pol, .int .i64 p.win, .int .i64 p.last, .slice ga gl gc, .slice wa wl wk, .slice ta tl tc] 31)) wr) (fun _ i _ => wl - (intOf i).toNat)
      case atStart => exact ⟨0, Nat.zero_le _, rfl, rfl, HB.out⟩
      case round =>
        obtain ⟨q2, hq2, rfl, rfl, hB⟩ := hrel
        clear c4 c5
        have c5 := boxAt hB (i := 5) rfl
        have c6 := boxAt hB (i := 6) rfl
        have HB3 : Hid _ := hB
        clear hB HB
        by_cases hlt : q2 < wl
        · obtain ⟨b, off, rfl, h1, h2, hc⟩ := IsRow.at (IsPla.below HP.out (unbox HB3.out)).2.2.1 hlt
          have hf := HFW.out q2 hlt
          have HQ : Hid (∀ w, Calls Tryz.prog 44 #[.int .i64 (p.waits.getD q2 0)] w fun e w' => e = .returned (.string (itoB (p.waits.getD q2 0))) ∧ Below w.heap.size w w') := fun w => dec_call _ hf w
          have HT : Hid (numsT (A ++ bWaits) (p.waits.take (q2 + 1)) = numsT (A ++ bWaits) (p.waits.take q2) ++ spB ++ itoB (p.waits.getD q2 0)) := by
            show _ = _
            rw [takeI_snoc p.waits q2 (by omega), numsT_snoc]
          have hz1 := itoB_size (p.waits.getD q2 0) (by have := hf.1; omega) hf.2
          have hz2 : (numsT (A ++ bWaits) (p.waits.take q2)).size ≤ 600 := by
            have := numsT_size (p.waits.take q2) (fun n hn => by
              obtain ⟨i, hi, rfl⟩ := List.getElem_of_mem (List.mem_of_mem_take hn)
              have := HFW.out i (by omega)
              rwa [getD_at _ _ hi] at this) (A ++ bWaits)
            have : (p.waits.take q2).length ≤ 8 := by simp; omega
            omega
          have hz3 := spB_size
          generalize p.waits.getD q2 0 = z at hc HQ HT hz1 hf
          generalize numsT (A ++ bWaits) (p.waits.take q2) = P at HT hz2 ⊢
          have e32 := e_spB
          have hz4 : (P ++ spB).size ≤ 601 := by rw [ByteArray.size_append]; omega
          go_wp2_with (go_at_call 44; refine (HQ.out _).mono ?_; rintro e w3 ⟨rfl, hw3⟩)
          go_roundw
          case rel => exact ⟨q2 + 1, by omega, by go_num, by rw [HT.out], bcall HB3.out (by have := HB3.out.size; simpa using this) hw3⟩
          case measure => simp [intOf]; omega
        · have he : p.waits.take q2 = p.waits := List.take_of_length_le (by omega)
          rw [he]
          have hg1 : (numsT (A ++ bWaits) p.waits).size ≤ 600 := by
            have := numsT_size p.waits (fun n hn => by
              obtain ⟨i, hi, rfl⟩ := List.getElem_of_mem hn
              have := HFW.out i (by omega)
              rwa [getD_at _ _ hi] at this) (A ++ bWaits)
            omega
          generalize numsT (A ++ bWaits) p.waits = B at hg1 HG ⊢
          have y6 : (⟨#[10]⟩ : ByteArray) = nlB := rfl
          have z6 := nlB_size
          have hz6 : (B ++ nlB).size ≤ 601 := by rw [ByteArray.size_append]; omega
          have n6 : ¬ 9223372036854775807 < B.size + 1 := by omega
          have HC : Hid (boardT p = toldT (B ++ nlB) p.told) := HG.out
          clear hg1 HFW he hz5 y5 z5 n5 HG
          have hCC : B ++ (⟨#[10]⟩ : ByteArray) = B ++ nlB := rfl
          generalize hCe : B ++ nlB = C at hz6 HC hCC
          clear hCe y6
          go_wp2_with fail
          go_loopw [3, 6] (fun o i wr => ∃ k : Nat, k ≤ tl ∧ i = .int .i64 k ∧ o = .string (toldT C (p.told.take k)) ∧ Below (w.heap.size + 1) (w.alloc (.cells #[.slice ra rl rc, .int .i64 p.pol, .int .i64 p.win, .int .i64 p.last, .slice ga gl gc, .slice wa wl wk, .slice ta tl tc] 31)) wr) (fun _ i _ => tl - (intOf i).toNat)
          case atStart => exact ⟨0, Nat.zero_le _, rfl, rfl, HB3.out⟩
          case round =>
            obtain ⟨q3, hq3, rfl, rfl, hB⟩ := hrel
            clear c5 c6 hCC
            have c6 := boxAt hB (i := 6) rfl
            have hbk : w.heap.size < wr.heap.size := by have := hB.size; simp at this; omega
            have HB4 : Hid _ := hB
            clear hB HB3
            have hz2 : (toldT C (p.told.take q3)).size ≤ 2401 := by
              have h3 := toldT_size (p.told.take q3) C (fun i hi => by
                have hi2 : i < p.told.length := by simp at hi; omega
                have := HTO.out i hi2
                simp only [List.getElem_take]
                obtain ⟨_, hf⟩ := this
                exact ⟨by have := hf.1; omega, hf.2⟩)
              have : (p.told.take q3).length ≤ 60 := by simp; omega
              omega
            by_cases hlt : q3 < tl
            · obtain ⟨b, off, rfl, h1, h2, d0, d1, f0, f1⟩ := IsTlds.at (IsPla.below HP.out (unbox HB4.out)).2.2.2 (i := q3) (by omega)
              obtain ⟨hfw, hft⟩ := HTO.out q3 (by omega)
              have HT : Hid (toldT C (p.told.take (q3 + 1)) = toldT C (p.told.take q3) ++ itoB (p.told[q3]'(by omega)).tk ++ spB ++ whB (p.told[q3]'(by omega)).wh ++ nlB) := by
                show _ = _
                rw [List.take_succ_eq_append_getElem (by omega), toldT_snoc]
              generalize p.told[q3]'(by omega) = t at d0 d1 HT hfw hft f0 f1
              obtain ⟨tk, wh⟩ := t
              simp only at d0 d1 HT hfw hft
              obtain ⟨wn, rfl⟩ : ∃ wn : Nat, wh = wn := ⟨wh.toNat, by omega⟩
              have hwn6 : wn < 6 := by omega
              have hwn7 : ¬ (6 : Int) ≤ (wn : Int) := by omega
              have HQ : Hid (∀ w, Calls Tryz.prog 44 #[.int .i64 tk] w fun e w' => e = .returned (.string (itoB tk)) ∧ Below w.heap.size w w') := fun w => dec_call _ hft w
              have HW : Hid (((#[.string ⟨#[]⟩, .string ⟨#[98, 101, 103, 97, 110]⟩, .string ⟨#[115, 107, 105, 112, 112, 101, 100]⟩, .string ⟨#[109, 105, 115, 115, 101, 100]⟩, .string ⟨#[115, 116, 111, 112, 112, 101, 100]⟩, .string ⟨#[101, 110, 100, 101, 100]⟩] : Array Value))[wn]? = some (.string (whB wn))) := by
                have : wn = 1 ∨ wn = 2 ∨ wn = 3 ∨ wn = 4 ∨ wn = 5 := by omega
                rcases this with rfl | rfl | rfl | rfl | rfl <;> rfl
              have hz1 := itoB_size tk (by have := hft.1; omega) hft.2
              have hz3 := whB_size wn
              generalize itoB tk = X at HQ HT hz1
              generalize whB wn = WH at HW HT hz3
              generalize toldT C (p.told.take q3) = P at HT hz2 ⊢
              have m1 : ¬ 9223372036854775807 < P.size + X.size := by omega
              have m2 : ¬ 9223372036854775807 < P.size + X.size + 1 := by omega
              have m3 : ¬ 9223372036854775807 < P.size + X.size + 1 + WH.size := by omega
              have m4 : ¬ 9223372036854775807 < P.size + X.size + 1 + WH.size + 1 := by omega
              clear hfw hft f0 f1 hz1 hz2 hz3
              go_wp2_with fail
              have hmx : Tryz.prog.follows .mixedOrders = true := by kernel_rfl
              have hSW : ∀ W, Below wr.heap.size wr W → (fun W => W.cell? ⟨w.heap.size, 6, none⟩ = some (.slice (some ⟨b, off, none⟩) tl tc) ∧ W.cell? ⟨b, off + q3 * 2, none⟩ = some (.int .i64 tk) ∧ W.cell? ⟨b, off + q3 * 2 + 1, none⟩ = some (.int .i64 wn) ∧ True) W := fun W h => ⟨(h.cell (p := ⟨w.heap.size, 6, none⟩) hbk).trans c6, (h.cell (p := ⟨b, off + q3 * 2, none⟩) h2).trans d0, (h.cell (p := ⟨b, off + q3 * 2 + 1, none⟩) h2).trans d1, trivial⟩
              have hS0 := hSW _ ((Below.refl _ _).drew)
              refine wp_region_noPanic (wp_region_held (S := (fun W => W.cell? ⟨w.heap.size, 6, none⟩ = some (.slice (some ⟨b, off, none⟩) tl tc) ∧ W.cell? ⟨b, off + q3 * 2, none⟩ = some (.int .i64 tk) ∧ W.cell? ⟨b, off + q3 * 2 + 1, none⟩ = some (.int .i64 wn) ∧ True)) hmx ?_)
              refine wpAnyH_go (i := 0) (d := some 66) (v := .string P) rfl rfl (by kernel_rfl) (by kernel_rfl) (by kernel_rfl) (fun _ _ _ h => h) (.inl ⟨by kernel_rfl, fun w' hw' => by kernel_rfl⟩) hS0 ?_
              try simp only [Act.put, List.setIfInBounds_toArray, List.set_cons_zero, List.set_cons_succ]
              refine wpAnyH_go (i := 1) (d := some 67) (v := .pointer (some ⟨w.heap.size, 6, none⟩)) rfl rfl (by kernel_rfl) (by kernel_rfl) (by kernel_rfl) (fun _ _ _ h => h) (.inl ⟨by kernel_rfl, fun w' hw' => by simp [go_sem]⟩) hS0 ?_
              try simp only [Act.put, List.setIfInBounds_toArray, List.set_cons_zero, List.set_cons_succ]
              refine wpAnyH_go (i := 2) (d := some 68) (v := .slice (some ⟨b, off, none⟩) tl tc) rfl rfl (by kernel_rfl) (by kernel_rfl) (by kernel_rfl) (fun _ _ _ h => h) (.inl ⟨by kernel_rfl, fun w' hw' => by simp [go_sem, hw'.1]⟩) hS0 ?_
              try simp only [Act.put, List.setIfInBounds_toArray, List.set_cons_zero, List.set_cons_succ]
              refine wpAnyH_go (i := 3) (d := some 69) (v := .int .i64 q3) rfl rfl (by kernel_rfl) (by kernel_rfl) (by kernel_rfl) (fun _ _ _ h => h) (.inl ⟨by kernel_rfl, fun w' hw' => by kernel_rfl⟩) hS0 ?_
              try simp only [Act.put, List.setIfInBounds_toArray, List.set_cons_zero, List.set_cons_succ]
              refine wpAnyH_go (i := 4) (d := some 70) (v := .pointer (some ⟨b, off + q3 * 2, none⟩)) rfl rfl (by kernel_rfl) (by kernel_rfl) (by kernel_rfl) (fun _ _ _ h => h) (.inl ⟨by kernel_rfl, fun w' hw' => by simp [go_sem, hlt]⟩) hS0 ?_
              try simp only [Act.put, List.setIfInBounds_toArray, List.set_cons_zero, List.set_cons_succ]
              refine wpAnyH_go (i := 5) (d := some 71) (v := .pointer (some ⟨b, off + q3 * 2, none⟩)) rfl rfl (by kernel_rfl) (by kernel_rfl) (by kernel_rfl) (fun _ _ _ h => h) (.inl ⟨by kernel_rfl, fun w' hw' => by simp [go_sem]⟩) hS0 ?_
              try simp only [Act.put, List.setIfInBounds_toArray, List.set_cons_zero, List.set_cons_succ]
              refine wpAnyH_go (i := 6) (d := some 72) (v := .int .i64 tk) rfl rfl (by kernel_rfl) (by kernel_rfl) (by kernel_rfl) (fun _ _ _ h => h) (.inl ⟨by kernel_rfl, fun w' hw' => by simp [go_sem, hw'.2.1]⟩) hS0 ?_
              try simp only [Act.put, List.setIfInBounds_toArray, List.set_cons_zero, List.set_cons_succ]
              refine wpAnyH_go (i := 11) (d := some 77) (v := .pointer (some ⟨w.heap.size, 6, none⟩)) rfl rfl (by kernel_rfl) (by kernel_rfl) (by kernel_rfl) (fun _ _ _ h => h) (.inl ⟨by kernel_rfl, fun w' hw' => by simp [go_sem]⟩) hS0 ?_
              try simp only [Act.put, List.setIfInBounds_toArray, List.set_cons_zero, List.set_cons_succ]
              refine wpAnyH_go (i := 12) (d := some 78) (v := .slice (some ⟨b, off, none⟩) tl tc) rfl rfl (by kernel_rfl) (by kernel_rfl) (by kernel_rfl) (fun _ _ _ h => h) (.inl ⟨by kernel_rfl, fun w' hw' => by simp [go_sem, hw'.1]⟩) hS0 ?_
              try simp only [Act.put, List.setIfInBounds_toArray, List.set_cons_zero, List.set_cons_succ]
              refine wpAnyH_go (i := 13) (d := some 79) (v := .int .i64 q3) rfl rfl (by kernel_rfl) (by kernel_rfl) (by kernel_rfl) (fun _ _ _ h => h) (.inl ⟨by kernel_rfl, fun w' hw' => by kernel_rfl⟩) hS0 ?_
              try simp only [Act.put, List.setIfInBounds_toArray, List.set_cons_zero, List.set_cons_succ]
              refine wpAnyH_go (i := 14) (d := some 80) (v := .pointer (some ⟨b, off + q3 * 2, none⟩)) rfl rfl (by kernel_rfl) (by kernel_rfl) (by kernel_rfl) (fun _ _ _ h => h) (.inl ⟨by kernel_rfl, fun w' hw' => by simp [go_sem, hlt]⟩) hS0 ?_
              try simp only [Act.put, List.setIfInBounds_toArray, List.set_cons_zero, List.set_cons_succ]
              refine wpAnyH_go (i := 15) (d := some 81) (v := .pointer (some ⟨b, off + q3 * 2 + 1, none⟩)) rfl rfl (by kernel_rfl) (by kernel_rfl) (by kernel_rfl) (fun _ _ _ h => h) (.inl ⟨by kernel_rfl, fun w' hw' => by simp [go_sem]⟩) hS0 ?_
              try simp only [Act.put, List.setIfInBounds_toArray, List.set_cons_zero, List.set_cons_succ]
              refine wpAnyH_go (i := 16) (d := some 82) (v := .int .i64 wn) rfl rfl (by kernel_rfl) (by kernel_rfl) (by kernel_rfl) (fun _ _ _ h => h) (.inl ⟨by kernel_rfl, fun w' hw' => by simp [go_sem, hw'.2.2.1]⟩) hS0 ?_
              try simp only [Act.put, List.setIfInBounds_toArray, List.set_cons_zero, List.set_cons_succ]
              refine held_two (i := 7) (j := 10) rfl rfl (by kernel_rfl) (by kernel_rfl) (by kernel_rfl) (fun KK hKK => ?_) (fun KK hKK => ?_)
              · refine wp_callOne (HQ.out _) (fun e w' h => ⟨_, h.1⟩) (enters_of Tryz.func44 (by kernel_rfl) rfl) _ _ (d := some 73) rfl (by rfl) (by kernel_rfl) ?_
                rintro r5 w5 ⟨he5, hw5⟩
                cases he5
                have hB5 : Below wr.heap.size wr w5 := undrewP hw5
                have hS5 := hSW w5 hB5
                refine hKK _ _ hS5 ?_
                clear hKK KK
                try simp only [Act.put, List.setIfInBounds_toArray, List.set_cons_zero, List.set_cons_succ]
                refine wpAnyH_go (i := 8) (d := some 74) (v := .string (P ++ X)) rfl rfl (by kernel_rfl) (by kernel_rfl) (by kernel_rfl) (fun _ _ _ h => h) (.inl ⟨by kernel_rfl, fun w' hw' => by simp [go_sem, m1]⟩) hS5 ?_
                try simp only [Act.put, List.setIfInBounds_toArray, List.set_cons_zero, List.set_cons_succ]
                refine wpAnyH_go (i := 9) (d := some 75) (v := .string (P ++ X ++ ⟨#[32]⟩)) rfl rfl (by kernel_rfl) (by kernel_rfl) (by kernel_rfl) (fun _ _ _ h => h) (.inl ⟨by kernel_rfl, fun w' hw' => by simp [go_sem, m2]⟩) hS5 ?_
                try simp only [Act.put, List.setIfInBounds_toArray, List.set_cons_zero, List.set_cons_succ]
                refine held_one (i := 10) rfl (by kernel_rfl) (by kernel_rfl) (fun KF hKF => ?_)
                go_simp
                have hB6 := hB5.alloc (show wr.heap.size ≤ w5.heap.size from hB5.size) (.cells #[.string ⟨#[]⟩, .string ⟨#[98, 101, 103, 97, 110]⟩, .string ⟨#[115, 107, 105, 112, 112, 101, 100]⟩, .string ⟨#[109, 105, 115, 115, 101, 100]⟩, .string ⟨#[115, 116, 111, 112, 112, 101, 100]⟩, .string ⟨#[101, 110, 100, 101, 100]⟩] 9)
                refine hKF _ _ (hSW _ hB6) ?_
                try simp only [Act.put, List.setIfInBounds_toArray, List.set_cons_zero, List.set_cons_succ]
                refine held_more (S' := fun W => (fun W => W.cell? ⟨w.heap.size, 6, none⟩ = some (.slice (some ⟨b, off, none⟩) tl tc) ∧ W.cell? ⟨b, off + q3 * 2, none⟩ = some (.int .i64 tk) ∧ W.cell? ⟨b, off + q3 * 2 + 1, none⟩ = some (.int .i64 wn) ∧ True) W ∧ W.cell? ⟨w5.heap.size, wn, none⟩ = some (.string WH)) (fun _ h => h.1) _ ?_
                have hS6 : (fun W => (fun W => W.cell? ⟨w.heap.size, 6, none⟩ = some (.slice (some ⟨b, off, none⟩) tl tc) ∧ W.cell? ⟨b, off + q3 * 2, none⟩ = some (.int .i64 tk) ∧ W.cell? ⟨b, off + q3 * 2 + 1, none⟩ = some (.int .i64 wn) ∧ True) W ∧ W.cell? ⟨w5.heap.size, wn, none⟩ = some (.string WH)) (w5.alloc (.cells #[.string ⟨#[]⟩, .string ⟨#[98, 101, 103, 97, 110]⟩, .string ⟨#[115, 107, 105, 112, 112, 101, 100]⟩, .string ⟨#[109, 105, 115, 115, 101, 100]⟩, .string ⟨#[115, 116, 111, 112, 112, 101, 100]⟩, .string ⟨#[101, 110, 100, 101, 100]⟩] 9)) := ⟨hSW _ hB6, (World.cell?_alloc_new _ _ _ _).trans HW.out⟩
                clear hKF
                refine wpAnyH_go (i := 17) (d := some 83) (v := .pointer (some ⟨w5.heap.size, wn, none⟩)) rfl rfl (by kernel_rfl) (by kernel_rfl) (by kernel_rfl) (fun _ _ _ h => h) (.inl ⟨by kernel_rfl, fun w' hw' => by simp [go_sem, hwn6, hwn7]⟩) hS6 ?_
                try simp only [Act.put, List.setIfInBounds_toArray, List.set_cons_zero, List.set_cons_succ]
                refine wpAnyH_go (i := 18) (d := some 84) (v := .string WH) rfl rfl (by kernel_rfl) (by kernel_rfl) (by kernel_rfl) (fun _ _ _ h => h) (.inl ⟨by kernel_rfl, fun w' hw' => by simp [go_sem, hw'.2]⟩) hS6 ?_
                try simp only [Act.put, List.setIfInBounds_toArray, List.set_cons_zero, List.set_cons_succ]
                refine wpAnyH_go (i := 19) (d := some 85) (v := .string (P ++ X ++ ⟨#[32]⟩ ++ WH)) rfl rfl (by kernel_rfl) (by kernel_rfl) (by kernel_rfl) (fun _ _ _ h => h) (.inl ⟨by kernel_rfl, fun w' hw' => by simp [go_sem, m3]⟩) hS6 ?_
                try simp only [Act.put, List.setIfInBounds_toArray, List.set_cons_zero, List.set_cons_succ]
                refine wpAnyH_go (i := 20) (d := some 86) (v := .string (P ++ X ++ ⟨#[32]⟩ ++ WH ++ ⟨#[10]⟩)) rfl rfl (by kernel_rfl) (by kernel_rfl) (by kernel_rfl) (fun _ _ _ h => h) (.inl ⟨by kernel_rfl, fun w' hw' => by simp [go_sem, m4]⟩) hS6 ?_
                try simp only [Act.put, List.setIfInBounds_toArray, List.set_cons_zero, List.set_cons_succ]
                refine wpAnyH_go (i := 21) (d := some 3) (v := .string (P ++ X ++ ⟨#[32]⟩ ++ WH ++ ⟨#[10]⟩)) rfl rfl (by kernel_rfl) (by kernel_rfl) (by kernel_rfl) (fun _ _ _ h => h) (.inl ⟨by kernel_rfl, fun w' hw' => by kernel_rfl⟩) hS6 ?_
                try simp only [Act.put, List.setIfInBounds_toArray, List.set_cons_zero, List.set_cons_succ]
                refine wpAnyH_done (by kernel_rfl) ?_ _
                refine NoPanic.normal ?_
                have HBV : Hid _ := hB6
                clear hSW hS0 hmx hB6 hS6 KF
                go_wp2_with fail
                go_roundw
                case rel => exact ⟨q3 + 1, by omega, by go_num, congrArg Value.string HT.out.symm, bcall HB4.out (by have := HB4.out.size; simpa using this) HBV.out⟩
                case measure => simp [intOf]; omega
              · go_simp
                have KF := KK
                have hB6 := (Below.refl wr.heap.size wr).drew.alloc (Nat.le_refl _) (.cells #[.string ⟨#[]⟩, .string ⟨#[98, 101, 103, 97, 110]⟩, .string ⟨#[115, 107, 105, 112, 112, 101, 100]⟩, .string ⟨#[109, 105, 115, 115, 101, 100]⟩, .string ⟨#[115, 116, 111, 112, 112, 101, 100]⟩, .string ⟨#[101, 110, 100, 101, 100]⟩] 9)
                refine hKK _ _ (hSW _ hB6) ?_
                try simp only [Act.put, List.setIfInBounds_toArray, List.set_cons_zero, List.set_cons_succ]
                refine held_more (S' := fun W => (fun W => W.cell? ⟨w.heap.size, 6, none⟩ = some (.slice (some ⟨b, off, none⟩) tl tc) ∧ W.cell? ⟨b, off + q3 * 2, none⟩ = some (.int .i64 tk) ∧ W.cell? ⟨b, off + q3 * 2 + 1, none⟩ = some (.int .i64 wn) ∧ True) W ∧ W.cell? ⟨wr.heap.size, wn, none⟩ = some (.string WH)) (fun _ h => h.1) _ ?_
                have hS6 : (fun W => (fun W => W.cell? ⟨w.heap.size, 6, none⟩ = some (.slice (some ⟨b, off, none⟩) tl tc) ∧ W.cell? ⟨b, off + q3 * 2, none⟩ = some (.int .i64 tk) ∧ W.cell? ⟨b, off + q3 * 2 + 1, none⟩ = some (.int .i64 wn) ∧ True) W ∧ W.cell? ⟨wr.heap.size, wn, none⟩ = some (.string WH)) (wr.drew.alloc (.cells #[.string ⟨#[]⟩, .string ⟨#[98, 101, 103, 97, 110]⟩, .string ⟨#[115, 107, 105, 112, 112, 101, 100]⟩, .string ⟨#[109, 105, 115, 115, 101, 100]⟩, .string ⟨#[115, 116, 111, 112, 112, 101, 100]⟩, .string ⟨#[101, 110, 100, 101, 100]⟩] 9)) := ⟨hSW _ hB6, (World.cell?_alloc_new _ _ _ _).trans HW.out⟩
                clear hKK KK
                refine wpAnyH_go (i := 17) (d := some 83) (v := .pointer (some ⟨wr.heap.size, wn, none⟩)) rfl rfl (by kernel_rfl) (by kernel_rfl) (by kernel_rfl) (fun _ _ _ h => h) (.inl ⟨by kernel_rfl, fun w' hw' => by simp [go_sem, hwn6, hwn7]⟩) hS6 ?_
                try simp only [Act.put, List.setIfInBounds_toArray, List.set_cons_zero, List.set_cons_succ]
                refine wpAnyH_go (i := 18) (d := some 84) (v := .string WH) rfl rfl (by kernel_rfl) (by kernel_rfl) (by kernel_rfl) (fun _ _ _ h => h) (.inl ⟨by kernel_rfl, fun w' hw' => by simp [go_sem, hw'.2]⟩) hS6 ?_
                try simp only [Act.put, List.setIfInBounds_toArray, List.set_cons_zero, List.set_cons_succ]
                refine held_one (i := 7) rfl (by kernel_rfl) (by kernel_rfl) (fun KK hKK => ?_)
                refine wp_callOne (HQ.out _) (fun e w' h => ⟨_, h.1⟩) (enters_of Tryz.func44 (by kernel_rfl) rfl) _ _ (d := some 73) rfl (by rfl) (by kernel_rfl) ?_
                rintro r5 w5 ⟨he5, hw5⟩
                cases he5
                have hB7 := hB6.trans (hw5.mono hB6.size)
                have hS7 : (fun W => (fun W => W.cell? ⟨w.heap.size, 6, none⟩ = some (.slice (some ⟨b, off, none⟩) tl tc) ∧ W.cell? ⟨b, off + q3 * 2, none⟩ = some (.int .i64 tk) ∧ W.cell? ⟨b, off + q3 * 2 + 1, none⟩ = some (.int .i64 wn) ∧ True) W ∧ W.cell? ⟨wr.heap.size, wn, none⟩ = some (.string WH)) w5 := ⟨hSW _ hB7, (hw5.cell (p := ⟨wr.heap.size, wn, none⟩) (by simp)).trans hS6.2⟩
                refine hKK _ _ hS7 ?_
                clear hKK KK hS6
                have hS6 := hS7
                clear hS7
                try simp only [Act.put, List.setIfInBounds_toArray, List.set_cons_zero, List.set_cons_succ]
                refine wpAnyH_go (i := 8) (d := some 74) (v := .string (P ++ X)) rfl rfl (by kernel_rfl) (by kernel_rfl) (by kernel_rfl) (fun _ _ _ h => h) (.inl ⟨by kernel_rfl, fun w' hw' => by simp [go_sem, m1]⟩) hS6 ?_
                try simp only [Act.put, List.setIfInBounds_toArray, List.set_cons_zero, List.set_cons_succ]
                refine wpAnyH_go (i := 9) (d := some 75) (v := .string (P ++ X ++ ⟨#[32]⟩)) rfl rfl (by kernel_rfl) (by kernel_rfl) (by kernel_rfl) (fun _ _ _ h => h) (.inl ⟨by kernel_rfl, fun w' hw' => by simp [go_sem, m2]⟩) hS6 ?_
                try simp only [Act.put, List.setIfInBounds_toArray, List.set_cons_zero, List.set_cons_succ]
                refine wpAnyH_go (i := 19) (d := some 85) (v := .string (P ++ X ++ ⟨#[32]⟩ ++ WH)) rfl rfl (by kernel_rfl) (by kernel_rfl) (by kernel_rfl) (fun _ _ _ h => h) (.inl ⟨by kernel_rfl, fun w' hw' => by simp [go_sem, m3]⟩) hS6 ?_
                try simp only [Act.put, List.setIfInBounds_toArray, List.set_cons_zero, List.set_cons_succ]
                refine wpAnyH_go (i := 20) (d := some 86) (v := .string (P ++ X ++ ⟨#[32]⟩ ++ WH ++ ⟨#[10]⟩)) rfl rfl (by kernel_rfl) (by kernel_rfl) (by kernel_rfl) (fun _ _ _ h => h) (.inl ⟨by kernel_rfl, fun w' hw' => by simp [go_sem, m4]⟩) hS6 ?_
                try simp only [Act.put, List.setIfInBounds_toArray, List.set_cons_zero, List.set_cons_succ]
                refine wpAnyH_go (i := 21) (d := some 3) (v := .string (P ++ X ++ ⟨#[32]⟩ ++ WH ++ ⟨#[10]⟩)) rfl rfl (by kernel_rfl) (by kernel_rfl) (by kernel_rfl) (fun _ _ _ h => h) (.inl ⟨by kernel_rfl, fun w' hw' => by kernel_rfl⟩) hS6 ?_
                try simp only [Act.put, List.setIfInBounds_toArray, List.set_cons_zero, List.set_cons_succ]
                refine wpAnyH_done (by kernel_rfl) ?_ _
                refine NoPanic.normal ?_
                have HBV : Hid _ := hB7
                clear hB7 hw5 hSW hS0 hmx hB6 hS6 KF
                go_wp2_with fail
                go_roundw
                case rel => exact ⟨q3 + 1, by omega, by go_num, congrArg Value.string HT.out.symm, bcall HB4.out (by have := HB4.out.size; simpa using this) HBV.out⟩
                case measure => simp [intOf]; omega
            · have he : p.told.take q3 = p.told := List.take_of_length_le (by omega)
              rw [he]
              have HR : Hid (boardT p = toldT C p.told) := HC.out
              generalize toldT C p.told = R at HR hz2 ⊢
              go_wp2_with fail
              go_ret
              exact ⟨congrArg (fun s => Ending.returned (.string s)) (HR.out.symm.trans HF.out.symm), unbox HB4.out⟩
end Pl
end Go.Proofs.YtnieaeakaajleaaGreatDoor
