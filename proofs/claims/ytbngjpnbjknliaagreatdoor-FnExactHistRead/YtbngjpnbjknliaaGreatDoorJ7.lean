/- The model's reading of a line of a history: its walk. -/
import Derived.Test.YtbngjpnbjknliaaGreatDoorJ6
namespace Go.Proofs.YtbngjpnbjknliaaGreatDoor
set_option linter.unusedVariables false
set_option linter.unusedSimpArgs false
open Go.RowKit Go

set_option maxRecDepth 4000 in
set_option maxHeartbeats 40000000 in
theorem l21Line (s : ByteArray) (w : World) (hs : s.size ≤ 16777216) :
    Calls Tryz.prog 10 #[.string s] w fun e w' => LinePost s w e w' := by
  have HC : Hid (∀ w, Calls Tryz.prog 9 #[.string s, .int .u8 32] w fun e w' => ∃ v ps, e = .returned v ∧ bys ps = cutL 32 s.data.toList ∧ Row w' v (sv ps) ∧ Below w.heap.size w w') := fun w => l1Cut s 32 w hs
  have HW : Hid (∀ w, Calls Tryz.prog 19 #[] w fun e w' => e = .returned (.slice (some ⟨w.heap.size, 0, none⟩) 10 10) ∧ (∀ k (h : k < entW.length), w'.cell? ⟨w.heap.size, k, none⟩ = some (.string entW[k])) ∧ Below w.heap.size w w') := l21Words
  go_enter Tryz.func10, Tryz.ntmps10
  go_wp2_with fail
  refine (HC.out _).mono ?_
  rintro e w1 ⟨v, ps, rfl, hps, hrow, hw1⟩
  have hne : 0 < ps.length := by
    cases ps with
    | nil => exact absurd hps.symm (cutL_ne _ _)
    | cons => simp
  have hlen := sv_len ps
  have hmx := hrow.max
  obtain ⟨a, cap, rfl⟩ := hrow.form
  rw [hlen] at hrow hmx
  obtain ⟨b, off, rfl, hcap, hbl, hc0⟩ := hrow.at (k := 0) (by simpa [sv] using hne)
  rw [sv_at] at hc0
  rw [hlen]
  have HROW : Hid (Row w1 (.slice (some ⟨b, off, none⟩) ps.length cap) (sv ps)) := hrow
  have HPS : Hid (bys ps = cutL 32 s.data.toList) := hps
  clear hrow hps hlen
  have HW1 : Hid _ := hw1
  clear hw1
  generalize hs0 : ps[0] = s0 at hc0
  have HS0 : Hid (ps[0] = s0) := hs0
  clear hs0
  go_wp2_with fail
  go_loopw [6] (fun i wr => ∃ q : Nat, i = .int .i64 q ∧ 1 ≤ q ∧ q ≤ 10 ∧ Holds wr w1.heap.size 32 #[.int .i64 (kindTo s0 q : Nat), .int .i64 0, .string ⟨#[]⟩, .string ⟨#[]⟩, .slice none 0 0] ∧ Below w1.heap.size w1 wr) (fun i _ => 10 - (intOf i).toNat)
  case atStart =>
    exact ⟨1, rfl, by omega, by omega, heap_alloc_new _ _, (Below.refl _ _).alloc (Nat.le_refl _) _⟩
  case round =>
    obtain ⟨q, rfl, hq1, hq, hH, hB⟩ := hrel
    go_wp2_with fail
    refine (HW.out _).mono ?_
    rintro e w2 ⟨rfl, hcw2, hw2⟩
    clear hcw2
    have hH2 := hH.below hw2
    have hB2 : Below w1.heap.size w1 w2 := bcall hB hB.size hw2
    clear hH hB hw2
    by_cases hlt : q < 10
    · have hc2 : w2.cell? ⟨b, off, none⟩ = some (.string s0) := (hB2.cell (p := ⟨b, off, none⟩) hbl).trans hc0
      have hlt2 : b < w2.heap.size := Nat.lt_of_lt_of_le hbl hB2.size
      have HB2 : Hid _ := hB2
      have HH2 : Hid _ := hH2
      by_cases he : bB (entW.getD q eZ) = bB s0
      · have hk := kindTo_step s0 q hq1
        rw [if_pos he] at hk
        have HK : Hid _ := hk
        have he' : ((entW.getD q eZ).toList == s0.toList) = true := (bB_eq _ _).1 he
        have hqe : entW[q]'(by show q < 10; omega) = entW.getD q eZ := by simp [show q < entW.length from hlt]
        have HQE : Hid _ := hqe
        clear hk he hqe
        generalize entW.getD q eZ = X at he' HQE
        go_wp2_with fail
        go_region_with (go_at_call 19; refine (HW.out _).mono ?_; rintro e w3 ⟨rfl, hcw3, hw3⟩; have d3 : w3.cell? ⟨w2.heap.size, q, none⟩ = some (.string X) := (hcw3 q (by show q < 10; omega)).trans (congrArg (fun x => some (Value.string x)) HQE.out); have i3 := (hw3.cell (p := ⟨b, off, none⟩) hlt2).trans hc2)
        all_goals
          have hH3 : Holds w3 w1.heap.size 32 _ := Holds.below (w := w2.drew) HH2.out hw3
          have g0 := hH3.cell 0
          have g1 := hH3.frozen 0
          have HH3 : Hid _ := hH3.set 0 (.int .i64 (q : Int))
          have HB3 : Hid _ := (bcall HB2.out.drew HB2.out.size hw3).setCell (p := ⟨w1.heap.size, 0, none⟩) (Nat.le_refl _) (.int .i64 (q : Int))
          clear hH3 hw3 d3 i3 hH2 hB2 hc2
          go_wp2_with fail
          go_roundw
          case rel => exact ⟨q + 1, by go_num, by omega, by omega, by rw [HK.out]; exact HH3.out, HB3.out⟩
          case measure => simp [intOf]; omega
      · have hk := kindTo_step s0 q hq1
        rw [if_neg he] at hk
        have HK : Hid _ := hk
        have he' : ((entW.getD q eZ).toList == s0.toList) = false := by rw [← Bool.not_eq_true, ← bB_eq]; exact he
        have hqe : entW[q]'(by show q < 10; omega) = entW.getD q eZ := by simp [show q < entW.length from hlt]
        have HQE : Hid _ := hqe
        clear hk he hqe
        generalize entW.getD q eZ = X at he' HQE
        go_wp2_with fail
        go_region_with (go_at_call 19; refine (HW.out _).mono ?_; rintro e w3 ⟨rfl, hcw3, hw3⟩; have d3 : w3.cell? ⟨w2.heap.size, q, none⟩ = some (.string X) := (hcw3 q (by show q < 10; omega)).trans (congrArg (fun x => some (Value.string x)) HQE.out); have i3 := (hw3.cell (p := ⟨b, off, none⟩) hlt2).trans hc2)
        all_goals
          have HH3 : Hid (Holds w3 w1.heap.size 32 _) := Holds.below (w := w2.drew) HH2.out hw3
          have HB3 : Hid (Below w1.heap.size w1 w3) := (bcall HB2.out.drew HB2.out.size hw3)
          clear hw3 d3 i3 hH2 hB2 hc2
          go_wp2_with fail
          go_roundw
          case rel => exact ⟨q + 1, by go_num, by omega, by omega, by rw [HK.out]; exact HH3.out, HB3.out⟩
          case measure => simp [intOf]; omega
    · have hq10 : q = 10 := by omega
      subst hq10
      have hkk : (kindTo s0 10) = kindOf s0 := rfl
      rw [hkk] at hH2
      generalize hK : kindOf s0 = K at hH2
      have HK : Hid (kindOf s0 = K) := hK
      clear hK
      have g0 := hH2.cell 0
      have g1 := hH2.cell 1
      have g2 := hH2.cell 2
      have g3 := hH2.cell 3
      have g4 := hH2.cell 4
      simp at g0 g1 g2 g3 g4
      have hRE : w.heap.size < w1.heap.size := by have := HW1.out.size; simp at this; omega
      have hR2 : Holds w2 w.heap.size 32 _ := (Holds.below (w := w.alloc (.cells #[.int .i64 0, .int .i64 0, .string ⟨#[]⟩, .string ⟨#[]⟩, .slice none 0 0] 32)) (heap_alloc_new _ _) HW1.out).later hB2 hRE
      have HR2 : Hid _ := hR2
      have HB2 : Hid _ := hB2
      have HH2 : Hid _ := hH2
      have hK9 : K ≤ 9 := by rw [← HK.out]; exact kindOf_le s0
      have HBW1 : Hid (Below w.heap.size w w1) := unbox (by simpa using HW1.out)
      have HBW : Hid (Below w.heap.size w w2) := HBW1.out.trans (hB2.mono (Nat.le_of_lt hRE))
      have HKK : Hid (kindOf ps[0] = K) := by rw [HS0.out]; exact HK.out
      have HNM : Hid (∀ (x : ByteArray) (w : World), x.size ≤ maxLen → Calls Tryz.prog 20 #[.string x] w fun e w' => (∃ n, e = .returned (.tuple #[.int .i64 n, .bool (numOk x.data.toList)]) ∧ (numOk x.data.toList = true → n = numVal x.data.toList)) ∧ w' = w) := fun x w h => l1Num x w h
      have HCELL : Hid (∀ k (h : k < ps.length), w1.cell? ⟨b, off + k, none⟩ = some (.string ps[k])) := fun k h => by
        obtain ⟨b', off', e', _, _, hc'⟩ := HROW.out.at (k := k) (by simpa [sv] using h)
        simp only [Option.some.injEq, Addr.mk.injEq, and_true] at e'
        obtain ⟨rfl, rfl⟩ := e'
        rw [hc', sv_at]
      have HSZ : Hid (∀ k (h : k < ps.length), ps[k].size ≤ maxLen) := words_size HPS.out hs
      have hpl : ps.length ≤ 16777217 := words_many HPS.out hs
      go_upto_block 2 with fail
      go_cut [7, 8] (fun t7 t8 wx => ∃ (id : Int) (name : ByteArray) (n : Nat) (ok : Bool), t7 = .int .i64 n ∧ t8 = .bool ok ∧ Holds wx w1.heap.size 32 #[.int .i64 K, .int .i64 id, .string eZ, .string name, .slice none 0 0] ∧ Below w1.heap.size w1 wx ∧ After K ps id name n ok ∧ name.size ≤ maxLen)
      case first =>
        clear hkk hq1 hq hlt
        rcases (by omega : K = 0 ∨ K = 1 ∨ K = 2 ∨ K = 3 ∨ K = 4 ∨ K = 5 ∨ K = 6 ∨ K = 7 ∨ K = 8 ∨ K = 9) with rfl | rfl | rfl | rfl | rfl | rfl | rfl | rfl | rfl | rfl
        · have r0 := hR2.cell 0
          have r1 := hR2.cell 1
          have r2 := hR2.cell 2
          have r3 := hR2.cell 3
          have r4 := hR2.cell 4
          have f0 := hR2.frozen 0
          have f1 := hR2.frozen 1
          have f2 := hR2.frozen 2
          have f3 := hR2.frozen 3
          have f4 := hR2.frozen 4
          simp at r0 r1 r2 r3 r4
          obtain ⟨cur', q, _, _, q0, q1, q2, q3, q4⟩ := hR2.set5 0 (.int .i64 0) (.int .i64 0) (.string ⟨#[]⟩) (.string ⟨#[]⟩) (.slice none 0 0) (by simp)
          have c0 := (q.cell 0).trans q0
          have c1 := (q.cell (0 + 1)).trans q1
          have c2 := (q.cell (0 + 2)).trans q2
          have c3 := (q.cell (0 + 3)).trans q3
          have c4 := (q.cell (0 + 4)).trans q4
          simp only [Nat.zero_add] at c0 c1 c2 c3 c4
          clear q q0 q1 q2 q3 q4
          have HC0 : Hid _ := c0
          have HC1 : Hid _ := c1
          have HC2 : Hid _ := c2
          have HC3 : Hid _ := c3
          have HC4 : Hid _ := c4
          clear c0 c1 c2 c3 c4
          go_wp2_with fail
          have c0 := HC0.out
          have c1 := HC1.out
          have c2 := HC2.out
          have c3 := HC3.out
          have c4 := HC4.out
          refine bodyPost_ret (v := .tuple #[.agg #[(.int .i64 0), (.int .i64 0), (.string ⟨#[]⟩), (.string ⟨#[]⟩), .slice none 0 0], .bool false]) ?_ rfl ?_
          · simp [results, Tryz.results10, go_sem, c0, c1, c2, c3, c4]
          · exact ⟨_, _, _, _, _, _, _, false, rfl, below_set5 HBW.out (Nat.le_refl _) 0 _ _ _ _ _, (fun h => by cases h), fun _ => parse_none HPS.out (parse_0 hne HKK.out)⟩
        · go_wp2_with fail
          go_meet
          case rel => exact ⟨0, eZ, 1, true, rfl, rfl, HH2.out, HB2.out, ⟨hne, by omega, .inr ⟨by omega, parse_1 hne HKK.out (by omega)⟩⟩, by decide⟩
        · by_cases hl : 1 < ps.length
          · have hc1 : w2.cell? ⟨b, off + 1, none⟩ = some (.string ps[1]) := (HB2.out.cell (p := ⟨b, off + 1, none⟩) hbl).trans (HCELL.out 1 hl)
            have f1 := hH2.frozen 3
            have HX : Hid _ := hH2.set 3 (.string ps[1])
            have HY : Hid _ := hB2.setCell (p := ⟨w1.heap.size, 3, none⟩) (Nat.le_refl _) (.string ps[1])
            clear hH2 hB2 hR2
            go_wp2_with fail
            go_meet
            case rel => exact ⟨0, ps[1], 2, true, rfl, rfl, HX.out, HY.out, ⟨by omega, by omega, .inr ⟨by omega, parse_2 hl HKK.out (by omega)⟩⟩, HSZ.out 1 hl⟩
          · have r0 := hR2.cell 0
            have r1 := hR2.cell 1
            have r2 := hR2.cell 2
            have r3 := hR2.cell 3
            have r4 := hR2.cell 4
            have f0 := hR2.frozen 0
            have f1 := hR2.frozen 1
            have f2 := hR2.frozen 2
            have f3 := hR2.frozen 3
            have f4 := hR2.frozen 4
            simp at r0 r1 r2 r3 r4
            obtain ⟨cur', q, _, _, q0, q1, q2, q3, q4⟩ := hR2.set5 0 (.int .i64 2) (.int .i64 0) (.string ⟨#[]⟩) (.string ⟨#[]⟩) (.slice none 0 0) (by simp)
            have c0 := (q.cell 0).trans q0
            have c1 := (q.cell (0 + 1)).trans q1
            have c2 := (q.cell (0 + 2)).trans q2
            have c3 := (q.cell (0 + 3)).trans q3
            have c4 := (q.cell (0 + 4)).trans q4
            simp only [Nat.zero_add] at c0 c1 c2 c3 c4
            clear q q0 q1 q2 q3 q4
            have HC0 : Hid _ := c0
            have HC1 : Hid _ := c1
            have HC2 : Hid _ := c2
            have HC3 : Hid _ := c3
            have HC4 : Hid _ := c4
            clear c0 c1 c2 c3 c4
            go_wp2_with fail
            have c0 := HC0.out
            have c1 := HC1.out
            have c2 := HC2.out
            have c3 := HC3.out
            have c4 := HC4.out
            refine bodyPost_ret (v := .tuple #[.agg #[(.int .i64 2), (.int .i64 0), (.string ⟨#[]⟩), (.string ⟨#[]⟩), .slice none 0 0], .bool false]) ?_ rfl ?_
            · simp [results, Tryz.results10, go_sem, c0, c1, c2, c3, c4]
            · exact ⟨_, _, _, _, _, _, _, false, rfl, below_set5 HBW.out (Nat.le_refl _) 0 _ _ _ _ _, (fun h => by cases h), fun _ => parse_none HPS.out (parse_2n hne hl HKK.out (by omega))⟩
        · by_cases hl : 1 < ps.length
          · have hc1 : w2.cell? ⟨b, off + 1, none⟩ = some (.string ps[1]) := (HB2.out.cell (p := ⟨b, off + 1, none⟩) hbl).trans (HCELL.out 1 hl)
            have f1 := hH2.frozen 1
            go_wp2_with fail
            refine (HNM.out _ _ (HSZ.out 1 hl)).mono ?_
            rintro e wn ⟨⟨n, rfl, hn⟩, rfl⟩
            go_wp2_with fail
            go_meet
            case rel => exact ⟨n, eZ, 2, numOk (bB ps[1]), rfl, rfl, hH2.set 1 (.int .i64 n), hB2.setCell (p := ⟨w1.heap.size, 1, none⟩) (Nat.le_refl _) (.int .i64 n), ⟨by omega, by omega, .inl ⟨rfl, rfl, rfl, hl, rfl, hn⟩⟩, by decide⟩
          · have r0 := hR2.cell 0
            have r1 := hR2.cell 1
            have r2 := hR2.cell 2
            have r3 := hR2.cell 3
            have r4 := hR2.cell 4
            have f0 := hR2.frozen 0
            have f1 := hR2.frozen 1
            have f2 := hR2.frozen 2
            have f3 := hR2.frozen 3
            have f4 := hR2.frozen 4
            simp at r0 r1 r2 r3 r4
            obtain ⟨cur', q, _, _, q0, q1, q2, q3, q4⟩ := hR2.set5 0 (.int .i64 3) (.int .i64 0) (.string ⟨#[]⟩) (.string ⟨#[]⟩) (.slice none 0 0) (by simp)
            have c0 := (q.cell 0).trans q0
            have c1 := (q.cell (0 + 1)).trans q1
            have c2 := (q.cell (0 + 2)).trans q2
            have c3 := (q.cell (0 + 3)).trans q3
            have c4 := (q.cell (0 + 4)).trans q4
            simp only [Nat.zero_add] at c0 c1 c2 c3 c4
            clear q q0 q1 q2 q3 q4
            have HC0 : Hid _ := c0
            have HC1 : Hid _ := c1
            have HC2 : Hid _ := c2
            have HC3 : Hid _ := c3
            have HC4 : Hid _ := c4
            clear c0 c1 c2 c3 c4
            go_wp2_with fail
            have c0 := HC0.out
            have c1 := HC1.out
            have c2 := HC2.out
            have c3 := HC3.out
            have c4 := HC4.out
            refine bodyPost_ret (v := .tuple #[.agg #[(.int .i64 3), (.int .i64 0), (.string ⟨#[]⟩), (.string ⟨#[]⟩), .slice none 0 0], .bool false]) ?_ rfl ?_
            · simp [results, Tryz.results10, go_sem, c0, c1, c2, c3, c4]
            · exact ⟨_, _, _, _, _, _, _, false, rfl, below_set5 HBW.out (Nat.le_refl _) 0 _ _ _ _ _, (fun h => by cases h), fun _ => parse_none HPS.out (parse_3n hne (by omega) HKK.out)⟩
        · by_cases hl : 1 < ps.length
          · have hc1 : w2.cell? ⟨b, off + 1, none⟩ = some (.string ps[1]) := (HB2.out.cell (p := ⟨b, off + 1, none⟩) hbl).trans (HCELL.out 1 hl)
            have f1 := hH2.frozen 1
            go_wp2_with fail
            refine (HNM.out _ _ (HSZ.out 1 hl)).mono ?_
            rintro e wn ⟨⟨n, rfl, hn⟩, rfl⟩
            go_wp2_with fail
            go_meet
            case rel => 
              refine ⟨n, eZ, 2, numOk (bB ps[1]), rfl, rfl, hH2.set 1 (.int .i64 n), hB2.setCell (p := ⟨w1.heap.size, 1, none⟩) (Nat.le_refl _) (.int .i64 n), ⟨by omega, by omega, .inr ⟨by omega, ?_⟩⟩, by decide⟩
              rw [parse_4 hl HKK.out (by omega)]
              by_cases ho : numOk (bB ps[1]) = true
              · rw [if_pos ho, if_pos ho, hn ho]; rfl
              · rw [if_neg ho, if_neg ho]
          · have r0 := hR2.cell 0
            have r1 := hR2.cell 1
            have r2 := hR2.cell 2
            have r3 := hR2.cell 3
            have r4 := hR2.cell 4
            have f0 := hR2.frozen 0
            have f1 := hR2.frozen 1
            have f2 := hR2.frozen 2
            have f3 := hR2.frozen 3
            have f4 := hR2.frozen 4
            simp at r0 r1 r2 r3 r4
            obtain ⟨cur', q, _, _, q0, q1, q2, q3, q4⟩ := hR2.set5 0 (.int .i64 4) (.int .i64 0) (.string ⟨#[]⟩) (.string ⟨#[]⟩) (.slice none 0 0) (by simp)
            have c0 := (q.cell 0).trans q0
            have c1 := (q.cell (0 + 1)).trans q1
            have c2 := (q.cell (0 + 2)).trans q2
            have c3 := (q.cell (0 + 3)).trans q3
            have c4 := (q.cell (0 + 4)).trans q4
            simp only [Nat.zero_add] at c0 c1 c2 c3 c4
            clear q q0 q1 q2 q3 q4
            have HC0 : Hid _ := c0
            have HC1 : Hid _ := c1
            have HC2 : Hid _ := c2
            have HC3 : Hid _ := c3
            have HC4 : Hid _ := c4
            clear c0 c1 c2 c3 c4
            go_wp2_with fail
            have c0 := HC0.out
            have c1 := HC1.out
            have c2 := HC2.out
            have c3 := HC3.out
            have c4 := HC4.out
            refine bodyPost_ret (v := .tuple #[.agg #[(.int .i64 4), (.int .i64 0), (.string ⟨#[]⟩), (.string ⟨#[]⟩), .slice none 0 0], .bool false]) ?_ rfl ?_
            · simp [results, Tryz.results10, go_sem, c0, c1, c2, c3, c4]
            · exact ⟨_, _, _, _, _, _, _, false, rfl, below_set5 HBW.out (Nat.le_refl _) 0 _ _ _ _ _, (fun h => by cases h), fun _ => parse_none HPS.out (parse_4n hne hl HKK.out (by omega))⟩
        · by_cases hl : 1 < ps.length
          · have hc1 : w2.cell? ⟨b, off + 1, none⟩ = some (.string ps[1]) := (HB2.out.cell (p := ⟨b, off + 1, none⟩) hbl).trans (HCELL.out 1 hl)
            have f1 := hH2.frozen 1
            go_wp2_with fail
            refine (HNM.out _ _ (HSZ.out 1 hl)).mono ?_
            rintro e wn ⟨⟨n, rfl, hn⟩, rfl⟩
            go_wp2_with fail
            go_meet
            case rel => 
              refine ⟨n, eZ, 2, numOk (bB ps[1]), rfl, rfl, hH2.set 1 (.int .i64 n), hB2.setCell (p := ⟨w1.heap.size, 1, none⟩) (Nat.le_refl _) (.int .i64 n), ⟨by omega, by omega, .inr ⟨by omega, ?_⟩⟩, by decide⟩
              rw [parse_4 hl HKK.out (by omega)]
              by_cases ho : numOk (bB ps[1]) = true
              · rw [if_pos ho, if_pos ho, hn ho]; rfl
              · rw [if_neg ho, if_neg ho]
          · have r0 := hR2.cell 0
            have r1 := hR2.cell 1
            have r2 := hR2.cell 2
            have r3 := hR2.cell 3
            have r4 := hR2.cell 4
            have f0 := hR2.frozen 0
            have f1 := hR2.frozen 1
            have f2 := hR2.frozen 2
            have f3 := hR2.frozen 3
            have f4 := hR2.frozen 4
            simp at r0 r1 r2 r3 r4
            obtain ⟨cur', q, _, _, q0, q1, q2, q3, q4⟩ := hR2.set5 0 (.int .i64 5) (.int .i64 0) (.string ⟨#[]⟩) (.string ⟨#[]⟩) (.slice none 0 0) (by simp)
            have c0 := (q.cell 0).trans q0
            have c1 := (q.cell (0 + 1)).trans q1
            have c2 := (q.cell (0 + 2)).trans q2
            have c3 := (q.cell (0 + 3)).trans q3
            have c4 := (q.cell (0 + 4)).trans q4
            simp only [Nat.zero_add] at c0 c1 c2 c3 c4
            clear q q0 q1 q2 q3 q4
            have HC0 : Hid _ := c0
            have HC1 : Hid _ := c1
            have HC2 : Hid _ := c2
            have HC3 : Hid _ := c3
            have HC4 : Hid _ := c4
            clear c0 c1 c2 c3 c4
            go_wp2_with fail
            have c0 := HC0.out
            have c1 := HC1.out
            have c2 := HC2.out
            have c3 := HC3.out
            have c4 := HC4.out
            refine bodyPost_ret (v := .tuple #[.agg #[(.int .i64 5), (.int .i64 0), (.string ⟨#[]⟩), (.string ⟨#[]⟩), .slice none 0 0], .bool false]) ?_ rfl ?_
            · simp [results, Tryz.results10, go_sem, c0, c1, c2, c3, c4]
            · exact ⟨_, _, _, _, _, _, _, false, rfl, below_set5 HBW.out (Nat.le_refl _) 0 _ _ _ _ _, (fun h => by cases h), fun _ => parse_none HPS.out (parse_4n hne hl HKK.out (by omega))⟩
        · by_cases hl : 1 < ps.length
          · have hc1 : w2.cell? ⟨b, off + 1, none⟩ = some (.string ps[1]) := (HB2.out.cell (p := ⟨b, off + 1, none⟩) hbl).trans (HCELL.out 1 hl)
            have f1 := hH2.frozen 1
            go_wp2_with fail
            refine (HNM.out _ _ (HSZ.out 1 hl)).mono ?_
            rintro e wn ⟨⟨n, rfl, hn⟩, rfl⟩
            go_wp2_with fail
            go_meet
            case rel => 
              refine ⟨n, eZ, 2, numOk (bB ps[1]), rfl, rfl, hH2.set 1 (.int .i64 n), hB2.setCell (p := ⟨w1.heap.size, 1, none⟩) (Nat.le_refl _) (.int .i64 n), ⟨by omega, by omega, .inr ⟨by omega, ?_⟩⟩, by decide⟩
              rw [parse_4 hl HKK.out (by omega)]
              by_cases ho : numOk (bB ps[1]) = true
              · rw [if_pos ho, if_pos ho, hn ho]; rfl
              · rw [if_neg ho, if_neg ho]
          · have r0 := hR2.cell 0
            have r1 := hR2.cell 1
            have r2 := hR2.cell 2
            have r3 := hR2.cell 3
            have r4 := hR2.cell 4
            have f0 := hR2.frozen 0
            have f1 := hR2.frozen 1
            have f2 := hR2.frozen 2
            have f3 := hR2.frozen 3
            have f4 := hR2.frozen 4
            simp at r0 r1 r2 r3 r4
            obtain ⟨cur', q, _, _, q0, q1, q2, q3, q4⟩ := hR2.set5 0 (.int .i64 6) (.int .i64 0) (.string ⟨#[]⟩) (.string ⟨#[]⟩) (.slice none 0 0) (by simp)
            have c0 := (q.cell 0).trans q0
            have c1 := (q.cell (0 + 1)).trans q1
            have c2 := (q.cell (0 + 2)).trans q2
            have c3 := (q.cell (0 + 3)).trans q3
            have c4 := (q.cell (0 + 4)).trans q4
            simp only [Nat.zero_add] at c0 c1 c2 c3 c4
            clear q q0 q1 q2 q3 q4
            have HC0 : Hid _ := c0
            have HC1 : Hid _ := c1
            have HC2 : Hid _ := c2
            have HC3 : Hid _ := c3
            have HC4 : Hid _ := c4
            clear c0 c1 c2 c3 c4
            go_wp2_with fail
            have c0 := HC0.out
            have c1 := HC1.out
            have c2 := HC2.out
            have c3 := HC3.out
            have c4 := HC4.out
            refine bodyPost_ret (v := .tuple #[.agg #[(.int .i64 6), (.int .i64 0), (.string ⟨#[]⟩), (.string ⟨#[]⟩), .slice none 0 0], .bool false]) ?_ rfl ?_
            · simp [results, Tryz.results10, go_sem, c0, c1, c2, c3, c4]
            · exact ⟨_, _, _, _, _, _, _, false, rfl, below_set5 HBW.out (Nat.le_refl _) 0 _ _ _ _ _, (fun h => by cases h), fun _ => parse_none HPS.out (parse_4n hne hl HKK.out (by omega))⟩
        · by_cases hl : 1 < ps.length
          · have hc1 : w2.cell? ⟨b, off + 1, none⟩ = some (.string ps[1]) := (HB2.out.cell (p := ⟨b, off + 1, none⟩) hbl).trans (HCELL.out 1 hl)
            have f1 := hH2.frozen 3
            have HX : Hid _ := hH2.set 3 (.string ps[1])
            have HY : Hid _ := hB2.setCell (p := ⟨w1.heap.size, 3, none⟩) (Nat.le_refl _) (.string ps[1])
            clear hH2 hB2 hR2
            go_wp2_with fail
            go_meet
            case rel => exact ⟨0, ps[1], 2, true, rfl, rfl, HX.out, HY.out, ⟨by omega, by omega, .inr ⟨by omega, parse_2 hl HKK.out (by omega)⟩⟩, HSZ.out 1 hl⟩
          · have r0 := hR2.cell 0
            have r1 := hR2.cell 1
            have r2 := hR2.cell 2
            have r3 := hR2.cell 3
            have r4 := hR2.cell 4
            have f0 := hR2.frozen 0
            have f1 := hR2.frozen 1
            have f2 := hR2.frozen 2
            have f3 := hR2.frozen 3
            have f4 := hR2.frozen 4
            simp at r0 r1 r2 r3 r4
            obtain ⟨cur', q, _, _, q0, q1, q2, q3, q4⟩ := hR2.set5 0 (.int .i64 7) (.int .i64 0) (.string ⟨#[]⟩) (.string ⟨#[]⟩) (.slice none 0 0) (by simp)
            have c0 := (q.cell 0).trans q0
            have c1 := (q.cell (0 + 1)).trans q1
            have c2 := (q.cell (0 + 2)).trans q2
            have c3 := (q.cell (0 + 3)).trans q3
            have c4 := (q.cell (0 + 4)).trans q4
            simp only [Nat.zero_add] at c0 c1 c2 c3 c4
            clear q q0 q1 q2 q3 q4
            have HC0 : Hid _ := c0
            have HC1 : Hid _ := c1
            have HC2 : Hid _ := c2
            have HC3 : Hid _ := c3
            have HC4 : Hid _ := c4
            clear c0 c1 c2 c3 c4
            go_wp2_with fail
            have c0 := HC0.out
            have c1 := HC1.out
            have c2 := HC2.out
            have c3 := HC3.out
            have c4 := HC4.out
            refine bodyPost_ret (v := .tuple #[.agg #[(.int .i64 7), (.int .i64 0), (.string ⟨#[]⟩), (.string ⟨#[]⟩), .slice none 0 0], .bool false]) ?_ rfl ?_
            · simp [results, Tryz.results10, go_sem, c0, c1, c2, c3, c4]
            · exact ⟨_, _, _, _, _, _, _, false, rfl, below_set5 HBW.out (Nat.le_refl _) 0 _ _ _ _ _, (fun h => by cases h), fun _ => parse_none HPS.out (parse_2n hne hl HKK.out (by omega))⟩
        · go_wp2_with fail
          go_meet
          case rel => exact ⟨0, eZ, 1, true, rfl, rfl, HH2.out, HB2.out, ⟨hne, by omega, .inr ⟨by omega, parse_1 hne HKK.out (by omega)⟩⟩, by decide⟩
        · by_cases hl : 1 < ps.length
          · have hc1 : w2.cell? ⟨b, off + 1, none⟩ = some (.string ps[1]) := (HB2.out.cell (p := ⟨b, off + 1, none⟩) hbl).trans (HCELL.out 1 hl)
            have f1 := hH2.frozen 1
            go_wp2_with fail
            refine (HNM.out _ _ (HSZ.out 1 hl)).mono ?_
            rintro e wn ⟨⟨n, rfl, hn⟩, rfl⟩
            go_wp2_with fail
            go_meet
            case rel => 
              refine ⟨n, eZ, 2, numOk (bB ps[1]), rfl, rfl, hH2.set 1 (.int .i64 n), hB2.setCell (p := ⟨w1.heap.size, 1, none⟩) (Nat.le_refl _) (.int .i64 n), ⟨by omega, by omega, .inr ⟨by omega, ?_⟩⟩, by decide⟩
              rw [parse_4 hl HKK.out (by omega)]
              by_cases ho : numOk (bB ps[1]) = true
              · rw [if_pos ho, if_pos ho, hn ho]; rfl
              · rw [if_neg ho, if_neg ho]
          · have r0 := hR2.cell 0
            have r1 := hR2.cell 1
            have r2 := hR2.cell 2
            have r3 := hR2.cell 3
            have r4 := hR2.cell 4
            have f0 := hR2.frozen 0
            have f1 := hR2.frozen 1
            have f2 := hR2.frozen 2
            have f3 := hR2.frozen 3
            have f4 := hR2.frozen 4
            simp at r0 r1 r2 r3 r4
            obtain ⟨cur', q, _, _, q0, q1, q2, q3, q4⟩ := hR2.set5 0 (.int .i64 9) (.int .i64 0) (.string ⟨#[]⟩) (.string ⟨#[]⟩) (.slice none 0 0) (by simp)
            have c0 := (q.cell 0).trans q0
            have c1 := (q.cell (0 + 1)).trans q1
            have c2 := (q.cell (0 + 2)).trans q2
            have c3 := (q.cell (0 + 3)).trans q3
            have c4 := (q.cell (0 + 4)).trans q4
            simp only [Nat.zero_add] at c0 c1 c2 c3 c4
            clear q q0 q1 q2 q3 q4
            have HC0 : Hid _ := c0
            have HC1 : Hid _ := c1
            have HC2 : Hid _ := c2
            have HC3 : Hid _ := c3
            have HC4 : Hid _ := c4
            clear c0 c1 c2 c3 c4
            go_wp2_with fail
            have c0 := HC0.out
            have c1 := HC1.out
            have c2 := HC2.out
            have c3 := HC3.out
            have c4 := HC4.out
            refine bodyPost_ret (v := .tuple #[.agg #[(.int .i64 9), (.int .i64 0), (.string ⟨#[]⟩), (.string ⟨#[]⟩), .slice none 0 0], .bool false]) ?_ rfl ?_
            · simp [results, Tryz.results10, go_sem, c0, c1, c2, c3, c4]
            · exact ⟨_, _, _, _, _, _, _, false, rfl, below_set5 HBW.out (Nat.le_refl _) 0 _ _ _ _ _, (fun h => by cases h), fun _ => parse_none HPS.out (parse_4n hne hl HKK.out (by omega))⟩
      case rest =>
        obtain ⟨id, name, n, ok, rfl, rfl, hH, hB, haf, hnmz⟩ := hcut
        have HAF : Hid (After K ps id name n ok) := haf
        clear haf hB2 hH2 hR2 HH2 HB2 HR2 HBW
        have HH : Hid (Holds wc w1.heap.size 32 #[.int .i64 K, .int .i64 id, .string eZ, .string name, .slice none 0 0]) := hH
        have HB : Hid (Below w1.heap.size w1 wc) := hB
        have HRc : Hid (Holds wc w.heap.size 32 #[.int .i64 0, .int .i64 0, .string ⟨#[]⟩, .string ⟨#[]⟩, .slice none 0 0]) := (Holds.below (w := w.alloc (.cells #[.int .i64 0, .int .i64 0, .string ⟨#[]⟩, .string ⟨#[]⟩, .slice none 0 0] 32)) (heap_alloc_new _ _) HW1.out).later hB hRE
        clear g0 g1 g2 g3 g4
        have g0 := hH.cell 0
        have g1 := hH.cell 1
        have g2 := hH.cell 2
        have g3 := hH.cell 3
        have g4 := hH.cell 4
        simp at g0 g1 g2 g3 g4
        have HBWc : Hid (Below w.heap.size w wc) := HBW1.out.trans (hB.mono (Nat.le_of_lt hRE))
        clear hH hB
        go_upto_if 65 with fail
        go_cut [7] (fun t7 wx => ∃ (key nm : ByteArray) (m : Nat), t7 = .int .i64 m ∧ Holds wx w1.heap.size 32 #[.int .i64 K, .int .i64 id, .string key, .string nm, .slice none 0 0] ∧ Below w1.heap.size w1 wx ∧ After2 K ps id key nm m ok ∧ key.size ≤ maxLen ∧ nm.size ≤ maxLen)
        case first =>
          by_cases hK3 : K = 3
          · subst hK3
            have hap : n = 2 ∧ name = eZ ∧ ∃ h : 1 < ps.length, ok = numOk (bB ps[1]) ∧ (ok = true → id = numVal (bB ps[1])) := by
              rcases HAF.out.2.2 with h | h
              · exact h.2
              · exact absurd rfl h.1
            obtain ⟨rfl, rfl, hl1, hok, hid⟩ := hap
            by_cases hl : 3 < ps.length
            · have hc2 : wc.cell? ⟨b, off + 2, none⟩ = some (.string ps[2]) := (HB.out.cell (p := ⟨b, off + 2, none⟩) hbl).trans (HCELL.out 2 (by omega))
              have hc3 : wc.cell? ⟨b, off + 3, none⟩ = some (.string ps[3]) := (HB.out.cell (p := ⟨b, off + 3, none⟩) hbl).trans (HCELL.out 3 hl)
              have f2 := HH.out.frozen 2
              have f3 := HH.out.frozen 3
              have hne1 : b ≠ w1.heap.size := by omega
              have HP : Hid (parse ps = if ok then (numsOf (ps.drop 4)).map (fun l => ⟨3, id, ps[2], unNm ps[3], l⟩) else none) := by
                show _ = _
                rw [parse_3 hl HKK.out, ← hok]
                by_cases ho : ok = true
                · rw [if_pos ho, if_pos ho, hid ho]
                · rw [if_neg ho, if_neg ho]
              by_cases hd : (ps[3].toList == (⟨#[45]⟩ : ByteArray).toList) = true
              · have HU : Hid (unNm ps[3] = eZ) := if_pos ((bB_eq _ _).2 hd)
                have he3 : ps[3] = ⟨#[45]⟩ := (eqS_iff _ _).1 hd
                have HX : Hid _ := ((HH.out.set 2 (.string ps[2])).set 3 (.string ⟨#[45]⟩)).set 3 (.string ⟨#[]⟩)
                have HY : Hid _ := ((HB.out.setCell (p := ⟨w1.heap.size, 2, none⟩) (Nat.le_refl _) (.string ps[2])).setCell (p := ⟨w1.heap.size, 3, none⟩) (Nat.le_refl _) (.string ⟨#[45]⟩)).setCell (p := ⟨w1.heap.size, 3, none⟩) (Nat.le_refl _) (.string ⟨#[]⟩)
                go_wp2_with fail
                go_meet
                case rel => exact ⟨ps[2], eZ, 4, rfl, HX.out, HY.out, ⟨by omega, by rw [HP.out, HU.out]; rfl⟩, HSZ.out 2 (by omega), by decide⟩
              · have hd : (ps[3].toList == (⟨#[45]⟩ : ByteArray).toList) = false := by simpa only [Bool.not_eq_true] using hd
                have HU : Hid (unNm ps[3] = ps[3]) := if_neg (fun h => by rw [show [(45 : UInt8)] = bB ⟨#[45]⟩ from rfl, bB_eq, hd] at h; cases h)
                have hd2 : (ps[3].toList == [45]) = false := by rw [ByteArray.toList_eq ⟨#[45]⟩] at hd; exact hd
                have hd3 : ¬ ps[3].toList = [45] := by simpa using hd2
                clear hd
                have HX : Hid _ := (HH.out.set 2 (.string ps[2])).set 3 (.string ps[3])
                have HY : Hid _ := (HB.out.setCell (p := ⟨w1.heap.size, 2, none⟩) (Nat.le_refl _) (.string ps[2])).setCell (p := ⟨w1.heap.size, 3, none⟩) (Nat.le_refl _) (.string ps[3])
                go_wp2_with fail
                go_meet
                case rel => exact ⟨ps[2], ps[3], 4, rfl, HX.out, HY.out, ⟨by omega, by rw [HP.out, HU.out]; rfl⟩, HSZ.out 2 (by omega), HSZ.out 3 hl⟩
            · have r0 := HRc.out.cell 0
              have r1 := HRc.out.cell 1
              have r2 := HRc.out.cell 2
              have r3 := HRc.out.cell 3
              have r4 := HRc.out.cell 4
              have f0 := HRc.out.frozen 0
              have f1 := HRc.out.frozen 1
              have f2 := HRc.out.frozen 2
              have f3 := HRc.out.frozen 3
              have f4 := HRc.out.frozen 4
              simp at r0 r1 r2 r3 r4
              obtain ⟨cur', q, _, _, q0, q1, q2, q3, q4⟩ := HRc.out.set5 0 (.int .i64 3) (.int .i64 id) (.string eZ) (.string eZ) (.slice none 0 0) (by simp)
              have c0 := (q.cell 0).trans q0
              have c1 := (q.cell (0 + 1)).trans q1
              have c2 := (q.cell (0 + 2)).trans q2
              have c3 := (q.cell (0 + 3)).trans q3
              have c4 := (q.cell (0 + 4)).trans q4
              simp only [Nat.zero_add] at c0 c1 c2 c3 c4
              clear q q0 q1 q2 q3 q4
              have HC0 : Hid _ := c0
              have HC1 : Hid _ := c1
              have HC2 : Hid _ := c2
              have HC3 : Hid _ := c3
              have HC4 : Hid _ := c4
              clear c0 c1 c2 c3 c4
              go_wp2_with fail
              have c0 := HC0.out
              have c1 := HC1.out
              have c2 := HC2.out
              have c3 := HC3.out
              have c4 := HC4.out
              refine bodyPost_ret (v := .tuple #[.agg #[(.int .i64 3), (.int .i64 id), (.string eZ), (.string eZ), .slice none 0 0], .bool false]) ?_ rfl ?_
              · simp [results, Tryz.results10, go_sem, c0, c1, c2, c3, c4]
              · exact ⟨_, _, _, _, _, _, _, false, rfl, below_set5 HBWc.out (Nat.le_refl _) 0 _ _ _ _ _, (fun h => by cases h), fun _ => parse_none HPS.out (parse_3n hne hl HKK.out)⟩
          · have hKb : ((K : Int) == 3) = false := by simp; omega
            have HP := (HAF.out.2.2.resolve_left (fun h => hK3 h.1)).2
            go_wp2_with fail
            go_meet
            case rel => exact ⟨eZ, name, n, rfl, HH.out, HB.out, ⟨HAF.out.1, HP⟩, by decide, hnmz⟩
        case rest =>
          clear HAF HH HB HRc g0 g1 g2 g3 g4
          obtain ⟨key, nm, m, rfl, hH, hB, haf, hkz, hnz⟩ := hcut
          rename_i wx
          have HAF : Hid (After2 K ps id key nm m ok) := haf
          clear haf
          go_wp2_with fail
          go_loopw [7, 8] (fun t7 t8 wr => ∃ (q : Nat) (o : Bool) (nums : List Int) (v : Value), t7 = .int .i64 q ∧ t8 = .bool o ∧ Holds wr w1.heap.size 32 #[.int .i64 K, .int .i64 id, .string key, .string nm, v] ∧ Acc wr (w1.heap.size + 1) 3 1 v nums.length (nums.map (Value.int .i64)) ∧ Below w1.heap.size w1 wr ∧ AfterN K ps id key nm nums q o ∧ nums.length ≤ q ∧ (o = true → ∀ z ∈ nums, -9999 ≤ z ∧ z ≤ 9999)) (fun t7 _ _ => ps.length - (intOf t7).toNat)
          case atStart => exact ⟨m, ok, [], _, rfl, rfl, hH, Acc.nil _ _ _ _, hB, AfterN.start HAF.out, Nat.zero_le _, fun _ z hz => by cases hz⟩
          case round =>
            clear hH hB HAF
            obtain ⟨q, o, nums, v, rfl, rfl, hH, hA, hB, haf, hnl, hbd⟩ := hrel
            have hq := haf.1
            have HAF : Hid (AfterN K ps id key nm nums q o) := haf
            clear haf
            by_cases hgo : q < ps.length ∧ o = true
            · obtain ⟨hlt, rfl⟩ := hgo
              have hc := (hB.cell (p := ⟨b, off + q, none⟩) hbl).trans (HCELL.out q hlt)
              have g4 := hH.cell 4
              have g5 := hH.frozen 4
              simp at g4
              have hne1 : b ≠ w1.heap.size := by omega
              have hEl : w1.heap.size < wr.heap.size := hH.lt
              have HH : Hid (Holds wr w1.heap.size 32 #[.int .i64 K, .int .i64 id, .string key, .string nm, v]) := hH
              have HA : Hid (Acc wr (w1.heap.size + 1) 3 1 v nums.length (nums.map (Value.int .i64))) := hA
              have HB : Hid (Below w1.heap.size w1 wr) := hB
              have HBD : Hid (∀ z ∈ nums, -9999 ≤ z ∧ z ≤ 9999) := hbd rfl
              clear hH hA hB hbd
              go_wp2_with fail
              refine (HNM.out _ _ (HSZ.out q hlt)).mono ?_
              rintro e wn ⟨⟨z, rfl, hz⟩, rfl⟩
              go_wp2_with (at_builtin; refine wp_acc_int rfl _ _ rfl (w1.heap.size + 1) _ _ nums rfl (HA.out.alloc _) ⟨_, 0, none⟩ 1 z rfl ?c1 ?c2 ?c3 ?_)
              case c1 => simp
              case c2 => omega
              case c3 => simp; omega
              intro v1 wa hA1 hg
              obtain ⟨a1, n1, cp1, rfl⟩ : ∃ a n c, v1 = .slice a n c := by obtain ⟨x, y, h⟩ := hA1.row.form; exact ⟨_, _, _, h⟩
              have hH1 : Holds wa w1.heap.size 32 _ := (HH.out.below ((Below.refl _ _).alloc (Nat.le_refl _) _)).later hg (Nat.lt_succ_self _)
              have k4 := hH1.cell 4
              have k5 := hH1.frozen 4
              simp at k4
              have HX : Hid _ := hH1.set 4 (.slice a1 n1 cp1)
              have HY : Hid (Acc (wa.setCell ⟨w1.heap.size, 4, none⟩ (.slice a1 n1 cp1)) _ _ _ _ _ _) := hA1.setElse (p := ⟨w1.heap.size, 4, none⟩) (Nat.lt_succ_self _) (.slice a1 n1 cp1)
              have hyo : Acc (wa.setCell ⟨w1.heap.size, 4, none⟩ (.slice a1 n1 cp1)) (w1.heap.size + 1) 3 1 (.slice a1 n1 cp1) (nums ++ [z]).length ((nums ++ [z]).map (Value.int .i64)) := by rw [List.length_append, List.map_append]; exact HY.out
              have HYO : Hid _ := hyo
              clear hyo
              have HZ : Hid _ := ((HB.out.alloc HB.out.size _).trans (hg.mono (Nat.le_succ _))).setCell (p := ⟨w1.heap.size, 4, none⟩) (Nat.le_refl _) (.slice a1 n1 cp1)
              have HBD2 : Hid (numOk (bB ps[q]) = true → ∀ y ∈ nums ++ [z], -9999 ≤ y ∧ y ≤ 9999) := fun ho y hy => by
                rcases List.mem_append.1 hy with hy | hy
                · exact HBD.out y hy
                · simp only [List.mem_singleton] at hy
                  subst hy
                  rw [hz ho]; exact numVal_bd ho
              clear hH1 hA1 hg
              go_wp2_with fail
              go_roundw
              case rel => exact ⟨q + 1, numOk (bB ps[q]), nums ++ [z], _, by go_num, rfl, HX.out, HYO.out, HZ.out, HAF.out.step hlt z hz, by simp; omega, HBD2.out⟩
              case measure => simp [intOf]; omega
            · have hEl : w1.heap.size < wr.heap.size := hH.lt
              have HEr : Hid (Holds wr w1.heap.size 32 #[.int .i64 K, .int .i64 id, .string key, .string nm, v]) := hH
              have HRr : Hid (Holds wr w.heap.size 32 #[.int .i64 0, .int .i64 0, .string ⟨#[]⟩, .string ⟨#[]⟩, .slice none 0 0]) := (Holds.below (w := w.alloc (.cells #[.int .i64 0, .int .i64 0, .string ⟨#[]⟩, .string ⟨#[]⟩, .slice none 0 0] 32)) (heap_alloc_new _ _) HW1.out).later hB hRE
              have HBWr : Hid (Below w.heap.size w wr) := HBW1.out.trans (hB.mono (Nat.le_of_lt hRE))
              obtain ⟨a1, n1, cp1, rfl⟩ : ∃ a n c, v = .slice a n c := by obtain ⟨x, y, h⟩ := hA.row.form; exact ⟨_, _, _, h⟩
              have hneE : w1.heap.size ≠ w.heap.size := by omega
              have HAB : Hid (0 < n1 → ∀ b off, a1 = some ⟨b, off, none⟩ → w1.heap.size + 1 ≤ b) := acc_far hA
              have HA : Hid _ := hA.row
              have e0 := hH.cell 0
              have e1 := hH.cell 1
              have e2 := hH.cell 2
              have e3 := hH.cell 3
              have e4 := hH.cell 4
              have r0 := HRr.out.cell 0
              have r1 := HRr.out.cell 1
              have r2 := HRr.out.cell 2
              have r3 := HRr.out.cell 3
              have r4 := HRr.out.cell 4
              have f0 := HRr.out.frozen 0
              have f1 := HRr.out.frozen 1
              have f2 := HRr.out.frozen 2
              have f3 := HRr.out.frozen 3
              have f4 := HRr.out.frozen 4
              simp at e0 e1 e2 e3 e4 r0 r1 r2 r3 r4
              clear hH hA hB
              by_cases ho : o = true
              · subst ho
                have hqe : ¬ q < ps.length := fun h => hgo ⟨h, rfl⟩
                clear hgo
                have hbd := hbd rfl
                have HP : Hid (parse ps = some ⟨K, id, key, nm, nums⟩) := HAF.out.done hqe
                obtain ⟨hir, hn1⟩ := isRow_of_row HA.out (fun x hx => wf_small (hbd x hx))
                have HIR : Hid (IsRow .i64 wr a1 n1 cp1 nums) := hir
                have HEO : Hid (∀ w', Below wr.heap.size wr w' → Calls Tryz.prog 21 #[.agg #[.int .i64 (K : Int), .int .i64 id, .string key, .string nm, .slice a1 n1 cp1]] w' fun x w'' => x = .returned (.bool (entOk ⟨K, id, key, nm, nums⟩)) ∧ Below w'.heap.size w' w'') := fun w' hb' => l21EntryOk ⟨K, id, key, nm, nums⟩ a1 n1 cp1 w' (HIR.out.below hb') hkz hnz
                clear hir
                generalize hr : (⟨K, id, key, nm, nums⟩ : Ent) = r at HEO
                by_cases hok : entOk r = true
                · rw [hok] at HEO
                  have hbdr := entOk_bd hok
                  have HTX : Hid (∀ w', Below wr.heap.size wr w' → Calls Tryz.prog 22 #[.agg #[.int .i64 (K : Int), .int .i64 id, .string key, .string nm, .slice a1 n1 cp1]] w' fun x w'' => x = .returned (.string (entText r)) ∧ Below w'.heap.size w' w'') := fun w' hb' => by rw [← hr]; exact l21Text ⟨K, id, key, nm, nums⟩ a1 n1 cp1 w' (HIR.out.below hb') (by rw [hr]; exact hok)
                  have HRD : Hid (EntIs wr [.int .i64 (K : Int), .int .i64 id, .string key, .string nm, .slice a1 n1 cp1] r) := by
                    rw [← hr] at hbdr ⊢
                    exact ⟨a1, n1, cp1, rfl, HIR.out, hkz, hnz, wf_small (by simp only; omega), wf_small (by have := hbdr.2.1; simp only at this ⊢; omega)⟩
                  have HPO : Hid (entText r ≠ s → ∀ x, entOk x = true → entText x ≠ s) := fun h => parse_other HPS.out (by rw [← hr]; exact HP.out) (.inr h)
                  go_wp2_with fail
                  clear HPS HROW HCELL HSZ HNM HKK HC HW HW1 HBW1 HAF HA HIR HP hbd
                  clear e0 e1 e2 e3 e4 hs hmx hcap hbl hc0 hpl hkz hnz hq hqe hnl hn1 hK9 hr hbdr
                  have hmx : Tryz.prog.follows .mixedOrders = true := by kernel_rfl
                  refine wp_region_noPanic (wp_region_held (S := (fun w' => w'.cell? ⟨w1.heap.size, 0, none⟩ = some (.int .i64 K) ∧ w'.cell? ⟨w1.heap.size, 1, none⟩ = some (.int .i64 id) ∧ w'.cell? ⟨w1.heap.size, 2, none⟩ = some (.string key) ∧ w'.cell? ⟨w1.heap.size, 3, none⟩ = some (.string nm) ∧ w'.cell? ⟨w1.heap.size, 4, none⟩ = some (.slice a1 n1 cp1))) hmx ?_)
                  have hS0 := five (holds_drew HEr.out)
                  refine wpAnyH_take (i := 0) (v := (.agg #[.int .i64 (K : Int), .int .i64 id, .string key, .string nm, .slice a1 n1 cp1])) rfl (by kernel_rfl) (by kernel_rfl) (by kernel_rfl) (fun _ _ _ h => h) (.inl ⟨by kernel_rfl, fun w' hw' => by obtain ⟨y0, y1, y2, y3, y4⟩ := hw'; simp [go_sem, y0, y1, y2, y3, y4]⟩) hS0 ?_
                  try simp only [Act.put, List.setIfInBounds_toArray, List.set_cons_zero, List.set_cons_succ]
                  refine wpAnyH_take (i := 1) (v := .bool true) rfl (by kernel_rfl) (by kernel_rfl) (by kernel_rfl) (fun _ _ _ h => h) (.inl ⟨by kernel_rfl, fun w' _ => by kernel_rfl⟩) hS0 ?_
                  try simp only [Act.put, List.setIfInBounds_toArray, List.set_cons_zero, List.set_cons_succ]
                  refine wpAnyH_take (i := 2) (v := .bool true) rfl (by kernel_rfl) (by kernel_rfl) (by kernel_rfl) (fun _ _ _ h => h) (.inl ⟨by kernel_rfl, fun w' _ => by kernel_rfl⟩) hS0 ?_
                  try simp only [Act.put, List.setIfInBounds_toArray, List.set_cons_zero, List.set_cons_succ]
                  refine wpAnyH_take (i := 3) (v := (.agg #[.int .i64 (K : Int), .int .i64 id, .string key, .string nm, .slice a1 n1 cp1])) rfl (by kernel_rfl) (by kernel_rfl) (by kernel_rfl) (fun _ _ _ h => h) (.inl ⟨by kernel_rfl, fun w' hw' => by obtain ⟨y0, y1, y2, y3, y4⟩ := hw'; simp [go_sem, y0, y1, y2, y3, y4]⟩) hS0 ?_
                  try simp only [Act.put, List.setIfInBounds_toArray, List.set_cons_zero, List.set_cons_succ]
                  refine wpAnyH_one (i := 4) rfl (by kernel_rfl) (by kernel_rfl) (fun KK hKK => ?_)
                  refine wp_call1 (HEO.out _ (Below.refl _ _).drew) (fun e w' h => ⟨_, h.1⟩) (enters_of Tryz.func21 (by kernel_rfl) rfl) _ _ (by rfl) (by kernel_rfl) ?_
                  rintro r5 w5 ⟨he5, hw5⟩
                  cases he5
                  have hEw5 : Holds w5 w1.heap.size 32 #[.int .i64 (K : Int), .int .i64 id, .string key, .string nm, .slice a1 n1 cp1] := Holds.below (w := wr.drew) HEr.out hw5
                  have hRw5 : Holds w5 w.heap.size 32 #[.int .i64 0, .int .i64 0, .string ⟨#[]⟩, .string ⟨#[]⟩, .slice none 0 0] := Holds.below (w := wr.drew) HRr.out hw5
                  have hS5 := five hEw5
                  refine hKK _ _ hS5 ?_
                  clear hKK KK
                  try simp only [Act.put, List.setIfInBounds_toArray, List.set_cons_zero, List.set_cons_succ]
                  refine wpAnyH_take (i := 5) (v := .bool true) rfl (by kernel_rfl) (by kernel_rfl) (by kernel_rfl) (fun _ _ _ h => h) (.inl ⟨by kernel_rfl, fun w' _ => by simp [go_sem]⟩) hS5 ?_
                  try simp only [Act.put, List.setIfInBounds_toArray, List.set_cons_zero, List.set_cons_succ]
                  refine wpAnyH_take (i := 6) (v := .bool true) rfl (by kernel_rfl) (by kernel_rfl) (by kernel_rfl) (fun _ _ _ h => h) (.inl ⟨by kernel_rfl, fun w' _ => by kernel_rfl⟩) hS5 ?_
                  try simp only [Act.put, List.setIfInBounds_toArray, List.set_cons_zero, List.set_cons_succ]
                  refine wpAnyH_take (i := 7) (v := (.agg #[.int .i64 (K : Int), .int .i64 id, .string key, .string nm, .slice a1 n1 cp1])) rfl (by kernel_rfl) (by kernel_rfl) (by kernel_rfl) (fun _ _ _ h => h) (.inl ⟨by kernel_rfl, fun w' hw' => by obtain ⟨y0, y1, y2, y3, y4⟩ := hw'; simp [go_sem, y0, y1, y2, y3, y4]⟩) hS5 ?_
                  try simp only [Act.put, List.setIfInBounds_toArray, List.set_cons_zero, List.set_cons_succ]
                  refine wpAnyH_take (i := 9) (v := .string s) rfl (by kernel_rfl) (by kernel_rfl) (by kernel_rfl) (fun _ _ _ h => h) (.inl ⟨by kernel_rfl, fun w' _ => by kernel_rfl⟩) hS5 ?_
                  try simp only [Act.put, List.setIfInBounds_toArray, List.set_cons_zero, List.set_cons_succ]
                  refine wpAnyH_one (i := 8) rfl (by kernel_rfl) (by kernel_rfl) (fun KK hKK => ?_)
                  refine wp_call1 (HTX.out w5 (undrewR hw5)) (fun e w' h => ⟨_, h.1⟩) (enters_of Tryz.func22 (by kernel_rfl) rfl) _ _ (by rfl) (by kernel_rfl) ?_
                  rintro r6 w6 ⟨he6, hw6⟩
                  cases he6
                  have hEw6 : Holds w6 w1.heap.size 32 #[.int .i64 (K : Int), .int .i64 id, .string key, .string nm, .slice a1 n1 cp1] := Holds.below hEw5 hw6
                  have hRw6 : Holds w6 w.heap.size 32 #[.int .i64 0, .int .i64 0, .string ⟨#[]⟩, .string ⟨#[]⟩, .slice none 0 0] := Holds.below hRw5 hw6
                  have hS6 := five hEw6
                  refine hKK _ _ hS6 ?_
                  clear hKK KK
                  try simp only [Act.put, List.setIfInBounds_toArray, List.set_cons_zero, List.set_cons_succ]
                  refine wpAnyH_take (i := 10) (v := (.bool ((entText r).toList == s.toList))) rfl (by kernel_rfl) (by kernel_rfl) (by kernel_rfl) (fun _ _ _ h => h) (.inl ⟨by kernel_rfl, fun w' _ => by simp [go_sem]⟩) hS6 ?_
                  try simp only [Act.put, List.setIfInBounds_toArray, List.set_cons_zero, List.set_cons_succ]
                  refine wpAnyH_take (i := 11) (v := (.bool ((entText r).toList == s.toList))) rfl (by kernel_rfl) (by kernel_rfl) (by kernel_rfl) (fun _ _ _ h => h) (.inl ⟨by kernel_rfl, fun w' _ => by simp [go_sem]⟩) hS6 ?_
                  try simp only [Act.put, List.setIfInBounds_toArray, List.set_cons_zero, List.set_cons_succ]
                  have b50 := hRw6.cell 0
                  have d50 := hRw6.frozen 0
                  have b51 := hRw6.cell 1
                  have d51 := hRw6.frozen 1
                  have b52 := hRw6.cell 2
                  have d52 := hRw6.frozen 2
                  have b53 := hRw6.cell 3
                  have d53 := hRw6.frozen 3
                  have b54 := hRw6.cell 4
                  have d54 := hRw6.frozen 4
                  simp at b50 b51 b52 b53 b54
                  refine wpAnyH_one (i := 12) rfl (by kernel_rfl) (by kernel_rfl) (fun KK hKK => ?_)
                  go_simp
                  have hS9 := five (holds_else5 hEw6 (.int .i64 (K : Int)) (.int .i64 id) (.string key) (.string nm) (.slice a1 n1 cp1) hneE)
                  refine hKK _ _ hS9 ?_
                  clear hKK KK
                  try simp only [Act.put, List.setIfInBounds_toArray, List.set_cons_zero, List.set_cons_succ]
                  refine wpAnyH_take (i := 13) (v := (.bool ((entText r).toList == s.toList))) rfl (by kernel_rfl) (by kernel_rfl) (by kernel_rfl) (fun _ _ _ h => h) (.inl ⟨by kernel_rfl, fun w' _ => by kernel_rfl⟩) hS9 ?_
                  try simp only [Act.put, List.setIfInBounds_toArray, List.set_cons_zero, List.set_cons_succ]
                  refine wpAnyH_done (by kernel_rfl) ?_ _
                  refine NoPanic.normal ?_
                  go_wp2_with fail
                  obtain ⟨cur', qh, _, _, q0, q1, q2, q3, q4⟩ := hRw6.set5 0 (.int .i64 (K : Int)) (.int .i64 id) (.string key) (.string nm) (.slice a1 n1 cp1) (by simp)
                  have c0 := (qh.cell 0).trans q0
                  have c1 := (qh.cell (0 + 1)).trans q1
                  have c2 := (qh.cell (0 + 2)).trans q2
                  have c3 := (qh.cell (0 + 3)).trans q3
                  have c4 := (qh.cell (0 + 4)).trans q4
                  simp only [Nat.zero_add] at c0 c1 c2 c3 c4
                  have hb6 : Below wr.heap.size wr w6 := bcall (undrewR hw5) (undrewR hw5).size hw6
                  refine bodyPost_ret (v := .tuple #[.agg #[.int .i64 (K : Int), .int .i64 id, .string key, .string nm, .slice a1 n1 cp1], (.bool ((entText r).toList == s.toList))]) ?_ rfl ?_
                  · simp [results, Tryz.results10, go_sem, c0, c1, c2, c3, c4]
                  · refine ⟨_, _, _, _, _, _, _, _, rfl, below_set5 (bcall HBWr.out HBWr.out.size hb6) (Nat.le_refl _) 0 _ _ _ _ _, fun h => ⟨r, ?_, hok, (eqS_iff _ _).1 h, fun hl b' o' ea => by have := HAB.out hl b' o' ea; omega⟩, fun h => HPO.out fun e => by rw [(eqS_iff _ _).2 e] at h; cases h⟩
                    obtain ⟨x1, x2, x3, hx, y1, y2⟩ := HRD.out
                    simp only [List.cons.injEq, Value.slice.injEq, and_true] at hx
                    obtain ⟨z0, z1, z2, z3, rfl, rfl, rfl⟩ := hx
                    exact ⟨a1, n1, cp1, by rw [z0, z1, z2, z3], isRow_set5far (y1.below hb6) (fun hl b' o' e => by have := HAB.out hl b' o' e; omega) _ _ _ _ _, y2⟩
                · have hok : entOk r = false := by simpa using hok
                  rw [hok] at HEO
                  have HF : Hid (∀ x, entOk x = true → entText x ≠ s) := parse_other HPS.out (by rw [← hr]; exact HP.out) (.inl hok)
                  go_wp2_with fail
                  clear HPS HROW HCELL HSZ HNM HKK HC HW HW1 HBW1 HAF HA HIR HP hbd
                  clear e0 e1 e2 e3 e4 hs hmx hcap hbl hc0 hpl hkz hnz hq hqe hnl hn1 hok hK9 hr
                  have hmx : Tryz.prog.follows .mixedOrders = true := by kernel_rfl
                  refine wp_region_noPanic (wp_region_held (S := (fun w' => w'.cell? ⟨w1.heap.size, 0, none⟩ = some (.int .i64 K) ∧ w'.cell? ⟨w1.heap.size, 1, none⟩ = some (.int .i64 id) ∧ w'.cell? ⟨w1.heap.size, 2, none⟩ = some (.string key) ∧ w'.cell? ⟨w1.heap.size, 3, none⟩ = some (.string nm) ∧ w'.cell? ⟨w1.heap.size, 4, none⟩ = some (.slice a1 n1 cp1))) hmx ?_)
                  have hS0 := five (holds_drew HEr.out)
                  refine wpAnyH_take (i := 0) (v := (.agg #[.int .i64 (K : Int), .int .i64 id, .string key, .string nm, .slice a1 n1 cp1])) rfl (by kernel_rfl) (by kernel_rfl) (by kernel_rfl) (fun _ _ _ h => h) (.inl ⟨by kernel_rfl, fun w' hw' => by obtain ⟨y0, y1, y2, y3, y4⟩ := hw'; simp [go_sem, y0, y1, y2, y3, y4]⟩) hS0 ?_
                  try simp only [Act.put, List.setIfInBounds_toArray, List.set_cons_zero, List.set_cons_succ]
                  refine wpAnyH_take (i := 1) (v := .bool true) rfl (by kernel_rfl) (by kernel_rfl) (by kernel_rfl) (fun _ _ _ h => h) (.inl ⟨by kernel_rfl, fun w' _ => by kernel_rfl⟩) hS0 ?_
                  try simp only [Act.put, List.setIfInBounds_toArray, List.set_cons_zero, List.set_cons_succ]
                  refine wpAnyH_take (i := 2) (v := .bool true) rfl (by kernel_rfl) (by kernel_rfl) (by kernel_rfl) (fun _ _ _ h => h) (.inl ⟨by kernel_rfl, fun w' _ => by kernel_rfl⟩) hS0 ?_
                  try simp only [Act.put, List.setIfInBounds_toArray, List.set_cons_zero, List.set_cons_succ]
                  refine wpAnyH_take (i := 3) (v := (.agg #[.int .i64 (K : Int), .int .i64 id, .string key, .string nm, .slice a1 n1 cp1])) rfl (by kernel_rfl) (by kernel_rfl) (by kernel_rfl) (fun _ _ _ h => h) (.inl ⟨by kernel_rfl, fun w' hw' => by obtain ⟨y0, y1, y2, y3, y4⟩ := hw'; simp [go_sem, y0, y1, y2, y3, y4]⟩) hS0 ?_
                  try simp only [Act.put, List.setIfInBounds_toArray, List.set_cons_zero, List.set_cons_succ]
                  refine wpAnyH_one (i := 4) rfl (by kernel_rfl) (by kernel_rfl) (fun KK hKK => ?_)
                  refine wp_call1 (HEO.out _ (Below.refl _ _).drew) (fun e w' h => ⟨_, h.1⟩) (enters_of Tryz.func21 (by kernel_rfl) rfl) _ _ (by rfl) (by kernel_rfl) ?_
                  rintro r5 w5 ⟨he5, hw5⟩
                  cases he5
                  have hEw5 : Holds w5 w1.heap.size 32 #[.int .i64 (K : Int), .int .i64 id, .string key, .string nm, .slice a1 n1 cp1] := Holds.below (w := wr.drew) HEr.out hw5
                  have hRw5 : Holds w5 w.heap.size 32 #[.int .i64 0, .int .i64 0, .string ⟨#[]⟩, .string ⟨#[]⟩, .slice none 0 0] := Holds.below (w := wr.drew) HRr.out hw5
                  have hS5 := five hEw5
                  refine hKK _ _ hS5 ?_
                  clear hKK KK
                  try simp only [Act.put, List.setIfInBounds_toArray, List.set_cons_zero, List.set_cons_succ]
                  refine wpAnyH_take (i := 5) (v := .bool false) rfl (by kernel_rfl) (by kernel_rfl) (by kernel_rfl) (fun _ _ _ h => h) (.inl ⟨by kernel_rfl, fun w' _ => by simp [go_sem]⟩) hS5 ?_
                  try simp only [Act.put, List.setIfInBounds_toArray, List.set_cons_zero, List.set_cons_succ]
                  refine wpAnyH_take (i := 6) (v := .bool false) rfl (by kernel_rfl) (by kernel_rfl) (by kernel_rfl) (fun _ _ _ h => h) (.inl ⟨by kernel_rfl, fun w' _ => by kernel_rfl⟩) hS5 ?_
                  try simp only [Act.put, List.setIfInBounds_toArray, List.set_cons_zero, List.set_cons_succ]
                  refine wpAnyH_take (i := 7) (v := undef) rfl (by kernel_rfl) (by kernel_rfl) (by kernel_rfl) (fun _ _ _ h => h) (.inr ⟨by kernel_rfl, rfl⟩) hS5 ?_
                  try simp only [Act.put, List.setIfInBounds_toArray, List.set_cons_zero, List.set_cons_succ]
                  refine wpAnyH_take (i := 9) (v := undef) rfl (by kernel_rfl) (by kernel_rfl) (by kernel_rfl) (fun _ _ _ h => h) (.inr ⟨by kernel_rfl, rfl⟩) hS5 ?_
                  try simp only [Act.put, List.setIfInBounds_toArray, List.set_cons_zero, List.set_cons_succ]
                  refine wpAnyH_take (i := 8) (v := undef) rfl (by kernel_rfl) (by kernel_rfl) (by kernel_rfl) (fun _ _ _ h => h) (.inr ⟨by kernel_rfl, rfl⟩) hS5 ?_
                  try simp only [Act.put, List.setIfInBounds_toArray, List.set_cons_zero, List.set_cons_succ]
                  refine wpAnyH_take (i := 10) (v := undef) rfl (by kernel_rfl) (by kernel_rfl) (by kernel_rfl) (fun _ _ _ h => h) (.inr ⟨by kernel_rfl, rfl⟩) hS5 ?_
                  try simp only [Act.put, List.setIfInBounds_toArray, List.set_cons_zero, List.set_cons_succ]
                  refine wpAnyH_take (i := 11) (v := .bool false) rfl (by kernel_rfl) (by kernel_rfl) (by kernel_rfl) (fun _ _ _ h => h) (.inl ⟨by kernel_rfl, fun w' _ => by simp [go_sem]⟩) hS5 ?_
                  try simp only [Act.put, List.setIfInBounds_toArray, List.set_cons_zero, List.set_cons_succ]
                  have b50 := hRw5.cell 0
                  have d50 := hRw5.frozen 0
                  have b51 := hRw5.cell 1
                  have d51 := hRw5.frozen 1
                  have b52 := hRw5.cell 2
                  have d52 := hRw5.frozen 2
                  have b53 := hRw5.cell 3
                  have d53 := hRw5.frozen 3
                  have b54 := hRw5.cell 4
                  have d54 := hRw5.frozen 4
                  simp at b50 b51 b52 b53 b54
                  refine wpAnyH_one (i := 12) rfl (by kernel_rfl) (by kernel_rfl) (fun KK hKK => ?_)
                  go_simp
                  have hS9 := five (holds_else5 hEw5 (.int .i64 (K : Int)) (.int .i64 id) (.string key) (.string nm) (.slice a1 n1 cp1) hneE)
                  refine hKK _ _ hS9 ?_
                  clear hKK KK
                  try simp only [Act.put, List.setIfInBounds_toArray, List.set_cons_zero, List.set_cons_succ]
                  refine wpAnyH_take (i := 13) (v := (.bool false)) rfl (by kernel_rfl) (by kernel_rfl) (by kernel_rfl) (fun _ _ _ h => h) (.inl ⟨by kernel_rfl, fun w' _ => by kernel_rfl⟩) hS9 ?_
                  try simp only [Act.put, List.setIfInBounds_toArray, List.set_cons_zero, List.set_cons_succ]
                  refine wpAnyH_done (by kernel_rfl) ?_ _
                  refine NoPanic.normal ?_
                  go_wp2_with fail
                  obtain ⟨cur', qh, _, _, q0, q1, q2, q3, q4⟩ := hRw5.set5 0 (.int .i64 (K : Int)) (.int .i64 id) (.string key) (.string nm) (.slice a1 n1 cp1) (by simp)
                  have c0 := (qh.cell 0).trans q0
                  have c1 := (qh.cell (0 + 1)).trans q1
                  have c2 := (qh.cell (0 + 2)).trans q2
                  have c3 := (qh.cell (0 + 3)).trans q3
                  have c4 := (qh.cell (0 + 4)).trans q4
                  simp only [Nat.zero_add] at c0 c1 c2 c3 c4
                  refine bodyPost_ret (v := .tuple #[.agg #[.int .i64 (K : Int), .int .i64 id, .string key, .string nm, .slice a1 n1 cp1], (.bool false)]) ?_ rfl ?_
                  · simp [results, Tryz.results10, go_sem, c0, c1, c2, c3, c4]
                  · exact ⟨_, _, _, _, _, _, _, false, rfl, below_set5 (bcall HBWr.out.drew HBWr.out.size hw5) (Nat.le_refl _) 0 _ _ _ _ _, (fun h => by cases h), fun _ => HF.out⟩
              · have ho : o = false := by simpa using ho
                subst ho
                have HP : Hid (parse ps = none) := HAF.out.bad
                clear hgo hbd
                by_cases hqq : q < ps.length
                all_goals
                  go_wp2_with fail
                  go_region
                  all_goals
                    go_wp2_with fail
                    obtain ⟨cur', qh, _, _, q0, q1, q2, q3, q4⟩ := HRr.out.set5 0 (.int .i64 (K : Int)) (.int .i64 id) (.string key) (.string nm) (.slice a1 n1 cp1) (by simp)
                    have c0 := (qh.cell 0).trans q0
                    have c1 := (qh.cell (0 + 1)).trans q1
                    have c2 := (qh.cell (0 + 2)).trans q2
                    have c3 := (qh.cell (0 + 3)).trans q3
                    have c4 := (qh.cell (0 + 4)).trans q4
                    simp only [Nat.zero_add] at c0 c1 c2 c3 c4
                    refine bodyPost_ret (v := .tuple #[.agg #[.int .i64 (K : Int), .int .i64 id, .string key, .string nm, .slice a1 n1 cp1], .bool false]) ?_ rfl ?_
                    · simp [results, Tryz.results10, go_sem, c0, c1, c2, c3, c4]
                    · exact ⟨_, _, _, _, _, _, _, false, rfl, (below_set5 HBWr.out (Nat.le_refl _) 0 _ _ _ _ _).drew, (fun h => by cases h), fun _ => parse_none HPS.out HP.out⟩
end Go.Proofs.YtbngjpnbjknliaaGreatDoor
