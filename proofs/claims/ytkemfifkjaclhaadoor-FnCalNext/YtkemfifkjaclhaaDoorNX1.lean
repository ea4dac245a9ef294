/- The next time of a calendar is the next one, and what is counted is what is due: the law of FnCalNext. -/
import Derived.Test.YtkemfifkjaclhaaDoorDR8
import Derived.Test.YtkemfifkjaclhaaDoorCI5
import Derived.Test.YtkemfifkjaclhaaDoorCA6
import Derived.Test.YtkemfifkjaclhaaDoorCI11
namespace Go.Proofs.YtkemfifkjaclhaaDoor
set_option linter.unusedVariables false
set_option linter.unusedSimpArgs false
open Go.RowKit Go

theorem cnt_step (rs : List Rul) (lo : Int) : ∀ k : Nat, cntTo rs lo k = cntTo rs (lo + 1) k + (if lo + 1 < (k : Int) ∧ calDue rs (lo + 1) = true then 1 else 0)
  | 0 => by
    have h0 : ¬ (lo + 1 < ((0 : Nat) : Int) ∧ calDue rs (lo + 1) = true) := fun h => by have := (due_bd h.2).1; omega
    rw [if_neg h0]; rfl
  | k + 1 => by
    have ih := cnt_step rs lo k
    show cntTo rs lo k + _ = cntTo rs (lo + 1) k + _ + _
    rw [ih]
    by_cases e : lo + 1 = (k : Int)
    · have h1 : ¬ (lo + 1 < (k : Int) ∧ calDue rs (lo + 1) = true) := fun h => by omega
      have h2 : ¬ (lo + 1 < (k : Int) ∧ calDue rs k = true) := fun h => by omega
      rw [if_neg h1, if_neg h2]
      by_cases hd : calDue rs (lo + 1) = true
      · rw [if_pos ⟨by omega, e ▸ hd⟩, if_pos ⟨by omega, hd⟩]
      · rw [if_neg (fun h => hd (e ▸ h.2)), if_neg (fun h => hd h.2)]
    · have a1 : (lo < (k : Int) ∧ calDue rs k = true) ↔ (lo + 1 < (k : Int) ∧ calDue rs k = true) := ⟨fun h => ⟨by omega, h.2⟩, fun h => ⟨by omega, h.2⟩⟩
      have a2 : (lo + 1 < (k : Int) ∧ calDue rs (lo + 1) = true) ↔ (lo + 1 < ((k + 1 : Nat) : Int) ∧ calDue rs (lo + 1) = true) := ⟨fun h => ⟨by omega, h.2⟩, fun h => ⟨by omega, h.2⟩⟩
      simp only [a1, a2]
      omega
theorem count_step (rs : List Rul) {lo hi : Int} (h : lo + 1 ≤ hi) : calCount rs lo hi = calCount rs (lo + 1) hi + (if calDue rs (lo + 1) = true then 1 else 0) := by
  unfold calCount
  rw [cnt_step rs lo]
  by_cases hd : calDue rs (lo + 1) = true
  · have := (due_bd hd).1
    rw [if_pos ⟨by omega, hd⟩, if_pos hd]; omega
  · rw [if_neg (fun h => hd h.2), if_neg hd]; omega
theorem count_bd (rs : List Rul) {lo hi : Int} (h : hi ≤ 194) : 0 ≤ calCount rs lo hi ∧ calCount rs lo hi ≤ 200 := by
  unfold calCount
  have := cnt_le rs lo (hi + 1).toNat
  omega
theorem next_due {rs : List Rul} {t : Int} (h : 0 ≤ calNext rs t) : calDue rs (calNext rs t) = true ∧ t < calNext rs t := by
  rcases next_is rs t with ⟨h1, _⟩ | ⟨h1, h2, _⟩
  · omega
  · exact ⟨h1, h2⟩
theorem next_not {rs : List Rul} {t u : Int} (h1 : t < u) (h2 : u < calNext rs t) : calDue rs u = false := by
  rcases next_is rs t with ⟨_, h3⟩ | ⟨_, _, h3⟩
  · simpa using h3 u h1
  · simpa using h3 u h1 h2

set_option maxRecDepth 4000 in
set_option maxHeartbeats 4000000 in
theorem lawCalNextD (a : Option Addr) (l c : Nat) (bs : List Int) (a2 : Option Addr) (l2 c2 : Nat) (bs2 : List Int) (w : World) (h : IsRow .u8 w a l c bs) (h2 : IsRow .u8 w a2 l2 c2 bs2) (hE : ErrT w) :
    Calls Tryd.prog 3 #[.slice a l c, .slice a2 l2 c2] w fun e w' => e = .returned (.bool true) ∧ Below w.heap.size w w' := by
  have hl := h.len.2
  have hl2 := h2.len.2
  unfold maxLen at hl hl2
  by_cases hb1 : 1048576 < l
  · have d1 : decide ((1048576 : Int) < (l : Int)) = true := decide_eq_true (by omega)
    clear h h2
    go_enter Tryd.func3, Tryd.ntmps3
    go_wp2_with fail
    go_ret
    exact ⟨rfl, Below.refl _ _⟩
  have d1 : decide ((1048576 : Int) < (l : Int)) = false := decide_eq_false (by omega)
  by_cases hb2 : 1048576 < l2
  · have d2 : decide ((1048576 : Int) < (l2 : Int)) = true := decide_eq_true (by omega)
    clear h h2
    go_enter Tryd.func3, Tryd.ntmps3
    go_wp2_with fail
    go_ret
    exact ⟨rfl, Below.refl _ _⟩
  have d2 : decide ((1048576 : Int) < (l2 : Int)) = false := decide_eq_false (by omega)
  have HD : Hid (Calls Tryd.prog 5 #[.slice a l c] w fun e w' => Dr.Drawn w e w') := Dr.dDrawCalNext a l c bs w h
  have HD2 : Hid (∀ W, Below w.heap.size w W → Calls Tryd.prog 10 #[.slice a2 l2 c2] W fun e w' => Dr.Drawn2 W e w') := fun W hb => Dr.dDrawCalCount a2 l2 c2 bs2 W (h2.below hb)
  have HE : Hid (∀ W, Below w.heap.size w W → ErrT W) := fun W hb => hE.below hb
  clear h h2 hE
  go_enter Tryd.func3, Tryd.ntmps3
  go_wp2_with fail
  refine Calls.mono HD.out ?_
  rintro e w1 ⟨rs, av, cv, t, rfl, hru, hn6, ht1, ht2, hbw⟩
  have B1 : Hid (Below w.heap.size w w1) := hbw
  have RU : Hid (∀ W, Below w1.heap.size w1 W → IsRuls W av rs.length cv rs) := fun W hb => hru.below hb
  have EE : Hid (∀ W, Below w1.heap.size w1 W → ErrT W) := fun W hb => HE.out W (bcall B1.out B1.out.size hb)
  clear hru hbw HD
  have IN : Hid (∀ W, Below w1.heap.size w1 W → Calls Tryd.prog 6 #[.slice av rs.length cv, .int .i64 t] W fun e w' => e = .returned (.int .i64 (calNext rs t)) ∧ Below W.heap.size W w') := fun W hb => implCalNext av rs.length cv rs t (by omega) W (RU.out W hb) (EE.out W hb)
  have SN : Hid (∀ W, Below w1.heap.size w1 W → Calls Tryd.prog 7 #[.slice av rs.length cv, .int .i64 t] W fun e w' => e = .returned (.int .i64 (calNext rs t)) ∧ Below W.heap.size W w') := fun W hb => specCalNext av rs.length cv rs t W (RU.out W hb)
  have ID : Hid (∀ u W, Below w1.heap.size w1 W → Calls Tryd.prog 8 #[.slice av rs.length cv, .int .i64 u] W fun e w' => e = .returned (.bool (calDue rs u)) ∧ Below W.heap.size W w') := fun u W hb => implCalDue av rs.length cv rs u W (RU.out W hb) (EE.out W hb)
  have SD : Hid (∀ u W, Below w1.heap.size w1 W → Calls Tryd.prog 9 #[.slice av rs.length cv, .int .i64 u] W fun e w' => e = .returned (.bool (calDue rs u)) ∧ Below W.heap.size W w') := fun u W hb => specCalDue av rs.length cv rs u W (RU.out W hb)
  have hbd := next_bd rs t
  have ND : Hid (0 ≤ calNext rs t → calDue rs (calNext rs t) = true) := fun h => (next_due h).1
  have NN : Hid (∀ u, t < u → u < calNext rs t → calDue rs u = false) := fun u h1 h2 => next_not h1 h2
  generalize calNext rs t = n at IN SN hbd ND NN
  go_wp2_with fail
  refine (IN.out _ (Below.refl _ _)).mono ?_
  rintro e w2 ⟨rfl, hb2'⟩
  have B2 : Hid (Below w1.heap.size w1 w2) := hb2'
  clear hb2' IN
  go_wp2_with fail
  refine (SN.out _ B2.out).mono ?_
  rintro e w3 ⟨rfl, hb3⟩
  have B3 : Hid (Below w1.heap.size w1 w3) := bcall B2.out B2.out.size hb3
  clear hb3 B2 SN
  go_wp2_with fail
  refine (ID.out t _ B3.out).mono ?_
  rintro e w4 ⟨rfl, hb4⟩
  have B4 : Hid (Below w1.heap.size w1 w4) := bcall B3.out B3.out.size hb4
  clear hb4 B3
  go_wp2_with fail
  refine (SD.out t _ B4.out).mono ?_
  rintro e w5 ⟨rfl, hb5⟩
  have B5 : Hid (Below w1.heap.size w1 w5) := bcall B4.out B4.out.size hb5
  clear hb5 B4
  generalize calDue rs t = dt
  go_upto_region 7 with fail
  go_cut [56] (fun c wx => c = .bool false ∧ Below w1.heap.size w1 wx)
  case first =>
    rcases (show 0 ≤ n ∨ n < 0 by omega) with h0 | h0
    · have e := ND.out h0
      have hlt := hbd.2.2 h0
      go_wp2_with fail
      refine (ID.out n _ B5.out).mono ?_
      rintro e w6 ⟨rfl, hb6⟩
      have B6 : Hid (Below w1.heap.size w1 w6) := bcall B5.out B5.out.size hb6
      clear hb6
      rw [ND.out h0]
      go_wp2_with fail
      go_meet
      case rel => exact ⟨by rw [decide_eq_false (by omega)], B6.out⟩
    · go_wp2_with fail
      go_meet
      case rel => exact ⟨rfl, B5.out⟩
  case rest =>
    obtain ⟨rfl, hB⟩ := hcut
    rename World => wc
    have B6 : Hid (Below w1.heap.size w1 wc) := hB
    clear hB B5
    have hw1 : IntKind.i64.wrap (t + 1) = t + 1 := by rw [IntKind.wrap_i64]; omega
    have hw2 : IntKind.i64.wrap (t + 200) = t + 200 := by rw [IntKind.wrap_i64]; omega
    go_upto_block 0 with fail
    go_cut [] (fun wx => Below w1.heap.size w1 wx)
    case first =>
      go_wp2_with fail
      go_loopw [8] (fun i wr => ∃ u : Int, i = .int .i64 u ∧ t + 1 ≤ u ∧ u ≤ t + 201 ∧ Below w1.heap.size w1 wr) (fun i _ => (t + 202 - intOf i).toNat)
      case atStart => exact ⟨t + 1, rfl, by omega, by omega, B6.out⟩
      case round =>
        obtain ⟨u, rfl, hu1, hu2, hB⟩ := hrel
        have HB : Hid _ := hB
        clear hB
        have hwu : IntKind.i64.wrap (u + 1) = u + 1 := by rw [IntKind.wrap_i64]; omega
        by_cases c1 : u < n
        · by_cases c2 : u < t + 200
          · by_cases c3 : -1 ≤ t
            · go_wp2_with fail
              refine (ID.out u _ HB.out).mono ?_
              rintro e w7 ⟨rfl, hb7⟩
              have B7 : Hid (Below w1.heap.size w1 w7) := bcall HB.out HB.out.size hb7
              clear hb7
              rw [NN.out u (by omega) c1]
              go_wp2_with fail
              go_roundw
              case rel => exact ⟨u + 1, by go_num, by omega, by omega, B7.out⟩
              case measure => simp [intOf]; omega
            · go_wp2_with fail
              go_meet
              case rel => exact HB.out
          · go_wp2_with fail
            go_meet
            case rel => exact HB.out
        · go_wp2_with fail
          go_meet
          case rel => exact HB.out
    case rest =>
      rename World => wd
      have B8 : Hid (Below w1.heap.size w1 wd) := hcut
      clear hcut B6
      have BD : Hid (Below w.heap.size w wd) := bcall B1.out B1.out.size B8.out
      go_wp2_with fail
      refine (HD2.out _ BD.out).mono ?_
      rintro e x1 ⟨qs, aq, cq, f, tt, rfl, hrq, hq6, hf, htt, hbx⟩
      have BX : Hid (Below w.heap.size w x1) := bcall BD.out BD.out.size hbx
      have RQ : Hid (∀ W, Below x1.heap.size x1 W → IsRuls W aq qs.length cq qs) := fun W hb => hrq.below hb
      have EQ : Hid (∀ W, Below x1.heap.size x1 W → ErrT W) := fun W hb => HE.out W (bcall BX.out BX.out.size hb)
      clear hrq hbx HD2 ID SD ND NN B8 BD
      have IC : Hid (Calls Tryd.prog 11 #[.slice aq qs.length cq, .int .i64 f, .int .i64 tt] x1 fun e w' => e = .returned (.int .i64 (calCount qs f tt)) ∧ Below x1.heap.size x1 w') := implCalCount aq qs.length cq qs f tt (by omega) x1 (RQ.out _ (Below.refl _ _)) (EQ.out _ (Below.refl _ _))
      have SC : Hid (∀ W, Below x1.heap.size x1 W → Calls Tryd.prog 12 #[.slice aq qs.length cq, .int .i64 f, .int .i64 tt] W fun e w' => e = .returned (.int .i64 (calCount qs f tt)) ∧ Below W.heap.size W w') := fun W hb => specCalCount aq qs.length cq qs f tt W (RQ.out W hb)
      have SD : Hid (∀ u W, Below x1.heap.size x1 W → Calls Tryd.prog 9 #[.slice aq qs.length cq, .int .i64 u] W fun e w' => e = .returned (.bool (calDue qs u)) ∧ Below W.heap.size W w') := fun u W hb => specCalDue aq qs.length cq qs u W (RQ.out W hb)
      have CB : Hid (∀ lo, 0 ≤ calCount qs lo tt ∧ calCount qs lo tt ≤ 200) := fun lo => count_bd qs (by omega)
      have CS : Hid (∀ lo, lo + 1 ≤ tt → calCount qs lo tt = calCount qs (lo + 1) tt + (if calDue qs (lo + 1) = true then 1 else 0)) := fun lo h => count_step qs h
      have CL : Hid (∀ lo, tt ≤ lo → calCount qs lo tt = 0) := fun lo h => count_low qs h
      have hwf : IntKind.i64.wrap (f + 1) = f + 1 := by rw [IntKind.wrap_i64]; omega
      go_wp2_with fail
      refine Calls.mono IC.out ?_
      rintro e x2 ⟨rfl, hb2'⟩
      have X2 : Hid (Below x1.heap.size x1 x2) := hb2'
      clear hb2' IC
      obtain ⟨kc, hkc⟩ : ∃ kc, Hid (kc = calCount qs f tt) := ⟨_, rfl⟩
      rw [← hkc.out] at SC ⊢
      go_wp2_with fail
      refine (SC.out _ X2.out).mono ?_
      rintro e x3 ⟨rfl, hb3⟩
      have X3 : Hid (Below x1.heap.size x1 x3) := bcall X2.out X2.out.size hb3
      clear hb3 X2 SC
      go_wp2_with fail
      go_loopw [12, 13] (fun kk ii wr => ∃ u : Int, ii = .int .i64 (u + 1) ∧ f ≤ u ∧ (u ≤ tt ∨ u = f) ∧ kk = .int .i64 (calCount qs u tt) ∧ Below x1.heap.size x1 wr) (fun _ ii _ => (tt + 2 - intOf ii).toNat)
      case atStart => exact ⟨f, rfl, by omega, by omega, by rw [hkc.out], X3.out⟩
      case round =>
        obtain ⟨u, rfl, hu1, hu2, rfl, hB⟩ := hrel
        have HB : Hid _ := hB
        clear hB X3
        have hwu : IntKind.i64.wrap (u + 1 + 1) = u + 1 + 1 := by rw [IntKind.wrap_i64]; omega
        by_cases c1 : u + 1 ≤ tt
        · have hs := CS.out u c1
          have hcb := CB.out u
          have hcb2 := CB.out (u + 1)
          have HN : Hid (∀ lo, lo = u + 1 → calCount qs lo tt = calCount qs (u + 1) tt) := fun lo e => by rw [e]
          generalize calCount qs u tt = ku at hs hcb
          generalize calCount qs (u + 1) tt = kv at hs hcb2 HN
          have hwk : IntKind.i64.wrap (ku - 1) = ku - 1 := by rw [IntKind.wrap_i64]; omega
          go_wp2_with fail
          refine (SD.out (u + 1) _ HB.out).mono ?_
          rintro e x4 ⟨rfl, hb4⟩
          have X4 : Hid (Below x1.heap.size x1 x4) := bcall HB.out HB.out.size hb4
          clear hb4
          cases hd : calDue qs (u + 1)
          · rw [hd] at hs
            replace hs : ku = kv := by simpa using hs
            have HS : Hid (ku = kv) := hs
            clear hs hcb hcb2 hwk hd
            go_wp2_with fail
            go_roundw
            case rel => exact ⟨u + 1, by go_num, by omega, by omega, (by rw [HN.out _ rfl, HS.out]), X4.out⟩
            case measure => simp [intOf]; omega
          · rw [hd] at hs
            replace hs : ku = kv + 1 := by simpa using hs
            have HS2 : Hid (ku - 1 = kv) := by show _ = _; omega
            clear hs hcb2 hd
            go_wp2_with fail
            go_roundw
            case rel => exact ⟨u + 1, by go_num, by omega, by omega, (by rw [HN.out _ rfl, ← HS2.out]), X4.out⟩
            case measure => simp [intOf]; omega
        · have h0 := CL.out u (by omega)
          rw [h0]
          go_wp2_with fail
          go_ret
          exact ⟨rfl, bcall BX.out BX.out.size HB.out⟩
end Go.Proofs.YtkemfifkjaclhaaDoor
