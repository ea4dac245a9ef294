/- The program's own words of a rule. -/
import Derived.Test.YtkemfifkjaclhaaGreatDoorJ22
namespace Go.Proofs.YtkemfifkjaclhaaGreatDoor
set_option linter.unusedVariables false
set_option linter.unusedSimpArgs false
open Go.RowKit Go

/-- The cells of a rule in a box of its own, still there. -/
def BoxS (w : World) (r : Rul) (s : Value) (w' : World) : Prop := w'.cell? ⟨w.heap.size, 0, none⟩ = some (.int .i64 r.ev) ∧ w'.cell? ⟨w.heap.size, 1, none⟩ = some (.int .i64 r.at_) ∧ w'.cell? ⟨w.heap.size, 2, none⟩ = some (.int .i64 r.fr) ∧ w'.cell? ⟨w.heap.size, 3, none⟩ = some (.int .i64 r.to_) ∧ Below (w.heap.size + 1) (w.alloc (.cells #[.int .i64 r.ev, .int .i64 r.at_, .int .i64 r.fr, .int .i64 r.to_, s] 50)) w'
theorem BoxS.of {w : World} {r : Rul} {s : Value} {w' : World} (h : Below (w.heap.size + 1) (w.alloc (.cells #[.int .i64 r.ev, .int .i64 r.at_, .int .i64 r.fr, .int .i64 r.to_, s] 50)) w') : BoxS w r s w' := by
  obtain ⟨c0, c1, c2, c3, c4⟩ := box5 h
  exact ⟨c0, c1, c2, c3, h⟩
theorem BoxS.step {w : World} {r : Rul} {s : Value} {V V' : World} (h : BoxS w r s V) (hb : Below V.heap.size V V') : BoxS w r s V' := BoxS.of (bcall h.2.2.2.2 (by have := h.2.2.2.2.size; simpa using this) hb)

theorem tabS {w : World} {r : Rul} {s : Value} {V : World} (ht : Tab w) (h : BoxS w r s V) : Tab V := ht.below (unbox h.2.2.2.2)

set_option maxRecDepth 100000 in
set_option maxHeartbeats 4000000 in
theorem ruleWords (r : Rul) (a : Option Addr) (len cap : Nat) (w : World) (hr : IsRow .i64 w a len cap r.but) (ht : Tab w) (hw : (Lit.int .i64 r.ev).wf = true ∧ (Lit.int .i64 r.at_).wf = true ∧ (Lit.int .i64 r.fr).wf = true ∧ (Lit.int .i64 r.to_).wf = true) (hl : len ≤ 1048576) :
    Calls Tryz.prog 23 #[.agg #[.int .i64 r.ev, .int .i64 r.at_, .int .i64 r.fr, .int .i64 r.to_, .slice a len cap]] w fun e w' => ∃ v n, e = .returned v ∧ w'.ownsRow w.heap.size 9 1 v n (sv (evB :: rwW r)) ∧ Below w.heap.size w w' := by
  obtain ⟨hz, hm⟩ := hr.len
  have HT : Hid (Tab w) := ht
  have HI : Hid (∀ n w, (Lit.int .i64 n).wf = true → Tab w → Calls Tryz.prog 39 #[.int .i64 n] w fun e w' => e = .returned (.string (itoB n)) ∧ Below w.heap.size w w') := fun n w h ht => itoa n h w ht
  have HNW : Hid (∀ w', Below w.heap.size w w' → Calls Tryz.prog 40 #[.slice a len cap] w' fun e w'' => ∃ v, e = .returned v ∧ Row w'' v (sv (numS r.but)) ∧ Below w'.heap.size w' w'') := fun w' hb => numWords a len cap r.but w' (hr.below hb) (ht.below hb) hl
  obtain ⟨g1, g2, g3, g4⟩ := hw
  clear hr ht hm
  go_enter Tryz.func23, Tryz.ntmps23
  go_upto_region 1 with fail
  go_cut [3] (fun t3 wx => ∃ b, t3 = .slice (some ⟨b, 0, none⟩) 8 8 ∧ wx.ownsRow (w.heap.size + 1) 9 1 (.slice (some ⟨b, 0, none⟩) 8 8) 8 (sv (evB :: headW r)) ∧ Below (w.heap.size + 1) (w.alloc (.cells #[.int .i64 r.ev, .int .i64 r.at_, .int .i64 r.fr, .int .i64 r.to_, .slice a len cap] 50)) wx)
  case first =>
    clear HNW
    go_region_held3 (fun w' => w'.cell? ⟨w.heap.size, 0, none⟩ = some (.int .i64 r.ev) ∧ w'.cell? ⟨w.heap.size, 1, none⟩ = some (.int .i64 r.at_) ∧ w'.cell? ⟨w.heap.size, 2, none⟩ = some (.int .i64 r.fr) ∧ w'.cell? ⟨w.heap.size, 3, none⟩ = some (.int .i64 r.to_) ∧ Below (w.heap.size + 1) (w.alloc (.cells #[.int .i64 r.ev, .int .i64 r.at_, .int .i64 r.fr, .int .i64 r.to_, .slice a len cap] 50)) w')
      (first | exact BoxS.of (Below.refl _ _).drew | exact BoxS.of (Below.refl _ _) | exact hSn | exact BoxS.step hSn ((Below.refl _ _).alloc (Nat.le_refl _) _))
      (first | (go_at_call 39; refine (HI.out _ _ (by assumption) ?_).mono ?_; (exact tabS (r := r) (s := .slice a len cap) HT.out (by assumption)); rintro e wn ⟨rfl, hwn⟩; have hSn : BoxS w r (.slice a len cap) wn := BoxS.step (by assumption) hwn))
    all_goals
      have hS : BoxS w r (.slice a len cap) wn := hSn
      have hsz : w.heap.size + 1 ≤ wn.heap.size := by have := hS.2.2.2.2.size; simpa using this
      go_wp2_with fail
      go_meet
      case rel => exact ⟨_, rfl, World.ownsRow_lit wn #[.string evB, .string (itoB r.ev), .string atB, .string (itoB r.at_), .string frB, .string (itoB r.fr), .string toB, .string (itoB r.to_)] 8 hsz (by unfold maxLen; omega) rfl, hS.2.2.2.2.alloc hsz _⟩
  case rest =>
    obtain ⟨b, rfl, hown, hB⟩ := hcut
    rename World => wc
    obtain ⟨c0, c1, c2, c3, c4⟩ := box5 hB
    have hsz : w.heap.size + 1 ≤ wc.heap.size := by have := hB.size; simpa using this
    have HOWN : Hid _ := hown
    have HB : Hid _ := hB
    clear hown hB c0 c1 c2 c3 HI g1 g2 g3 g4
    by_cases h0 : 0 < len
    · have hne : r.but ≠ [] := fun h => by rw [h] at hz; simp at hz; omega
      have HW : Hid (evB :: rwW r = (evB :: headW r ++ [butB]) ++ numS r.but) := by show _ = _; unfold rwW butWs; rw [if_neg hne]; simp
      have h0' : (0 : Int) < (len : Int) := by omega
      go_wp2_with first
        | (go_at_call 40; refine (HNW.out _ hb4).mono ?_; rintro e w5 ⟨v5, rfl, hrow5, hw5⟩; have hown5 := own_below hown4 hw5; have hb5 := bcall hb4 hb4.size hw5; have hs5 := hw5.size)
        | (at_builtin; first
            | (refine wp_app_strs rfl _ _ rfl (w.heap.size + 1) _ _ 8 (evB :: headW r) [butB] rfl (own_below HOWN.out ((Below.refl _ _).alloc (Nat.le_refl _) _)) rfl (by exact Row.made wc [.string butB] 9 (by unfold maxLen; simp)) (by simp) (by simp; omega) ?_; intro v4 w4 hown4 hg4 hgr4; have hB4 := (HB.out.alloc hsz (.cells #[.string butB] 9)).trans hg4; obtain ⟨d0, d1, d2, d3, d4⟩ := box5 hB4; have hb4 := unbox hB4; have hs4 : w.heap.size + 1 ≤ w4.heap.size := by (have := hB4.size; simpa using this))
            | (refine wp_app_strs rfl _ _ rfl (w.heap.size + 1) _ _ 9 (evB :: headW r ++ [butB]) (numS r.but) rfl hown5 rfl hrow5 (by rw [numS_len]; omega) (by omega) ?_; intro v6 w6 hown6 hg6 hgr6))
      go_ret
      exact ⟨_, _, rfl, by rw [HW.out]; exact own_less hown6 (Nat.le_succ _), hb5.trans (hg6.mono (Nat.le_succ _))⟩
    · have hne : r.but = [] := List.length_eq_zero_iff.1 (by omega)
      have HW : Hid (evB :: rwW r = (evB :: headW r) ++ numS r.but) := by show _ = _; unfold rwW butWs; rw [if_pos hne]; simp
      have h0' : ¬ (0 : Int) < (len : Int) := by omega
      have hb4 := unbox HB.out
      go_wp2_with first
        | (go_at_call 40; refine (HNW.out _ hb4).mono ?_; rintro e w5 ⟨v5, rfl, hrow5, hw5⟩; have hown5 := own_below HOWN.out hw5; have hb5 := bcall hb4 hb4.size hw5; have hs5 := hw5.size)
        | (at_builtin; refine wp_app_strs rfl _ _ rfl (w.heap.size + 1) _ _ 8 (evB :: headW r) (numS r.but) rfl hown5 rfl hrow5 (by rw [numS_len]; omega) (by omega) ?_; intro v6 w6 hown6 hg6 hgr6)
      go_ret
      exact ⟨_, _, rfl, by rw [HW.out]; exact own_less hown6 (Nat.le_succ _), hb5.trans (hg6.mono (Nat.le_succ _))⟩
end Go.Proofs.YtkemfifkjaclhaaGreatDoor
