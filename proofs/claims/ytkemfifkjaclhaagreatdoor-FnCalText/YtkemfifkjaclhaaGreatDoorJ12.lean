/- The model's calendars: which are ok. -/
import Derived.Test.YtkemfifkjaclhaaGreatDoorJ11
import Derived.Test.YtkemfifkjaclhaaGreatDoorJ2
import Derived.Lib.ItoaNum
import Derived.Lib.ItoaLen
import Derived.Laws.IdiomStrings
import Derived.Test.YtkemfifkjaclhaaGreatDoorJ3
import Derived.BigQuiet
import Derived.Deep.QuietTactic
import Derived.Deep.RegionWith
import Derived.BigGuard
import Derived.BigRegion
namespace Go.Proofs.YtkemfifkjaclhaaGreatDoor
set_option linter.unusedVariables false
set_option linter.unusedSimpArgs false
open Go.RowKit Go
namespace Dr

/-- Drawn rules, as they are read afterwards. -/
def AnyPosted (R F : Nat) (a : Option Addr) (len cap : Nat) (bs : List Int) (p : Int) (w : World) (e : Ending) (w' : World) : Prop :=
  ∃ (rs : List Rul) (v : Value) (p' : Int), e = .returned v ∧ GathD w' R F v rs ∧ rs.length ≤ 6 ∧ Rd w' R a len cap bs p' ∧ p ≤ p' ∧ p' ≤ p + 120 ∧ Keeps R w w'
theorem acc_base {w : World} {F F' : Nat} {e : TypeId} {size : Nat} {v : Value} {n : Nat} {xs : List Value} (h : Acc w F e size v n xs) (hF : F' ≤ F) : Acc w F' e size v n xs := by
  rcases h with h | ⟨h1, h2⟩
  · exact .inl h
  · refine .inr ⟨h1, ?_⟩
    rcases h2 with h2 | ⟨g, cap, cur, e, h3, h4⟩
    · exact .inl h2
    · exact .inr ⟨g, cap, cur, e, Nat.le_trans hF h3, h4⟩
theorem GathD.base {w : World} {R F F' : Nat} {v : Value} {es : List Rul} (h : GathD w R F v es) (hF : F' ≤ F) : GathD w R F' v es := by
  obtain ⟨vs, hv, h1, h2⟩ := h
  exact ⟨vs, hv, acc_base h1 hF, h2⟩

set_option maxRecDepth 4000 in
theorem l43Any (R : Nat) (a : Option Addr) (len cap : Nat) (bs : List Int) (p : Int) (w : World) (h : Rd w R a len cap bs p) (hp : p ≤ 999999000) :
    Calls Tryz.prog 25 #[.pointer (some ⟨R, 0, none⟩)] w fun e w' => AnyPosted R w.heap.size a len cap bs p w e w' := by
  have HQ : Hid (Calls Tryz.prog 14 #[.pointer (some ⟨R, 0, none⟩)] w fun e w' => RulesPosted R a len cap bs p w e w') := l43Rules R a len cap bs p w h (by omega)
  have hlt := h.lt
  go_enter Tryz.func25, Tryz.ntmps25
  go_wp2_with fail
  refine Calls.mono HQ.out ?_
  rintro e w1 ⟨rs, v, p1, rfl, hD, hsm, hn1, hn3, hr1, hp1, hp2, hk1⟩
  have D1 : Hid (GathD w1 R w.heap.size v rs) := hD
  have R1 : Hid _ := hr1
  have K1 : Hid (Keeps R w w1) := hk1
  have SM : Hid (∀ r ∈ rs, SmallR r) := hsm
  have HP : Hid (Calls Tryz.prog 15 #[.pointer (some ⟨R, 0, none⟩), .int .i64 20] w1 fun e w' => (∃ v : Int, e = .returned (.int .i64 v) ∧ Picked 20 v) ∧ Rd w' R a len cap bs (p1 + 1) ∧ Keeps R w1 w') := pick R a len cap bs p1 20 w1 hr1 (by omega) (by omega)
  obtain ⟨av, cv, rfl, _⟩ := Cal.gathM_ruls hD.gath
  clear hD hr1 hk1 hsm HQ h
  go_wp2_with fail
  refine Calls.mono HP.out ?_
  rintro e w2 ⟨⟨x, rfl, hx1, hx2, _⟩, hr2, hk2⟩
  have D2 : Hid (GathD w2 R w.heap.size (.slice av rs.length cv) rs) := GathD.keeps D1.out hk2 hlt
  have R2 : Hid _ := hr2
  have K2 : Hid (Keeps R w w2) := K1.out.trans hk2
  obtain ⟨av', cv', hf, hru⟩ := Cal.gathM_ruls D2.out.gath
  simp only [Value.slice.injEq, true_and] at hf
  obtain ⟨rfl, rfl⟩ := hf
  have HS : Hid (Calls Tryz.prog 45 #[.pointer (some ⟨R, 0, none⟩), .slice av rs.length cv] w2 fun e w' => Spoilt R a len cap bs (p1 + 1) w2 e w') := l43Spoil R a len cap bs (p1 + 1) av rs.length cv rs w2 hr2 (by omega) hru hn1 hn3 SM.out
  clear hr2 hk2 hru HP
  by_cases h0 : x = 0
  · subst h0
    go_wp2_with fail
    refine Calls.mono HS.out ?_
    rintro e w3 ⟨rs3, v3, p3, rfl, hD3, hn, hr3, hq1, hq2, hk3⟩
    have HF : Hid _ := And.intro hD3 (And.intro hr3 hk3)
    clear hD3 hr3 hk3
    have hs2 := K2.out.size
    go_wp2_with fail
    go_ret
    exact ⟨rs3, v3, p3, rfl, GathD.base HF.out.1 hs2, hn, HF.out.2.1, by omega, by omega, K2.out.trans HF.out.2.2⟩
  · go_wp2_with fail
    go_ret
    exact ⟨rs, _, p1 + 1, rfl, D2.out, by omega, R2.out, by omega, by omega, K2.out⟩
theorem keeps_below {R : Nat} {w w1 w2 : World} (h : Below w.heap.size w w1) (hk : Keeps R w1 w2) (hR : w.heap.size ≤ R) : Below w.heap.size w w2 := h.trans (hk.below hR h.size)
end Dr
end Go.Proofs.YtkemfifkjaclhaaGreatDoor

namespace Go.Proofs.YtkemfifkjaclhaaGreatDoor
set_option linter.unusedVariables false
set_option linter.unusedSimpArgs false
open Go.RowKit Go

/-- A figure. -/
def digC (u : Nat) : UInt8 := UInt8.ofNat (48 + u)
/-- Decimals, as a string. -/
def decB (u : Nat) : ByteArray := ⟨(Lib.decDigits u).toArray⟩
theorem decB_small {u : Nat} (h : u < 10) : decB u = ⟨#[digC u]⟩ := by unfold decB; rw [Lib.decDigits, dif_pos h]; rfl
theorem decB_more {u : Nat} (h : ¬ u < 10) : decB u = decB (u / 10) ++ ⟨#[digC (u % 10)]⟩ := by
  unfold decB; rw [Lib.decDigits, dif_neg h]; ext1; simp [digC]

theorem decB_size (u : Nat) (h : u ≤ 9223372036854775807) : (decB u).size ≤ 21 := by
  have := Lib.itoa_length_le (u : Int) (by omega) (by omega)
  unfold Lib.itoa at this
  rw [if_neg (by omega)] at this
  simpa [decB, ByteArray.size] using this

/-- string(b) of one byte that lies there. -/
theorem cv_one (w : World) (b : Nat) (c : UInt8) (n : Int) (hn : n = (c.toNat : Int)) (h : w.cell? ⟨b, 0, none⟩ = some (.int .u8 n)) :
    (convert 22 9 (.slice (some ⟨b, 0, none⟩) 1 1)).run Tryz.prog w = .ok (.string ⟨#[c]⟩) w := by
  have := run_convert_bytes_back (P := Tryz.prog) w 22 9 5 ⟨b, 0, none⟩ 1 [c] Tryz.underlying22 Tryz.underlying5 Tryz.underlying9 (fun j hj => by
    have : j = 0 := by simp at hj; omega
    subst this
    rw [Addr.add]; simpa [hn] using h)
  simpa using this
theorem byte_of (u : Nat) (h : u < 10) : ((digC u).toNat : Int) = 48 + (u : Int) := by
  simp [digC]; omega

/-- A number's decimals, as a string. -/
def itoB (n : Int) : ByteArray := ⟨(Lib.itoa n).toArray⟩
theorem itoB_nat (u : Nat) : itoB (u : Int) = decB u := by
  unfold itoB decB Lib.itoa; rw [if_neg (by omega)]; simp
theorem itoB_neg (u : Nat) (h : 1 ≤ u) : itoB (-(u : Int)) = ⟨#[45]⟩ ++ decB u := by
  unfold itoB decB Lib.itoa; rw [if_pos (by omega)]; ext1; simp
theorem itoB_size (n : Int) (h0 : -9223372036854775808 ≤ n) (h1 : n ≤ 9223372036854775807) : (itoB n).size ≤ 21 := by
  have := Lib.itoa_length_le n h0 h1
  simpa [itoB, ByteArray.size] using this

end Go.Proofs.YtkemfifkjaclhaaGreatDoor

namespace Go.Proofs.YtkemfifkjaclhaaGreatDoor
set_option linter.unusedVariables false
set_option linter.unusedSimpArgs false
open Go.RowKit Go

set_option maxHeartbeats 400000 in
theorem l41In (n lo hi : Int) (w : World) :
    Calls Tryz.prog 28 #[.int .i64 n, .int .i64 lo, .int .i64 hi] w fun e w' => e = .returned (.bool (decide (lo ≤ n ∧ n ≤ hi))) ∧ w' = w := by
  by_cases h1 : lo ≤ n
  · by_cases h2 : n ≤ hi
    · rw [decide_eq_true ⟨h1, h2⟩]
      go_enter Tryz.func28, Tryz.ntmps28
      go_wp2
      go_ret
      exact ⟨by simp [h1, h2], rfl⟩
    · rw [decide_eq_false (fun h => h2 h.2)]
      go_enter Tryz.func28, Tryz.ntmps28
      go_wp2
      go_ret
      exact ⟨by first | (simp; done) | (simp; omega), rfl⟩
  · rw [decide_eq_false (fun h => h1 h.1)]
    go_enter Tryz.func28, Tryz.ntmps28
    go_wp2
    go_ret
    exact ⟨by first | (simp; done) | (simp; omega), rfl⟩

theorem quiet_again {P : Program} {f : FuncId} {args : Array Value} {w : World} {m n : Nat} {v : Value} (h : Calls P f args (w.drewN (m + n)) fun e w' => e = .returned v ∧ w' = w.drewN (m + n)) :
    Calls P f args (w.drewN (m + n)) fun e w'' => e = .returned v ∧ ∃ q, w'' = w.drewN (m + q) := h.mono fun _ _ ⟨he, hm⟩ => ⟨he, n, hm⟩
/-- A tick that is left out, at its place. -/
def butAt (l : List Int) (i : Nat) : Prop := 0 ≤ l.getD i 0 ∧ l.getD i 0 ≤ 100000 ∧ (0 < i → l.getD (i - 1) 0 < l.getD i 0)
def RuleOk (r : Rul) : Prop := (1 ≤ r.ev ∧ r.ev ≤ 1000) ∧ (0 ≤ r.at_ ∧ r.at_ ≤ r.ev - 1) ∧ (0 ≤ r.fr ∧ r.fr ≤ 100000) ∧ (r.fr ≤ r.to_ ∧ r.to_ ≤ 100000) ∧ r.but.length ≤ 8 ∧ ∀ i, i < r.but.length → butAt r.but i
instance (l : List Int) (i : Nat) : Decidable (butAt l i) := by unfold butAt; infer_instance
instance (r : Rul) : Decidable (RuleOk r) := by unfold RuleOk; infer_instance
def ruleOk (r : Rul) : Bool := decide (RuleOk r)
theorem ruleOk_no {r : Rul} (h : ¬ RuleOk r) : ruleOk r = false := by unfold ruleOk; exact decide_eq_false h
theorem ruleOk_yes {r : Rul} (h : RuleOk r) : ruleOk r = true := by unfold ruleOk; exact decide_eq_true h

set_option maxRecDepth 4000 in
set_option maxHeartbeats 2000000 in
theorem l41RuleOk (r : Rul) (a : Option Addr) (len cap : Nat) (w : World) (hr : IsRow .i64 w a len cap r.but) :
    Calls Tryz.prog 27 #[.agg #[.int .i64 r.ev, .int .i64 r.at_, .int .i64 r.fr, .int .i64 r.to_, .slice a len cap]] w fun x w' => x = .returned (.bool (ruleOk r)) ∧ Below w.heap.size w w' := by
  obtain ⟨hz, hm⟩ := hr.len
  unfold maxLen at hm
  have HR : Hid (IsRow .i64 w a len cap r.but) := hr
  clear hr
  have HI : Hid (∀ n lo hi w, Calls Tryz.prog 28 #[.int .i64 n, .int .i64 lo, .int .i64 hi] w fun x w' => x = .returned (.bool (decide (lo ≤ n ∧ n ≤ hi))) ∧ w' = w) := l41In
  have HT : Hid (∀ n lo hi w, lo ≤ n ∧ n ≤ hi → Calls Tryz.prog 28 #[.int .i64 n, .int .i64 lo, .int .i64 hi] w fun x w' => x = .returned (.bool true) ∧ w' = w) := fun n lo hi w h => by have := l41In n lo hi w; rwa [decide_eq_true h] at this
  have HN : Hid (∀ n lo hi w, ¬ (lo ≤ n ∧ n ≤ hi) → Calls Tryz.prog 28 #[.int .i64 n, .int .i64 lo, .int .i64 hi] w fun x w' => x = .returned (.bool false) ∧ w' = w) := fun n lo hi w h => by have := l41In n lo hi w; rwa [decide_eq_false h] at this
  obtain ⟨ev, at_, fr, to_, but⟩ := r
  dsimp only at *
  by_cases p1 : 1 ≤ ev ∧ ev ≤ 1000
  · by_cases p2 : 0 ≤ at_ ∧ at_ ≤ ev - 1
    · by_cases p3 : 0 ≤ fr ∧ fr ≤ 100000
      · by_cases p4 : fr ≤ to_ ∧ to_ ≤ 100000
        · by_cases p5 : len ≤ 8
          · go_enter Tryz.func27, Tryz.ntmps27
            go_wp2_with (go_at_call 28; refine (HT.out _ _ _ _ (by omega)).mono ?_; rintro e w' ⟨rfl, rfl⟩)
            go_loopw [3] (fun i wr => ∃ k m : Nat, k ≤ len ∧ i = .int .i64 k ∧ (∀ i, i < k → butAt but i) ∧ wr = (w.alloc (.cells #[.int .i64 ev, .int .i64 at_, .int .i64 fr, .int .i64 to_, .slice a len cap] 50)).drewN m) (fun i _ => len - (intOf i).toNat)
            case atStart => exact ⟨0, 0, Nat.zero_le _, rfl, fun i h => by omega, rfl⟩
            case round =>
              obtain ⟨k, m, hk, rfl, hb, rfl⟩ := hrel
              have HB : Hid (∀ i, i < k → butAt but i) := hb
              clear hb
              by_cases hlt : k < len
              · obtain ⟨b, off, rfl, h1, h2, hc⟩ := IsRow.at HR.out hlt
                have HBN : Hid (∀ m, Below w.heap.size w ((w.alloc (.cells #[.int .i64 ev, .int .i64 at_, .int .i64 fr, .int .i64 to_, .slice (some ⟨b, off, none⟩) len cap] 50)).drewN m)) := fun m => below_drewN ((Below.refl _ _).alloc (Nat.le_refl _) _) m
                by_cases hin : 0 ≤ but.getD k 0 ∧ but.getD k 0 ≤ 100000
                · have HIN : Hid (∀ w, Calls Tryz.prog 28 #[.int .i64 (but.getD k 0), .int .i64 0, .int .i64 100000] w fun x w' => x = .returned (.bool true) ∧ w' = w) := fun w => HT.out _ _ _ w hin
                  cases k with
                  | zero =>
                    have HB1 : Hid (∀ i, i < 0 + 1 → butAt but i) := fun i hi => by
                      have : i = 0 := by omega
                      subst this
                      exact ⟨hin.1, hin.2, fun h => by omega⟩
                    clear hin
                    generalize but.getD 0 0 = z at hc HIN
                    simp only [Nat.add_zero] at hc
                    go_wp2_with fail
                    go_quiet ((go_at_call 28; exact quiet_again (HIN.out _)))
                    go_wp2_with fail
                    go_roundw
                    case rel => exact ⟨0 + 1, _, by omega, by go_num, HB1.out, rfl⟩
                    case measure => simp [intOf]; omega
                  | succ j =>
                    obtain ⟨b', off', e', _, _, hcj⟩ := IsRow.at HR.out (i := j) (by omega)
                    cases e'
                    by_cases hlt2 : but.getD j 0 < but.getD (j + 1) 0
                    · have HB1 : Hid (∀ i, i < j + 1 + 1 → butAt but i) := fun i hi => by
                        by_cases e : i = j + 1
                        · subst e; exact ⟨hin.1, hin.2, fun _ => hlt2⟩
                        · exact HB.out i (by omega)
                      clear hin
                      generalize but.getD (j + 1) 0 = z at hc HIN hlt2
                      generalize but.getD j 0 = y at hcj hlt2
                      have hd : decide (z ≤ y) = false := decide_eq_false (by omega)
                      go_wp2_with fail
                      go_quiet ((go_at_call 28; exact quiet_again (HIN.out _)))
                      go_wp2_with fail
                      go_roundw
                      case rel => exact ⟨j + 1 + 1, _, by omega, by go_num, HB1.out, rfl⟩
                      case measure => simp [intOf]; omega
                    · have HF : Hid (ruleOk ⟨ev, at_, fr, to_, but⟩ = false) := ruleOk_no fun h => hlt2 ((h.2.2.2.2.2 (j + 1) (by dsimp only; omega)).2.2 (by omega))
                      clear hin
                      generalize but.getD (j + 1) 0 = z at hc HIN hlt2
                      generalize but.getD j 0 = y at hcj hlt2
                      have hd : z ≤ y := by omega
                      clear hlt2
                      go_wp2_with fail
                      go_quiet ((go_at_call 28; exact quiet_again (HIN.out _)))
                      go_wp2_with fail
                      go_ret
                      exact ⟨ret_bool HF.out.symm, by first | exact HBN.out _ | exact below_drewN (HBN.out _) _⟩
                · have HIN : Hid (∀ w, Calls Tryz.prog 28 #[.int .i64 (but.getD k 0), .int .i64 0, .int .i64 100000] w fun x w' => x = .returned (.bool false) ∧ w' = w) := fun w => HN.out _ _ _ w hin
                  have HF : Hid (ruleOk ⟨ev, at_, fr, to_, but⟩ = false) := ruleOk_no fun h => hin ⟨(h.2.2.2.2.2 k (by dsimp only; omega)).1, (h.2.2.2.2.2 k (by dsimp only; omega)).2.1⟩
                  clear hin
                  generalize but.getD k 0 = z at hc HIN
                  go_wp2_with fail
                  go_quiet ((go_at_call 28; exact quiet_again (HIN.out _)))
                  go_wp2_with fail
                  go_ret
                  exact ⟨ret_bool HF.out.symm, by first | exact HBN.out _ | exact below_drewN (HBN.out _) _⟩
              · have HF : Hid (ruleOk ⟨ev, at_, fr, to_, but⟩ = true) := ruleOk_yes ⟨p1, p2, p3, p4, by dsimp only; omega, fun i hi => HB.out i (by dsimp only at hi; omega)⟩
                go_wp2
                go_ret
                exact ⟨ret_bool HF.out.symm, below_drewN ((Below.refl _ _).alloc (Nat.le_refl _) _) _⟩
          · have HF : Hid (ruleOk ⟨ev, at_, fr, to_, but⟩ = false) := ruleOk_no fun h => p5 (by have := h.2.2.2.2.1; dsimp only at this; omega)
            go_enter Tryz.func27, Tryz.ntmps27
            go_wp2_with (go_at_call 28; refine (HT.out _ _ _ _ (by omega)).mono ?_; rintro e w' ⟨rfl, rfl⟩)
            go_ret
            exact ⟨ret_bool HF.out.symm, (Below.refl _ _).alloc (Nat.le_refl _) _⟩
        · have HF : Hid (ruleOk ⟨ev, at_, fr, to_, but⟩ = false) := ruleOk_no fun h => p4 h.2.2.2.1
          go_enter Tryz.func27, Tryz.ntmps27
          go_wp2_with (go_at_call 28; first | (refine (HT.out _ _ _ _ (by omega)).mono ?_; rintro e w' ⟨rfl, rfl⟩) | (refine (HN.out _ _ _ _ (by omega)).mono ?_; rintro e w' ⟨rfl, rfl⟩))
          go_ret
          exact ⟨ret_bool HF.out.symm, (Below.refl _ _).alloc (Nat.le_refl _) _⟩
      · have HF : Hid (ruleOk ⟨ev, at_, fr, to_, but⟩ = false) := ruleOk_no fun h => p3 h.2.2.1
        go_enter Tryz.func27, Tryz.ntmps27
        go_wp2_with (go_at_call 28; first | (refine (HT.out _ _ _ _ (by omega)).mono ?_; rintro e w' ⟨rfl, rfl⟩) | (refine (HN.out _ _ _ _ (by omega)).mono ?_; rintro e w' ⟨rfl, rfl⟩))
        go_ret
        exact ⟨ret_bool HF.out.symm, (Below.refl _ _).alloc (Nat.le_refl _) _⟩
    · have HF : Hid (ruleOk ⟨ev, at_, fr, to_, but⟩ = false) := ruleOk_no fun h => p2 h.2.1
      go_enter Tryz.func27, Tryz.ntmps27
      go_wp2_with (go_at_call 28; first | (refine (HT.out _ _ _ _ (by omega)).mono ?_; rintro e w' ⟨rfl, rfl⟩) | (refine (HN.out _ _ _ _ (by omega)).mono ?_; rintro e w' ⟨rfl, rfl⟩))
      go_ret
      exact ⟨ret_bool HF.out.symm, (Below.refl _ _).alloc (Nat.le_refl _) _⟩
  · have HF : Hid (ruleOk ⟨ev, at_, fr, to_, but⟩ = false) := ruleOk_no fun h => p1 h.1
    go_enter Tryz.func27, Tryz.ntmps27
    go_wp2_with (go_at_call 28; refine (HN.out _ _ _ _ (by omega)).mono ?_; rintro e w' ⟨rfl, rfl⟩)
    go_ret
    exact ⟨ret_bool HF.out.symm, (Below.refl _ _).alloc (Nat.le_refl _) _⟩
end Go.Proofs.YtkemfifkjaclhaaGreatDoor

namespace Go.Proofs.YtkemfifkjaclhaaGreatDoor
set_option linter.unusedVariables false
set_option linter.unusedSimpArgs false
open Go.RowKit Go

def w1B : ByteArray := ⟨#[101, 118, 101, 114, 121, 32]⟩
def w2B : ByteArray := ⟨#[32, 97, 116, 32]⟩
def w3B : ByteArray := ⟨#[32, 102, 114, 111, 109, 32]⟩
def w4B : ByteArray := ⟨#[32, 116, 111, 32]⟩
def w5B : ByteArray := ⟨#[32, 98, 117, 116]⟩
def spB : ByteArray := ⟨#[32]⟩
theorem e_spB : (⟨#[32]⟩ : ByteArray) = spB := rfl
theorem spB_size : spB.size = 1 := rfl
/-- Numbers behind a text, a space ahead of each. -/
def numsT (b : ByteArray) (l : List Int) : ByteArray := l.foldl (fun o n => o ++ spB ++ itoB n) b
theorem numsT_snoc (b : ByteArray) (l : List Int) (n : Int) : numsT b (l ++ [n]) = numsT b l ++ spB ++ itoB n := by simp [numsT]
def Fits (n : Int) : Prop := -9223372036854775807 ≤ n ∧ n ≤ 9223372036854775807
theorem numsT_size (l : List Int) (h : ∀ n ∈ l, Fits n) (b : ByteArray) : (numsT b l).size ≤ b.size + 22 * l.length := by
  induction l generalizing b with
  | nil => simp [numsT]
  | cons n l ih =>
    have h1 := ih (fun x hx => h x (List.mem_cons_of_mem _ hx)) (b ++ spB ++ itoB n)
    have h0 : Fits n := h n List.mem_cons_self
    have h2 := itoB_size n (by have := h0.1; omega) h0.2
    have e : numsT b (n :: l) = numsT (b ++ spB ++ itoB n) l := rfl
    rw [e]
    simp only [ByteArray.size_append, spB_size, List.length_cons] at h1 ⊢
    omega
def headT (r : Rul) : ByteArray := w1B ++ itoB r.ev ++ w2B ++ itoB r.at_ ++ w3B ++ itoB r.fr ++ w4B ++ itoB r.to_
/-- A rule's text, with no newline. -/
def rulT (r : Rul) : ByteArray := numsT (if r.but = [] then headT r else headT r ++ w5B) r.but
theorem rule_fits {r : Rul} (h : RuleOk r) : ∀ i, i < r.but.length → Fits (r.but.getD i 0) := fun i hi => ⟨by have := (h.2.2.2.2.2 i hi).1; omega, by have := (h.2.2.2.2.2 i hi).2.1; omega⟩
theorem fits_all {l : List Int} (h : ∀ i, i < l.length → Fits (l.getD i 0)) : ∀ n ∈ l, Fits n := fun n hn => by
  obtain ⟨i, hi, rfl⟩ := List.mem_iff_getElem.mp hn
  have := h i hi
  rwa [getD_at l i hi] at this

end Go.Proofs.YtkemfifkjaclhaaGreatDoor

namespace Go.Proofs.YtkemfifkjaclhaaGreatDoor
set_option linter.unusedVariables false
set_option linter.unusedSimpArgs false
open Go.RowKit Go

def CalOk (rs : List Rul) : Prop := (∀ i (h : i < rs.length), RuleOk rs[i]) ∧ 1 ≤ rs.length ∧ rs.length ≤ 4
def calOk (rs : List Rul) : Bool := rs.all ruleOk && decide ((1 : Int) ≤ (rs.length : Int) ∧ (rs.length : Int) ≤ 4)
theorem calOk_no {rs : List Rul} {k : Nat} (hk : k < rs.length) (h : ruleOk rs[k] = false) : calOk rs = false := by
  have : rs.all ruleOk = false := by rw [List.all_eq_false]; exact ⟨rs[k], List.getElem_mem hk, by simp [h]⟩
  simp [calOk, this]
theorem calOk_all {rs : List Rul} (h : ∀ i (hi : i < rs.length), ruleOk rs[i] = true) : calOk rs = decide ((1 : Int) ≤ (rs.length : Int) ∧ (rs.length : Int) ≤ 4) := by
  have : rs.all ruleOk = true := by rw [List.all_eq_true]; intro x hx; obtain ⟨i, hi, rfl⟩ := List.mem_iff_getElem.1 hx; exact h i hi
  simp only [calOk, this, Bool.true_and]
theorem calOk_rules {rs : List Rul} (h : calOk rs = true) : ∀ i (hi : i < rs.length), RuleOk rs[i] := by
  intro i hi
  simp only [calOk, Bool.and_eq_true, List.all_eq_true] at h
  have := h.1 _ (List.getElem_mem hi)
  simpa [ruleOk] using this

set_option maxHeartbeats 1000000 in
theorem specCalOk (a : Option Addr) (len cap : Nat) (rs : List Rul) (w : World) (hr : IsRuls w a len cap rs) :
    Calls Tryz.prog 11 #[.slice a len cap] w fun e w' => e = .returned (.bool (calOk rs)) ∧ Below w.heap.size w w' := by
  obtain ⟨hz, hm⟩ := IsRecs.len hr
  unfold maxLen at hm
  have HR : Hid (IsRuls w a len cap rs) := hr
  clear hr
  have HI : Hid (∀ n lo hi w, Calls Tryz.prog 28 #[.int .i64 n, .int .i64 lo, .int .i64 hi] w fun x w' => x = .returned (.bool (decide (lo ≤ n ∧ n ≤ hi))) ∧ w' = w) := l41In
  go_enter Tryz.func11, Tryz.ntmps11
  go_wp2
  go_loopw [3] (fun i wr => ∃ q : Nat, i = .int .i64 q ∧ q ≤ len ∧ (∀ i (hi : i < rs.length), i < q → ruleOk rs[i] = true) ∧ Below w.heap.size w wr) (fun i _ => len - (intOf i).toNat)
  case atStart => exact ⟨0, rfl, Nat.zero_le _, fun i _ h => by omega, Below.refl _ _⟩
  case round =>
    obtain ⟨q, rfl, hq, hok, hb⟩ := hrel
    by_cases hlt : q < len
    · obtain ⟨b, off, rfl, h1, hbl, a1, l1, k1, c0, c1, c2, c3, c4, hrow1, _⟩ := IsRuls.at (IsRuls.below HR.out hb) (i := q) (by omega)
      have HE := l41RuleOk rs[q] a1 l1 k1 wr hrow1
      by_cases hy : ruleOk rs[q] = true
      · have HOK : Hid (∀ i (hi : i < rs.length), i < q + 1 → ruleOk rs[i] = true) := fun i hi hiq => by
          by_cases e : i = q
          · subst e; exact hy
          · exact hok i hi (by omega)
        rw [hy] at HE
        have HE : Hid _ := HE
        clear hok hy
        go_wp2_with fail
        refine Calls.mono HE.out ?_
        rintro e w1 ⟨rfl, hw1⟩
        go_wp2_with fail
        go_roundw
        case rel => exact ⟨q + 1, by go_num, by omega, HOK.out, bcall hb hb.size hw1⟩
        case measure => simp [intOf]; omega
      · have hy : ruleOk rs[q] = false := by simpa using hy
        have HF : Hid (calOk rs = false) := calOk_no (by omega) hy
        rw [hy] at HE
        have HE : Hid _ := HE
        clear hok hy
        go_wp2_with fail
        refine Calls.mono HE.out ?_
        rintro e w1 ⟨rfl, hw1⟩
        go_wp2_with fail
        go_ret
        exact ⟨ret_bool HF.out.symm, bcall hb hb.size hw1⟩
    · have hf := calOk_all fun i hi => hok i hi (by omega)
      rw [hz] at hf
      have HF : Hid (calOk rs = decide ((1 : Int) ≤ (len : Int) ∧ (len : Int) ≤ 4)) := hf
      clear hok hf
      go_wp2_with (go_at_call 28; refine (HI.out _ _ _ _).mono ?_; rintro e w1 ⟨rfl, rfl⟩)
      go_ret
      refine ⟨?_, hb⟩
      rw [HF.out]
      simp

end Go.Proofs.YtkemfifkjaclhaaGreatDoor
