/- The program's check of an entry. -/
import Derived.Test.YtmfibpfnbhhoaaaDoorIA3
import Derived.Test.YtmfibpfnbhhoaaaDoorSHE
import Derived.Deep.RegionHeld3
import Derived.BigGuard
import Derived.BigRegion
namespace Go.Proofs.YtmfibpfnbhhoaaaDoor
set_option linter.unusedVariables false
set_option linter.unusedSimpArgs false
open Go.RowKit Go

def endOk (id : Int) (zs : List Int) : Bool := decide (1 ≤ id) && decide (id ≤ 4) && decide (1 ≤ zs.length) && decide (zs.length ≤ 4) && numsIn zs
set_option maxRecDepth 100000 in
set_option maxHeartbeats 4000000 in
theorem noteOk_end (id : Int) (a : Option Addr) (len cap : Nat) (zs : List Int) (w : World) (hr : IsRow .i64 w a len cap zs) :
    Calls Tryd.prog 27 #[.iface 75 (.agg #[.int .i64 id, .slice a len cap])] w fun e w' => e = .returned (.bool (endOk id zs)) ∧ Below w.heap.size w w' := by
  have t0 := ta_end_start
  have t1 := ta_end_mark
  have t2 := ta_end_ask
  have t3 := ta_end_hap
  have t4 := ta_end_end
  obtain ⟨hz, hm⟩ := hr.len
  have HN : Hid (∀ o, Calls Tryd.prog 42 #[.slice a len cap] (w.alloc o) fun e w'' => e = .returned (.bool (numsIn zs)) ∧ w'' = w.alloc o) := fun o => allNums a len cap zs _ (hr.alloc o)
  unfold maxLen at hm
  clear hr
  have HF : Hid (endOk id zs = (decide (1 ≤ id) && decide (id ≤ 4) && decide (1 ≤ len) && decide (len ≤ 4) && numsIn zs)) := by rw [← hz]; rfl
  generalize numsIn zs = zb at HN HF
  clear hz
  go_enter Tryd.func27, Tryd.ntmps27
  go_wp2_with (go_at_call 42; refine (HN.out _).mono ?_; rintro e w4 ⟨rfl, rfl⟩)
  all_goals
    go_ret
    refine ⟨ret_bool ?_, (Below.refl _ _).alloc (Nat.le_refl _) _⟩
    rw [HF.out]
    simp_all
    try omega

theorem slicesEqual (a1 a2 : Option Addr) (l1 c1 l2 c2 : Nat) (xs ys : List Int) (w : World) (h1 : IsRow .i64 w a1 l1 c1 xs) (h2 : IsRow .i64 w a2 l2 c2 ys) :
    Calls Tryd.prog 47 #[.slice a1 l1 c1, .slice a2 l2 c2] w fun e w' => e = .returned (.bool (xs == ys)) ∧ ∃ q, w' = w.drewN q := by
  obtain ⟨e1, m1⟩ := h1.len
  obtain ⟨e2, m2⟩ := h2.len
  unfold maxLen at m1 m2
  by_cases hl : l1 = l2
  · by_cases h0 : l1 = 0
    · subst h0
      have hx : xs = [] := List.length_eq_zero_iff.1 e1
      have hy : ys = [] := List.length_eq_zero_iff.1 (by omega)
      refine (slices_Equal_int_empty a1 a2 c1 l2 c2 w (by omega)).mono ?_
      rintro e w' ⟨rfl, rfl⟩
      exact ⟨ret_bool (by rw [hx, hy, ← hl]; rfl), 0, rfl⟩
    · obtain ⟨b1, o1, rfl, _, _⟩ := h1.2.2.2.1 (by omega)
      obtain ⟨b2, o2, rfl, _, _⟩ := h2.2.2.2.1 (by omega)
      refine (slices_Equal_int b1 o1 l1 c1 b2 o2 l2 c2 xs ys w (by omega) (by omega) m1 m2 ?_ ?_).mono ?_
      · intro j hj; obtain ⟨b, off, e, _, _, hc⟩ := h1.at (i := j) (by omega); cases e; exact hc
      · intro j hj; obtain ⟨b, off, e, _, _, hc⟩ := h2.at (i := j) (by omega); cases e; exact hc
      · rintro e w' ⟨rfl, q, hq⟩
        exact ⟨ret_bool (by rw [List.take_of_length_le (by omega), List.take_of_length_le (by omega)]), q, hq⟩
  · refine (slices_Equal_int_lens a1 a2 l1 c1 l2 c2 w hl).mono ?_
    rintro e w' ⟨rfl, rfl⟩
    refine ⟨ret_bool ?_, 0, rfl⟩
    symm; rw [beq_eq_false_iff_ne]; intro e; rw [e] at e1; omega

/-- Two entries are the same. -/
def sameEnt (x y : Ent) : Bool := x.kind == y.kind && x.id == y.id && x.key.toList == y.key.toList && x.name.toList == y.name.toList && x.nums == y.nums
set_option maxRecDepth 100000 in
set_option maxHeartbeats 4000000 in
theorem sameEntry (x y : Ent) (a1 a2 : Option Addr) (l1 c1 l2 c2 : Nat) (w : World) (h1 : IsRow .i64 w a1 l1 c1 x.nums) (h2 : IsRow .i64 w a2 l2 c2 y.nums) :
    Calls Tryd.prog 28 #[.agg #[.int .i64 x.kind, .int .i64 x.id, .string x.key, .string x.name, .slice a1 l1 c1], .agg #[.int .i64 y.kind, .int .i64 y.id, .string y.key, .string y.name, .slice a2 l2 c2]] w fun e w' => e = .returned (.bool (sameEnt x y)) ∧ Below w.heap.size w w' := by
  have HS : Hid (∀ o o', Calls Tryd.prog 47 #[.slice a1 l1 c1, .slice a2 l2 c2] ((w.alloc o).alloc o') fun e w' => e = .returned (.bool (x.nums == y.nums)) ∧ ∃ q, w' = ((w.alloc o).alloc o').drewN q) := fun o o' => slicesEqual a1 a2 l1 c1 l2 c2 _ _ _ ((h1.alloc o).alloc o') ((h2.alloc o).alloc o')
  clear h1 h2
  have HF : Hid (sameEnt x y = (x.kind == y.kind && x.id == y.id && x.key.toList == y.key.toList && x.name.toList == y.name.toList && x.nums == y.nums)) := rfl
  obtain ⟨xk, xi, xy, xn, xz⟩ := x
  obtain ⟨yk, yi, yy, yn, yz⟩ := y
  simp only at HS HF
  generalize (xz == yz) = zb at HS HF
  simp only
  go_enter Tryd.func28, Tryd.ntmps28
  go_wp2_with (go_at_call 47; refine (HS.out _ _).mono ?_; rintro e w4 ⟨rfl, q, rfl⟩)
  all_goals
    go_ret
    refine ⟨ret_bool ?_, by first | exact ((Below.refl _ _).alloc (Nat.le_refl _) _).alloc (by simp) _ | exact below_drewN (((Below.refl _ _).alloc (Nat.le_refl _) _).alloc (by simp) _) _⟩
    rw [HF.out]
    simp_all
end Go.Proofs.YtmfibpfnbhhoaaaDoor
