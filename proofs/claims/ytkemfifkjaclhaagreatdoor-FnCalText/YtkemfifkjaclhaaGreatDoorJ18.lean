/- The walk of the model's l41Rule. -/
import Derived.Test.YtkemfifkjaclhaaGreatDoorJ4
import Derived.Test.YtkemfifkjaclhaaGreatDoorJ17
namespace Go.Proofs.YtkemfifkjaclhaaGreatDoor
set_option linter.unusedVariables false
set_option linter.unusedSimpArgs false
open Go.RowKit Go
namespace Cal

theorem eqS_iff (a b : ByteArray) : (a.toList == b.toList) = true ↔ a = b := by
  rw [beq_iff_eq, ByteArray.toList_eq, ByteArray.toList_eq]
  constructor
  · intro h; cases a; cases b; simpa using h
  · rintro rfl; rfl
theorem cutL_len' (c : UInt8) (l : List UInt8) : ∀ x ∈ cutL c l, x.length ≤ l.length := by
  induction l with
  | nil => intro x hx; simp [cutL] at hx; subst hx; simp
  | cons y l ih =>
    intro x hx
    rw [cutL] at hx
    split at hx
    · rcases List.mem_cons.1 hx with rfl | hx
      · simp
      · have := ih x hx; simp; omega
    · split at hx
      · rename_i a t hc
        rcases List.mem_cons.1 hx with rfl | hx
        · have := ih a (by rw [hc]; simp); simp; omega
        · have := ih x (by rw [hc]; exact List.mem_cons_of_mem _ hx); simp; omega
      · rename_i hc; exact absurd hc (cutL_ne c l)
/-- What is asked of a line's reading. -/
def RulePost (s : ByteArray) (w : World) (e : Ending) (w' : World) : Prop :=
  ∃ (ev at_ fr to_ : Int) (a : Option Addr) (l c : Nat) (ok : Bool), e = .returned (.tuple #[.agg #[.int .i64 ev, .int .i64 at_, .int .i64 fr, .int .i64 to_, .slice a l c], .bool ok]) ∧ Below w.heap.size w w' ∧
    (ok = true → ∃ r, RulIs w' [.int .i64 ev, .int .i64 at_, .int .i64 fr, .int .i64 to_, .slice a l c] r ∧ RuleOk r ∧ rulT r = s ∧ (0 < l → ∀ b off, a = some ⟨b, off, none⟩ → w.heap.size ≤ b)) ∧
    (ok = false → ∀ r, RuleOk r → rulT r ≠ s)
theorem line_no' {s : ByteArray} {ps : List ByteArray} (hp : bys ps = cutL 32 s.data.toList) (h : ¬ Form (bys ps) ∨ ¬ RuleOk (ruleW (bys ps))) : ∀ r, RuleOk r → rulT r ≠ s := fun r hr e => by
  rw [hp] at h
  exact line_no h r hr (by rw [e])
theorem bys_len (ps : List ByteArray) : (bys ps).length = ps.length := by simp [bys]
theorem bys_at (ps : List ByteArray) (k : Nat) (h : k < ps.length) : (bys ps).getD k [] = ps[k].data.toList := by simp [bys, h]
theorem word_yes {x : ByteArray} {l : List UInt8} (h : x.data.toList = l) : (x.toList == (⟨l.toArray⟩ : ByteArray).toList) = true := by
  rw [eqS_iff]; cases x; simp_all; rw [← h]
theorem word_no {x : ByteArray} {l : List UInt8} (h : x.data.toList ≠ l) : (x.toList == (⟨l.toArray⟩ : ByteArray).toList) = false := by
  rw [Bool.eq_false_iff]; intro e; rw [eqS_iff] at e; subst e; exact h rfl

/-- What is left out, as far as word q. -/
def butW (ps : List ByteArray) (q : Nat) : List Int := (((bys ps).drop 9).take (q - 9)).map numV
theorem butW_step (ps : List ByteArray) (q : Nat) (h9 : 9 ≤ q) (hq : q < ps.length) : butW ps (q + 1) = butW ps q ++ [numV ps[q].data.toList] := by
  unfold butW
  have hd : q - 9 < ((bys ps).drop 9).length := by simp [bys]; omega
  rw [show q + 1 - 9 = (q - 9) + 1 by omega, List.take_succ_eq_append_getElem hd, List.map_append, List.map_singleton, List.getElem_drop]
  congr 3
  have : 9 + (q - 9) = q := by omega
  simp only [this, bys, List.getElem_map]
theorem butW_all (ps : List ByteArray) (q : Nat) (h : ¬ q < ps.length) : butW ps q = ((bys ps).drop 9).map numV := by
  unfold butW
  rw [List.take_of_length_le (by simp [bys]; omega)]
theorem butW_len (ps : List ByteArray) (q : Nat) : (butW ps q).length ≤ q := by
  unfold butW; simp; omega
theorem butW_bd (ps : List ByteArray) (q : Nat) : ∀ z ∈ butW ps q, -1 ≤ z ∧ z ≤ 999999 := by
  intro z hz
  unfold butW at hz
  obtain ⟨d, _, rfl⟩ := List.mem_map.1 hz
  exact numV_bd d
theorem acc_drew {w : World} {F : Nat} {e : TypeId} {size : Nat} {v : Value} {n : Nat} {xs : List Value} (h : Acc w F e size v n xs) : Acc w.drew F e size v n xs := h.below (Below.refl _ _).drew
theorem words_many {c : UInt8} {s : ByteArray} {ps : List ByteArray} (h : bys ps = cutL c s.data.toList) (hs : s.size ≤ 16777216) : ps.length ≤ 16777217 := by
  have h1 : ∀ l : List UInt8, (cutL c l).length ≤ l.length + 1 := by
    intro l
    induction l with
    | nil => simp [cutL]
    | cons y l ih =>
      rw [cutL]
      split
      · simp; omega
      · split
        · rename_i a t hc; rw [hc] at ih; simp at ih ⊢; omega
        · simp
  have h2 := h1 s.data.toList
  rw [← h, bys_len] at h2
  simp at h2
  have : s.data.size = s.size := rfl
  omega

set_option maxRecDepth 4000 in
set_option maxHeartbeats 4000000 in
theorem l41Rule (s : ByteArray) (w : World) (hs : s.size ≤ 16777216) :
    Calls Tryz.prog 21 #[.string s] w fun e w' => RulePost s w e w' := by
  have HC : Hid (∀ w, Calls Tryz.prog 20 #[.string s, .int .u8 32] w fun e w' => ∃ v ps, e = .returned v ∧ bys ps = cutL 32 s.data.toList ∧ Row w' v (sv ps) ∧ Below w.heap.size w w') := fun w => l41Cut s 32 w hs
  go_enter Tryz.func21, Tryz.ntmps21
  go_wp2_with fail
  refine (HC.out _).mono ?_
  rintro e w1 ⟨v, ps, rfl, hps, hrow, hw1⟩
  have hne : 0 < ps.length := by
    cases ps with
    | nil => exact absurd hps.symm (cutL_ne _ _)
    | cons => simp
  have hlen := sv_len ps
  have hmx := hrow.max
  obtain ⟨a, cap, rfl⟩ := hrow.form
  rw [hlen] at hrow hmx
  obtain ⟨b, off, rfl, hcap, hbl, _⟩ := hrow.at (k := 0) (by simpa [sv] using hne)
  rw [hlen]
  have HCELL : Hid (∀ k (h : k < ps.length), w1.cell? ⟨b, off + k, none⟩ = some (.string ps[k])) := fun k h => by
    obtain ⟨b', off', e', _, _, hc'⟩ := hrow.at (k := k) (by simpa [sv] using h)
    simp only [Option.some.injEq, Addr.mk.injEq, and_true] at e'
    obtain ⟨rfl, rfl⟩ := e'
    rw [hc', sv_at]
  have HPS : Hid (bys ps = cutL 32 s.data.toList) := hps
  have hpl : ps.length ≤ 16777217 := words_many hps hs
  clear hrow hps hlen
  have HW1 : Hid _ := hw1
  clear hw1
  have HRr : Hid (Holds w1 w.heap.size 50 #[.int .i64 0, .int .i64 0, .int .i64 0, .int .i64 0, .slice none 0 0]) := Holds.below (w := w.alloc (.cells #[.int .i64 0, .int .i64 0, .int .i64 0, .int .i64 0, .slice none 0 0] 50)) (heap_alloc_new _ _) HW1.out
  have HBW1 : Hid (Below w.heap.size w w1) := unbox (by simpa using HW1.out)
  have hRE : w.heap.size < w1.heap.size := by have := HW1.out.size; simp at this; omega
  have r0 := HRr.out.cell 0
  have r1 := HRr.out.cell 1
  have r2 := HRr.out.cell 2
  have r3 := HRr.out.cell 3
  have r4 := HRr.out.cell 4
  have f0 := HRr.out.frozen 0
  have f1 := HRr.out.frozen 1
  have f2 := HRr.out.frozen 2
  have f3 := HRr.out.frozen 3
  have f4 := HRr.out.frozen 4
  simp at r0 r1 r2 r3 r4
  have HRr : Hid (Holds w1 w.heap.size 50 #[.int .i64 0, .int .i64 0, .int .i64 0, .int .i64 0, .slice none 0 0]) := Holds.below (w := w.alloc (.cells #[.int .i64 0, .int .i64 0, .int .i64 0, .int .i64 0, .slice none 0 0] 50)) (heap_alloc_new _ _) HW1.out
  have HBW1 : Hid (Below w.heap.size w w1) := unbox (by simpa using HW1.out)
  have hRE : w.heap.size < w1.heap.size := by have := HW1.out.size; simp at this; omega
  have r0 := HRr.out.cell 0
  have r1 := HRr.out.cell 1
  have r2 := HRr.out.cell 2
  have r3 := HRr.out.cell 3
  have r4 := HRr.out.cell 4
  have f0 := HRr.out.frozen 0
  have f1 := HRr.out.frozen 1
  have f2 := HRr.out.frozen 2
  have f3 := HRr.out.frozen 3
  have f4 := HRr.out.frozen 4
  simp at r0 r1 r2 r3 r4
  have HRr : Hid (Holds w1 w.heap.size 50 #[.int .i64 0, .int .i64 0, .int .i64 0, .int .i64 0, .slice none 0 0]) := Holds.below (w := w.alloc (.cells #[.int .i64 0, .int .i64 0, .int .i64 0, .int .i64 0, .slice none 0 0] 50)) (heap_alloc_new _ _) HW1.out
  have HBW1 : Hid (Below w.heap.size w w1) := unbox (by simpa using HW1.out)
  have hRE : w.heap.size < w1.heap.size := by have := HW1.out.size; simp at this; omega
  have r0 := HRr.out.cell 0
  have r1 := HRr.out.cell 1
  have r2 := HRr.out.cell 2
  have r3 := HRr.out.cell 3
  have r4 := HRr.out.cell 4
  have f0 := HRr.out.frozen 0
  have f1 := HRr.out.frozen 1
  have f2 := HRr.out.frozen 2
  have f3 := HRr.out.frozen 3
  have f4 := HRr.out.frozen 4
  simp at r0 r1 r2 r3 r4
  have HRr : Hid (Holds w1 w.heap.size 50 #[.int .i64 0, .int .i64 0, .int .i64 0, .int .i64 0, .slice none 0 0]) := Holds.below (w := w.alloc (.cells #[.int .i64 0, .int .i64 0, .int .i64 0, .int .i64 0, .slice none 0 0] 50)) (heap_alloc_new _ _) HW1.out
  have HBW1 : Hid (Below w.heap.size w w1) := unbox (by simpa using HW1.out)
  have hRE : w.heap.size < w1.heap.size := by have := HW1.out.size; simp at this; omega
  have r0 := HRr.out.cell 0
  have r1 := HRr.out.cell 1
  have r2 := HRr.out.cell 2
  have r3 := HRr.out.cell 3
  have r4 := HRr.out.cell 4
  have f0 := HRr.out.frozen 0
  have f1 := HRr.out.frozen 1
  have f2 := HRr.out.frozen 2
  have f3 := HRr.out.frozen 3
  have f4 := HRr.out.frozen 4
  simp at r0 r1 r2 r3 r4
  have HRr : Hid (Holds w1 w.heap.size 50 #[.int .i64 0, .int .i64 0, .int .i64 0, .int .i64 0, .slice none 0 0]) := Holds.below (w := w.alloc (.cells #[.int .i64 0, .int .i64 0, .int .i64 0, .int .i64 0, .slice none 0 0] 50)) (heap_alloc_new _ _) HW1.out
  have HBW1 : Hid (Below w.heap.size w w1) := unbox (by simpa using HW1.out)
  have hRE : w.heap.size < w1.heap.size := by have := HW1.out.size; simp at this; omega
  have r0 := HRr.out.cell 0
  have r1 := HRr.out.cell 1
  have r2 := HRr.out.cell 2
  have r3 := HRr.out.cell 3
  have r4 := HRr.out.cell 4
  have f0 := HRr.out.frozen 0
  have f1 := HRr.out.frozen 1
  have f2 := HRr.out.frozen 2
  have f3 := HRr.out.frozen 3
  have f4 := HRr.out.frozen 4
  simp at r0 r1 r2 r3 r4
  have HRr : Hid (Holds w1 w.heap.size 50 #[.int .i64 0, .int .i64 0, .int .i64 0, .int .i64 0, .slice none 0 0]) := Holds.below (w := w.alloc (.cells #[.int .i64 0, .int .i64 0, .int .i64 0, .int .i64 0, .slice none 0 0] 50)) (heap_alloc_new _ _) HW1.out
  have HBW1 : Hid (Below w.heap.size w w1) := unbox (by simpa using HW1.out)
  have hRE : w.heap.size < w1.heap.size := by have := HW1.out.size; simp at this; omega
  have r0 := HRr.out.cell 0
  have r1 := HRr.out.cell 1
  have r2 := HRr.out.cell 2
  have r3 := HRr.out.cell 3
  have r4 := HRr.out.cell 4
  have f0 := HRr.out.frozen 0
  have f1 := HRr.out.frozen 1
  have f2 := HRr.out.frozen 2
  have f3 := HRr.out.frozen 3
  have f4 := HRr.out.frozen 4
  simp at r0 r1 r2 r3 r4
  have HRr : Hid (Holds w1 w.heap.size 50 #[.int .i64 0, .int .i64 0, .int .i64 0, .int .i64 0, .slice none 0 0]) := Holds.below (w := w.alloc (.cells #[.int .i64 0, .int .i64 0, .int .i64 0, .int .i64 0, .slice none 0 0] 50)) (heap_alloc_new _ _) HW1.out
  have HBW1 : Hid (Below w.heap.size w w1) := unbox (by simpa using HW1.out)
  have hRE : w.heap.size < w1.heap.size := by have := HW1.out.size; simp at this; omega
  have r0 := HRr.out.cell 0
  have r1 := HRr.out.cell 1
  have r2 := HRr.out.cell 2
  have r3 := HRr.out.cell 3
  have r4 := HRr.out.cell 4
  have f0 := HRr.out.frozen 0
  have f1 := HRr.out.frozen 1
  have f2 := HRr.out.frozen 2
  have f3 := HRr.out.frozen 3
  have f4 := HRr.out.frozen 4
  simp at r0 r1 r2 r3 r4
  have HRr : Hid (Holds w1 w.heap.size 50 #[.int .i64 0, .int .i64 0, .int .i64 0, .int .i64 0, .slice none 0 0]) := Holds.below (w := w.alloc (.cells #[.int .i64 0, .int .i64 0, .int .i64 0, .int .i64 0, .slice none 0 0] 50)) (heap_alloc_new _ _) HW1.out
  have HBW1 : Hid (Below w.heap.size w w1) := unbox (by simpa using HW1.out)
  have hRE : w.heap.size < w1.heap.size := by have := HW1.out.size; simp at this; omega
  have r0 := HRr.out.cell 0
  have r1 := HRr.out.cell 1
  have r2 := HRr.out.cell 2
  have r3 := HRr.out.cell 3
  have r4 := HRr.out.cell 4
  have f0 := HRr.out.frozen 0
  have f1 := HRr.out.frozen 1
  have f2 := HRr.out.frozen 2
  have f3 := HRr.out.frozen 3
  have f4 := HRr.out.frozen 4
  simp at r0 r1 r2 r3 r4
  have HRr : Hid (Holds w1 w.heap.size 50 #[.int .i64 0, .int .i64 0, .int .i64 0, .int .i64 0, .slice none 0 0]) := Holds.below (w := w.alloc (.cells #[.int .i64 0, .int .i64 0, .int .i64 0, .int .i64 0, .slice none 0 0] 50)) (heap_alloc_new _ _) HW1.out
  have HBW1 : Hid (Below w.heap.size w w1) := unbox (by simpa using HW1.out)
  have hRE : w.heap.size < w1.heap.size := by have := HW1.out.size; simp at this; omega
  have r0 := HRr.out.cell 0
  have r1 := HRr.out.cell 1
  have r2 := HRr.out.cell 2
  have r3 := HRr.out.cell 3
  have r4 := HRr.out.cell 4
  have f0 := HRr.out.frozen 0
  have f1 := HRr.out.frozen 1
  have f2 := HRr.out.frozen 2
  have f3 := HRr.out.frozen 3
  have f4 := HRr.out.frozen 4
  simp at r0 r1 r2 r3 r4
  have HRr : Hid (Holds w1 w.heap.size 50 #[.int .i64 0, .int .i64 0, .int .i64 0, .int .i64 0, .slice none 0 0]) := Holds.below (w := w.alloc (.cells #[.int .i64 0, .int .i64 0, .int .i64 0, .int .i64 0, .slice none 0 0] 50)) (heap_alloc_new _ _) HW1.out
  have HBW1 : Hid (Below w.heap.size w w1) := unbox (by simpa using HW1.out)
  have hRE : w.heap.size < w1.heap.size := by have := HW1.out.size; simp at this; omega
  have r0 := HRr.out.cell 0
  have r1 := HRr.out.cell 1
  have r2 := HRr.out.cell 2
  have r3 := HRr.out.cell 3
  have r4 := HRr.out.cell 4
  have f0 := HRr.out.frozen 0
  have f1 := HRr.out.frozen 1
  have f2 := HRr.out.frozen 2
  have f3 := HRr.out.frozen 3
  have f4 := HRr.out.frozen 4
  simp at r0 r1 r2 r3 r4
  by_cases h8 : ps.length < 8
  · have d8 : decide ((ps.length : Int) < 8) = true := decide_eq_true (by omega)
    have HNO : Hid (∀ r, RuleOk r → rulT r ≠ s) := line_no' HPS.out (.inl (fun h => by have := h.1; rw [bys_len] at this; omega))
    go_wp2_with fail
    obtain ⟨cur', qh, _, _, q0, q1, q2, q3, q4⟩ := HRr.out.set5 0 (.int .i64 0) (.int .i64 0) (.int .i64 0) (.int .i64 0) (.slice none 0 0) (by simp)
    have k0 := (qh.cell 0).trans q0
    have k1 := (qh.cell (0 + 1)).trans q1
    have k2 := (qh.cell (0 + 2)).trans q2
    have k3 := (qh.cell (0 + 3)).trans q3
    have k4 := (qh.cell (0 + 4)).trans q4
    simp only [Nat.zero_add] at k0 k1 k2 k3 k4
    refine bodyPost_ret (v := .tuple #[.agg #[.int .i64 0, .int .i64 0, .int .i64 0, .int .i64 0, .slice none 0 0], .bool false]) ?_ rfl ?_
    · simp [results, Tryz.results21, go_sem, k0, k1, k2, k3, k4]
    · exact ⟨_, _, _, _, _, _, _, false, rfl, below_set5 HBW1.out (Nat.le_refl _) 0 _ _ _ _ _, (fun h => by cases h), fun _ => HNO.out⟩
  have d8 : decide ((ps.length : Int) < 8) = false := decide_eq_false (by omega)
  have c0 := HCELL.out 0 (by omega)
  have c2 := HCELL.out 2 (by omega)
  have c4 := HCELL.out 4 (by omega)
  have c6 := HCELL.out 6 (by omega)
  simp only [Nat.add_zero] at c0
  by_cases g0 : ps[0].data.toList = eveL
  case neg =>
    have e0 : (ps[0].toList == [101, 118, 101, 114, 121]) = false := by simpa [ByteArray.toList_eq, eveL, atL, froL, toL, butL] using g0
    have HNO : Hid (∀ r, RuleOk r → rulT r ≠ s) := line_no' HPS.out (.inl (fun h => g0 (by have := h.2.1; rwa [bys_at _ _ (by omega)] at this)))
    go_wp2_with fail
    obtain ⟨cur', qh, _, _, q0, q1, q2, q3, q4⟩ := HRr.out.set5 0 (.int .i64 0) (.int .i64 0) (.int .i64 0) (.int .i64 0) (.slice none 0 0) (by simp)
    have k0 := (qh.cell 0).trans q0
    have k1 := (qh.cell (0 + 1)).trans q1
    have k2 := (qh.cell (0 + 2)).trans q2
    have k3 := (qh.cell (0 + 3)).trans q3
    have k4 := (qh.cell (0 + 4)).trans q4
    simp only [Nat.zero_add] at k0 k1 k2 k3 k4
    refine bodyPost_ret (v := .tuple #[.agg #[.int .i64 0, .int .i64 0, .int .i64 0, .int .i64 0, .slice none 0 0], .bool false]) ?_ rfl ?_
    · simp [results, Tryz.results21, go_sem, k0, k1, k2, k3, k4]
    · exact ⟨_, _, _, _, _, _, _, false, rfl, below_set5 HBW1.out (Nat.le_refl _) 0 _ _ _ _ _, (fun h => by cases h), fun _ => HNO.out⟩
  have e0 : (ps[0].toList == [101, 118, 101, 114, 121]) = true := by simpa [ByteArray.toList_eq, eveL, atL, froL, toL, butL] using g0
  by_cases g2 : ps[2].data.toList = atL
  case neg =>
    have e2 : (ps[2].toList == [97, 116]) = false := by simpa [ByteArray.toList_eq, eveL, atL, froL, toL, butL] using g2
    have HNO : Hid (∀ r, RuleOk r → rulT r ≠ s) := line_no' HPS.out (.inl (fun h => g2 (by have := h.2.2.1; rwa [bys_at _ _ (by omega)] at this)))
    go_wp2_with fail
    obtain ⟨cur', qh, _, _, q0, q1, q2, q3, q4⟩ := HRr.out.set5 0 (.int .i64 0) (.int .i64 0) (.int .i64 0) (.int .i64 0) (.slice none 0 0) (by simp)
    have k0 := (qh.cell 0).trans q0
    have k1 := (qh.cell (0 + 1)).trans q1
    have k2 := (qh.cell (0 + 2)).trans q2
    have k3 := (qh.cell (0 + 3)).trans q3
    have k4 := (qh.cell (0 + 4)).trans q4
    simp only [Nat.zero_add] at k0 k1 k2 k3 k4
    refine bodyPost_ret (v := .tuple #[.agg #[.int .i64 0, .int .i64 0, .int .i64 0, .int .i64 0, .slice none 0 0], .bool false]) ?_ rfl ?_
    · simp [results, Tryz.results21, go_sem, k0, k1, k2, k3, k4]
    · exact ⟨_, _, _, _, _, _, _, false, rfl, below_set5 HBW1.out (Nat.le_refl _) 0 _ _ _ _ _, (fun h => by cases h), fun _ => HNO.out⟩
  have e2 : (ps[2].toList == [97, 116]) = true := by simpa [ByteArray.toList_eq, eveL, atL, froL, toL, butL] using g2
  by_cases g4 : ps[4].data.toList = froL
  case neg =>
    have e4 : (ps[4].toList == [102, 114, 111, 109]) = false := by simpa [ByteArray.toList_eq, eveL, atL, froL, toL, butL] using g4
    have HNO : Hid (∀ r, RuleOk r → rulT r ≠ s) := line_no' HPS.out (.inl (fun h => g4 (by have := h.2.2.2.1; rwa [bys_at _ _ (by omega)] at this)))
    go_wp2_with fail
    obtain ⟨cur', qh, _, _, q0, q1, q2, q3, q4⟩ := HRr.out.set5 0 (.int .i64 0) (.int .i64 0) (.int .i64 0) (.int .i64 0) (.slice none 0 0) (by simp)
    have k0 := (qh.cell 0).trans q0
    have k1 := (qh.cell (0 + 1)).trans q1
    have k2 := (qh.cell (0 + 2)).trans q2
    have k3 := (qh.cell (0 + 3)).trans q3
    have k4 := (qh.cell (0 + 4)).trans q4
    simp only [Nat.zero_add] at k0 k1 k2 k3 k4
    refine bodyPost_ret (v := .tuple #[.agg #[.int .i64 0, .int .i64 0, .int .i64 0, .int .i64 0, .slice none 0 0], .bool false]) ?_ rfl ?_
    · simp [results, Tryz.results21, go_sem, k0, k1, k2, k3, k4]
    · exact ⟨_, _, _, _, _, _, _, false, rfl, below_set5 HBW1.out (Nat.le_refl _) 0 _ _ _ _ _, (fun h => by cases h), fun _ => HNO.out⟩
  have e4 : (ps[4].toList == [102, 114, 111, 109]) = true := by simpa [ByteArray.toList_eq, eveL, atL, froL, toL, butL] using g4
  by_cases g6 : ps[6].data.toList = toL
  case neg =>
    have e6 : (ps[6].toList == [116, 111]) = false := by simpa [ByteArray.toList_eq, eveL, atL, froL, toL, butL] using g6
    have HNO : Hid (∀ r, RuleOk r → rulT r ≠ s) := line_no' HPS.out (.inl (fun h => g6 (by have := h.2.2.2.2.1; rwa [bys_at _ _ (by omega)] at this)))
    go_wp2_with fail
    obtain ⟨cur', qh, _, _, q0, q1, q2, q3, q4⟩ := HRr.out.set5 0 (.int .i64 0) (.int .i64 0) (.int .i64 0) (.int .i64 0) (.slice none 0 0) (by simp)
    have k0 := (qh.cell 0).trans q0
    have k1 := (qh.cell (0 + 1)).trans q1
    have k2 := (qh.cell (0 + 2)).trans q2
    have k3 := (qh.cell (0 + 3)).trans q3
    have k4 := (qh.cell (0 + 4)).trans q4
    simp only [Nat.zero_add] at k0 k1 k2 k3 k4
    refine bodyPost_ret (v := .tuple #[.agg #[.int .i64 0, .int .i64 0, .int .i64 0, .int .i64 0, .slice none 0 0], .bool false]) ?_ rfl ?_
    · simp [results, Tryz.results21, go_sem, k0, k1, k2, k3, k4]
    · exact ⟨_, _, _, _, _, _, _, false, rfl, below_set5 HBW1.out (Nat.le_refl _) 0 _ _ _ _ _, (fun h => by cases h), fun _ => HNO.out⟩
  have e6 : (ps[6].toList == [116, 111]) = true := by simpa [ByteArray.toList_eq, eveL, atL, froL, toL, butL] using g6
  by_cases hF : Form (bys ps)
  case neg =>
    by_cases h9 : 8 < ps.length
    case neg => exact absurd ⟨by rw [bys_len]; omega, by rw [bys_at _ _ (by omega)]; exact g0, by rw [bys_at _ _ (by omega)]; exact g2, by rw [bys_at _ _ (by omega)]; exact g4, by rw [bys_at _ _ (by omega)]; exact g6, fun h => by rw [bys_len] at h; omega⟩ hF
    have d9 : decide ((8 : Int) < (ps.length : Int)) = true := decide_eq_true (by omega)
    have c8 := HCELL.out 8 (by omega)
    by_cases g8 : ps[8].data.toList = butL
    case neg =>
      have e8 : (ps[8].toList == [98, 117, 116]) = false := by simpa [ByteArray.toList_eq, butL] using g8
      have HNO : Hid (∀ r, RuleOk r → rulT r ≠ s) := line_no' HPS.out (.inl (hF))
      go_wp2_with fail
      obtain ⟨cur', qh, _, _, q0, q1, q2, q3, q4⟩ := HRr.out.set5 0 (.int .i64 0) (.int .i64 0) (.int .i64 0) (.int .i64 0) (.slice none 0 0) (by simp)
      have k0 := (qh.cell 0).trans q0
      have k1 := (qh.cell (0 + 1)).trans q1
      have k2 := (qh.cell (0 + 2)).trans q2
      have k3 := (qh.cell (0 + 3)).trans q3
      have k4 := (qh.cell (0 + 4)).trans q4
      simp only [Nat.zero_add] at k0 k1 k2 k3 k4
      refine bodyPost_ret (v := .tuple #[.agg #[.int .i64 0, .int .i64 0, .int .i64 0, .int .i64 0, .slice none 0 0], .bool false]) ?_ rfl ?_
      · simp [results, Tryz.results21, go_sem, k0, k1, k2, k3, k4]
      · exact ⟨_, _, _, _, _, _, _, false, rfl, below_set5 HBW1.out (Nat.le_refl _) 0 _ _ _ _ _, (fun h => by cases h), fun _ => HNO.out⟩
    have e8 : (ps[8].toList == [98, 117, 116]) = true := by simpa [ByteArray.toList_eq, butL] using g8
    by_cases h10 : ps.length = 9
    case neg => exact absurd ⟨by rw [bys_len]; omega, by rw [bys_at _ _ (by omega)]; exact g0, by rw [bys_at _ _ (by omega)]; exact g2, by rw [bys_at _ _ (by omega)]; exact g4, by rw [bys_at _ _ (by omega)]; exact g6, fun _ => ⟨by rw [bys_at _ _ (by omega)]; exact g8, by rw [bys_len]; exact h10⟩⟩ hF
    have d10 : ((ps.length : Int) == 9) = true := by simp; omega
    have HNO : Hid (∀ r, RuleOk r → rulT r ≠ s) := line_no' HPS.out (.inl (hF))
    go_wp2_with fail
    obtain ⟨cur', qh, _, _, q0, q1, q2, q3, q4⟩ := HRr.out.set5 0 (.int .i64 0) (.int .i64 0) (.int .i64 0) (.int .i64 0) (.slice none 0 0) (by simp)
    have k0 := (qh.cell 0).trans q0
    have k1 := (qh.cell (0 + 1)).trans q1
    have k2 := (qh.cell (0 + 2)).trans q2
    have k3 := (qh.cell (0 + 3)).trans q3
    have k4 := (qh.cell (0 + 4)).trans q4
    simp only [Nat.zero_add] at k0 k1 k2 k3 k4
    refine bodyPost_ret (v := .tuple #[.agg #[.int .i64 0, .int .i64 0, .int .i64 0, .int .i64 0, .slice none 0 0], .bool false]) ?_ rfl ?_
    · simp [results, Tryz.results21, go_sem, k0, k1, k2, k3, k4]
    · exact ⟨_, _, _, _, _, _, _, false, rfl, below_set5 HBW1.out (Nat.le_refl _) 0 _ _ _ _ _, (fun h => by cases h), fun _ => HNO.out⟩
  have HF : Hid (Form (bys ps)) := hF
  clear hF
  have HSZ : Hid (∀ k (h : k < ps.length), ps[k].size ≤ maxLen) := fun k hk => by
    have hm : (ps[k]).data.toList ∈ cutL 32 s.data.toList := by rw [← HPS.out]; exact List.mem_map.2 ⟨_, List.getElem_mem hk, rfl⟩
    have := cutL_len' 32 _ _ hm
    simp at this
    have h2 : ps[k].size ≤ s.size := this
    unfold maxLen; omega
  have HN : Hid (∀ (x : ByteArray) w, x.size ≤ maxLen → Calls Tryz.prog 38 #[.string x] w fun e w' => e = .returned (.int .i64 (numV x.data.toList)) ∧ w' = w) := fun x w h => l41Num x w h
  go_upto_region 2 with fail
  go_cut [51] (fun t51 wx => t51 = .bool false ∧ wx = w1)
  case first =>
    by_cases h9 : 8 < ps.length
    · have d9 : decide ((8 : Int) < (ps.length : Int)) = true := decide_eq_true (by omega)
      have c8 := HCELL.out 8 (by omega)
      have h10 := HF.out.2.2.2.2.2 (by rw [bys_len]; omega)
      rw [bys_at _ _ (by omega), bys_len] at h10
      have e8 : (ps[8].toList == [98, 117, 116]) = true := by simpa [ByteArray.toList_eq, butL] using h10.1
      have d10 : ((ps.length : Int) == 9) = false := by have := h10.2; simp; omega
      clear h10
      go_wp2_with fail
      go_meet
      case rel => exact ⟨rfl, rfl⟩
    · have d9 : decide ((8 : Int) < (ps.length : Int)) = false := decide_eq_false (by omega)
      go_wp2_with fail
      go_meet
      case rel => exact ⟨rfl, rfl⟩
  case rest =>
    obtain ⟨rfl, rfl⟩ := hcut
    rename World => w1
    clear c0 c2 c4 c6 e0 e2 e4 e6 g0 g2 g4 g6 d8 r0 r1 r2 r3 r4 f0 f1 f2 f3 f4
    have n1 := HCELL.out 1 (by omega)
    have n3 := HCELL.out 3 (by omega)
    have n5 := HCELL.out 5 (by omega)
    have n7 := HCELL.out 7 (by omega)
    have z1 := HSZ.out 1 (by omega)
    have z3 := HSZ.out 3 (by omega)
    have z5 := HSZ.out 5 (by omega)
    have z7 := HSZ.out 7 (by omega)
    generalize x1 : ps[1] = s1 at n1 z1
    generalize x3 : ps[3] = s3 at n3 z3
    generalize x5 : ps[5] = s5 at n5 z5
    generalize x7 : ps[7] = s7 at n7 z7
    have X1 : Hid _ := x1
    have X3 : Hid _ := x3
    have X5 : Hid _ := x5
    have X7 : Hid _ := x7
    clear x1 x3 x5 x7
    go_upto_region 4 with fail
    go_cut [5] (fun t5 wx => t5 = .pointer (some ⟨w1.heap.size, 0, none⟩) ∧ Holds wx w1.heap.size 50 #[.int .i64 (numV s1.data.toList), .int .i64 (numV s3.data.toList), .int .i64 (numV s5.data.toList), .int .i64 (numV s7.data.toList), .slice none 0 0] ∧ Below w1.heap.size w1 wx)
    case first =>
      clear HRr HBW1 HW1 HF HPS X1 X3 X5 X7 HC
      have hlt1 : (1 : Int) < (ps.length : Int) := by omega
      have hlt3 : (3 : Int) < (ps.length : Int) := by omega
      have hlt5 : (5 : Int) < (ps.length : Int) := by omega
      have hlt7 : (7 : Int) < (ps.length : Int) := by omega
      go_region_held3 (fun w' => w'.cell? ⟨b, off + 1, none⟩ = some (.string s1) ∧ w'.cell? ⟨b, off + 3, none⟩ = some (.string s3) ∧ w'.cell? ⟨b, off + 5, none⟩ = some (.string s5) ∧ w'.cell? ⟨b, off + 7, none⟩ = some (.string s7)) (simp [go_sem, n1, n3, n5, n7, hbl])
        (first | (go_at_call 38; refine (HN.out _ _ (by assumption)).mono ?_; rintro e wn ⟨rfl, rfl⟩))
      all_goals
        go_wp2_with fail
        go_meet
        case rel => exact ⟨rfl, heap_alloc_new _ _, ((Below.refl _ _).alloc (Nat.le_refl _) _).drew⟩
    case rest =>
      rename World => wA
      obtain ⟨rfl, hH0, hB0⟩ := hcut
      have HH0 : Hid _ := hH0
      have HB0 : Hid _ := hB0
      clear hH0 hB0
      have y1 := numV_bd s1.data.toList
      have y3 := numV_bd s3.data.toList
      have y5 := numV_bd s5.data.toList
      have y7 := numV_bd s7.data.toList
      have HRW : Hid ((ruleW (bys ps)).ev = numV s1.data.toList ∧ (ruleW (bys ps)).at_ = numV s3.data.toList ∧ (ruleW (bys ps)).fr = numV s5.data.toList ∧ (ruleW (bys ps)).to_ = numV s7.data.toList) := by
        rw [← X1.out, ← X3.out, ← X5.out, ← X7.out]
        exact ⟨by simp only [ruleW]; rw [bys_at], by simp only [ruleW]; rw [bys_at], by simp only [ruleW]; rw [bys_at], by simp only [ruleW]; rw [bys_at]⟩
      clear n1 n3 n5 n7 z1 z3 z5 z7 X1 X3 X5 X7
      generalize numV s1.data.toList = v1 at HH0 HRW y1
      generalize numV s3.data.toList = v3 at HH0 HRW y3
      generalize numV s5.data.toList = v5 at HH0 HRW y5
      generalize numV s7.data.toList = v7 at HH0 HRW y7
      go_wp2_with fail
      go_loopw [6] (fun t6 wr => ∃ (q : Nat) (v : Value), t6 = .int .i64 q ∧ 9 ≤ q ∧ (q ≤ ps.length ∨ q = 9) ∧ Holds wr w1.heap.size 50 #[.int .i64 v1, .int .i64 v3, .int .i64 v5, .int .i64 v7, v] ∧ Acc wr (w1.heap.size + 1) 3 1 v (butW ps q).length ((butW ps q).map (Value.int .i64)) ∧ Below w1.heap.size w1 wr) (fun t6 _ => ps.length - (intOf t6).toNat)
      case atStart => exact ⟨9, _, rfl, Nat.le_refl _, .inr rfl, HH0.out, Acc.nil _ _ _ _, HB0.out⟩
      case round =>
        clear HH0 HB0
        obtain ⟨q, v, rfl, hq9, hq, hH, hA, hB⟩ := hrel
        by_cases hlt : q < ps.length
        · have hc := (hB.cell (p := ⟨b, off + q, none⟩) hbl).trans (HCELL.out q hlt)
          have hz := HSZ.out q hlt
          have hst := butW_step ps q hq9 hlt
          have hnl := butW_len ps q
          have g4 := hH.cell 4
          have g5 := hH.frozen 4
          simp at g4
          have hne1 : b ≠ w1.heap.size := by omega
          have hEl : w1.heap.size < wr.heap.size := hH.lt
          have hbr : b < wr.heap.size := by omega
          have HH : Hid (Holds wr w1.heap.size 50 #[.int .i64 v1, .int .i64 v3, .int .i64 v5, .int .i64 v7, v]) := hH
          have HA : Hid (Acc wr (w1.heap.size + 1) 3 1 v (butW ps q).length ((butW ps q).map (Value.int .i64))) := hA
          have HB : Hid (Below w1.heap.size w1 wr) := hB
          clear hH hA hB
          generalize hx : ps[q] = x at hc hz hst
          have HX : Hid _ := hx
          clear hx
          have HST : Hid _ := hst
          clear hst
          generalize hnb : butW ps q = nb at HA HST hnl
          clear hnb
          go_upto_region 8 with fail
          have hmo : Tryz.prog.follows .mixedOrders = true := by kernel_rfl
          have hSW : ∀ W, Below w1.heap.size w1 W → W.cell? ⟨b, off + q, none⟩ = some (.string x) := fun W h => (h.cell (p := ⟨b, off + q, none⟩) hbl).trans ((HCELL.out q hlt).trans (congrArg (fun y => some (Value.string y)) HX.out))
          refine wp_region_noPanic (wp_region_held (S := (fun W => W.cell? ⟨b, off + q, none⟩ = some (.string x))) hmo ?_)
          refine wpAnyH_take (i := 0) (v := .pointer (some ⟨w1.heap.size, 4, none⟩)) rfl (by kernel_rfl) (by kernel_rfl) (by kernel_rfl) (fun _ _ _ h => h) (.inl ⟨by kernel_rfl, fun w' hw' => by simp [go_sem]⟩) (hSW _ HB.out.drew) ?_
          try simp only [Act.put, List.setIfInBounds_toArray, List.set_cons_zero, List.set_cons_succ]
          refine wpAnyH_take (i := 2) (v := .slice (some ⟨b, off, none⟩) ps.length cap) rfl (by kernel_rfl) (by kernel_rfl) (by kernel_rfl) (fun _ _ _ h => h) (.inl ⟨by kernel_rfl, fun w' hw' => by kernel_rfl⟩) (hSW _ HB.out.drew) ?_
          try simp only [Act.put, List.setIfInBounds_toArray, List.set_cons_zero, List.set_cons_succ]
          refine wpAnyH_take (i := 3) (v := .int .i64 q) rfl (by kernel_rfl) (by kernel_rfl) (by kernel_rfl) (fun _ _ _ h => h) (.inl ⟨by kernel_rfl, fun w' hw' => by kernel_rfl⟩) (hSW _ HB.out.drew) ?_
          try simp only [Act.put, List.setIfInBounds_toArray, List.set_cons_zero, List.set_cons_succ]
          refine wpAnyH_take (i := 4) (v := .pointer (some ⟨b, off + q, none⟩)) rfl (by kernel_rfl) (by kernel_rfl) (by kernel_rfl) (fun _ _ _ h => h) (.inl ⟨by kernel_rfl, fun w' hw' => by simp [go_sem, hlt]⟩) (hSW _ HB.out.drew) ?_
          try simp only [Act.put, List.setIfInBounds_toArray, List.set_cons_zero, List.set_cons_succ]
          refine wpAnyH_take (i := 5) (v := .string x) rfl (by kernel_rfl) (by kernel_rfl) (by kernel_rfl) (fun _ _ _ h => h) (.inl ⟨by kernel_rfl, fun w' hw' => by simp [go_sem, hw']⟩) (hSW _ HB.out.drew) ?_
          try simp only [Act.put, List.setIfInBounds_toArray, List.set_cons_zero, List.set_cons_succ]
          refine wpAnyH_two (i := 1) (j := 6) rfl rfl (by kernel_rfl) (by kernel_rfl) (by kernel_rfl) (fun KK hKK => ?_) (fun KK hKK => ?_)
          · go_simp
            refine hKK _ _ (hSW _ HB.out.drew) ?_
            clear hKK KK
            try simp only [Act.put, List.setIfInBounds_toArray, List.set_cons_zero, List.set_cons_succ]
            refine wpAnyH_one (i := 6) rfl (by kernel_rfl) (by kernel_rfl) (fun KK hKK => ?_)
            refine wp_call1 (HN.out x _ hz) (fun e w' h => ⟨_, h.1⟩) (enters_of Tryz.func38 (by kernel_rfl) rfl) _ _ (by rfl) (by kernel_rfl) ?_
            rintro r W ⟨he, rfl⟩
            cases he
            refine hKK _ _ (hSW _ HB.out.drew) ?_
            clear hKK KK
            try simp only [Act.put, List.setIfInBounds_toArray, List.set_cons_zero, List.set_cons_succ]
            refine wpAnyH_one (i := 7) rfl (by kernel_rfl) (by kernel_rfl) (fun KK hKK => ?_)
            go_simp
            refine hKK _ _ (hSW _ (HB.out.drew.alloc HB.out.size _)) ?_
            clear hKK KK
            try simp only [Act.put, List.setIfInBounds_toArray, List.set_cons_zero, List.set_cons_succ]
            refine wpAnyH_one (i := 8) rfl (by kernel_rfl) (by kernel_rfl) (fun KK hKK => ?_)
            refine step_acc_int (F := w1.heap.size + 1) (z := numV x.data.toList) (acc_drew HA.out) (by simp; omega) (by omega) _ _ (by rfl) (by rfl) (by rfl) ?_
            intro v' wa hA1 hg
            have hgB : Below w1.heap.size w1 wa := (HB.out.drew.alloc HB.out.size _).trans (hg.mono (Nat.le_succ _))
            have hH1 : Holds wa w1.heap.size 50 _ := holds_later (HH.out.below ((Below.refl _ _).drew.alloc (Nat.le_refl _) _)) hg (Nat.lt_succ_self _)
            have k4 := hH1.cell 4
            have k5 := hH1.frozen 4
            simp at k4
            obtain ⟨a1, n1, cp1, rfl⟩ : ∃ a n c, v' = .slice a n c := by obtain ⟨x, y, h⟩ := hA1.row.form; exact ⟨_, _, _, h⟩
            refine hKK _ _ (hSW _ hgB) ?_
            clear hKK KK
            try simp only [Act.put, List.setIfInBounds_toArray, List.set_cons_zero, List.set_cons_succ]
            refine wpAnyH_take (i := 9) (v := .pointer (some ⟨w1.heap.size, 4, none⟩)) rfl (by kernel_rfl) (by kernel_rfl) (by kernel_rfl) (fun _ _ _ h => h) (.inl ⟨by kernel_rfl, fun w' hw' => by simp [go_sem]⟩) (hSW _ hgB) ?_
            try simp only [Act.put, List.setIfInBounds_toArray, List.set_cons_zero, List.set_cons_succ]
            refine wpAnyH_one (i := 10) rfl (by kernel_rfl) (by kernel_rfl) (fun KK hKK => ?_)
            go_simp
            refine hKK _ _ (hSW _ (hgB.setCell (p := ⟨w1.heap.size, 4, none⟩) (Nat.le_refl _) _)) ?_
            clear hKK KK
            try simp only [Act.put, List.setIfInBounds_toArray, List.set_cons_zero, List.set_cons_succ]
            refine wpAnyH_done (by kernel_rfl) ?_ _
            refine NoPanic.normal ?_
            have HX1 : Hid _ := hH1.set 4 (.slice a1 n1 cp1)
            have HY1 : Hid (Acc (wa.setCell ⟨w1.heap.size, 4, none⟩ (.slice a1 n1 cp1)) _ _ _ _ _ _) := acc_setElse hA1 (p := ⟨w1.heap.size, 4, none⟩) (Nat.lt_succ_self _) (.slice a1 n1 cp1)
            have HZ1 : Hid _ := hgB.setCell (p := ⟨w1.heap.size, 4, none⟩) (Nat.le_refl _) (.slice a1 n1 cp1)
            clear hA1 hg hgB hH1
            go_wp2_with fail
            go_roundw
            case rel => exact ⟨q + 1, _, by go_num, by omega, .inl (by omega), HX1.out, by rw [HST.out, List.length_append]; exact HY1.out, HZ1.out⟩
            case measure => simp [intOf]; omega
          · refine wp_call1 (HN.out x _ hz) (fun e w' h => ⟨_, h.1⟩) (enters_of Tryz.func38 (by kernel_rfl) rfl) _ _ (by rfl) (by kernel_rfl) ?_
            rintro r W ⟨he, rfl⟩
            cases he
            refine hKK _ _ (hSW _ HB.out.drew) ?_
            clear hKK KK
            try simp only [Act.put, List.setIfInBounds_toArray, List.set_cons_zero, List.set_cons_succ]
            refine wpAnyH_two (i := 1) (j := 7) rfl rfl (by kernel_rfl) (by kernel_rfl) (by kernel_rfl) (fun KK hKK => ?_) (fun KK hKK => ?_)
            · go_simp
              refine hKK _ _ (hSW _ HB.out.drew) ?_
              clear hKK KK
              try simp only [Act.put, List.setIfInBounds_toArray, List.set_cons_zero, List.set_cons_succ]
              refine wpAnyH_one (i := 7) rfl (by kernel_rfl) (by kernel_rfl) (fun KK hKK => ?_)
              go_simp
              refine hKK _ _ (hSW _ (HB.out.drew.alloc HB.out.size _)) ?_
              clear hKK KK
              try simp only [Act.put, List.setIfInBounds_toArray, List.set_cons_zero, List.set_cons_succ]
              refine wpAnyH_one (i := 8) rfl (by kernel_rfl) (by kernel_rfl) (fun KK hKK => ?_)
              refine step_acc_int (F := w1.heap.size + 1) (z := numV x.data.toList) (acc_drew HA.out) (by simp; omega) (by omega) _ _ (by rfl) (by rfl) (by rfl) ?_
              intro v' wa hA1 hg
              have hgB : Below w1.heap.size w1 wa := (HB.out.drew.alloc HB.out.size _).trans (hg.mono (Nat.le_succ _))
              have hH1 : Holds wa w1.heap.size 50 _ := holds_later (HH.out.below ((Below.refl _ _).drew.alloc (Nat.le_refl _) _)) hg (Nat.lt_succ_self _)
              have k4 := hH1.cell 4
              have k5 := hH1.frozen 4
              simp at k4
              obtain ⟨a1, n1, cp1, rfl⟩ : ∃ a n c, v' = .slice a n c := by obtain ⟨x, y, h⟩ := hA1.row.form; exact ⟨_, _, _, h⟩
              refine hKK _ _ (hSW _ hgB) ?_
              clear hKK KK
              try simp only [Act.put, List.setIfInBounds_toArray, List.set_cons_zero, List.set_cons_succ]
              refine wpAnyH_take (i := 9) (v := .pointer (some ⟨w1.heap.size, 4, none⟩)) rfl (by kernel_rfl) (by kernel_rfl) (by kernel_rfl) (fun _ _ _ h => h) (.inl ⟨by kernel_rfl, fun w' hw' => by simp [go_sem]⟩) (hSW _ hgB) ?_
              try simp only [Act.put, List.setIfInBounds_toArray, List.set_cons_zero, List.set_cons_succ]
              refine wpAnyH_one (i := 10) rfl (by kernel_rfl) (by kernel_rfl) (fun KK hKK => ?_)
              go_simp
              refine hKK _ _ (hSW _ (hgB.setCell (p := ⟨w1.heap.size, 4, none⟩) (Nat.le_refl _) _)) ?_
              clear hKK KK
              try simp only [Act.put, List.setIfInBounds_toArray, List.set_cons_zero, List.set_cons_succ]
              refine wpAnyH_done (by kernel_rfl) ?_ _
              refine NoPanic.normal ?_
              have HX1 : Hid _ := hH1.set 4 (.slice a1 n1 cp1)
              have HY1 : Hid (Acc (wa.setCell ⟨w1.heap.size, 4, none⟩ (.slice a1 n1 cp1)) _ _ _ _ _ _) := acc_setElse hA1 (p := ⟨w1.heap.size, 4, none⟩) (Nat.lt_succ_self _) (.slice a1 n1 cp1)
              have HZ1 : Hid _ := hgB.setCell (p := ⟨w1.heap.size, 4, none⟩) (Nat.le_refl _) (.slice a1 n1 cp1)
              clear hA1 hg hgB hH1
              go_wp2_with fail
              go_roundw
              case rel => exact ⟨q + 1, _, by go_num, by omega, .inl (by omega), HX1.out, by rw [HST.out, List.length_append]; exact HY1.out, HZ1.out⟩
              case measure => simp [intOf]; omega
            · go_simp
              refine hKK _ _ (hSW _ (HB.out.drew.alloc HB.out.size _)) ?_
              clear hKK KK
              try simp only [Act.put, List.setIfInBounds_toArray, List.set_cons_zero, List.set_cons_succ]
              refine wpAnyH_one (i := 1) rfl (by kernel_rfl) (by kernel_rfl) (fun KK hKK => ?_)
              go_simp
              refine hKK _ _ (hSW _ (HB.out.drew.alloc HB.out.size _)) ?_
              clear hKK KK
              try simp only [Act.put, List.setIfInBounds_toArray, List.set_cons_zero, List.set_cons_succ]
              refine wpAnyH_one (i := 8) rfl (by kernel_rfl) (by kernel_rfl) (fun KK hKK => ?_)
              refine step_acc_int (F := w1.heap.size + 1) (z := numV x.data.toList) (acc_drew HA.out) (by simp; omega) (by omega) _ _ (by rfl) (by rfl) (by rfl) ?_
              intro v' wa hA1 hg
              have hgB : Below w1.heap.size w1 wa := (HB.out.drew.alloc HB.out.size _).trans (hg.mono (Nat.le_succ _))
              have hH1 : Holds wa w1.heap.size 50 _ := holds_later (HH.out.below ((Below.refl _ _).drew.alloc (Nat.le_refl _) _)) hg (Nat.lt_succ_self _)
              have k4 := hH1.cell 4
              have k5 := hH1.frozen 4
              simp at k4
              obtain ⟨a1, n1, cp1, rfl⟩ : ∃ a n c, v' = .slice a n c := by obtain ⟨x, y, h⟩ := hA1.row.form; exact ⟨_, _, _, h⟩
              refine hKK _ _ (hSW _ hgB) ?_
              clear hKK KK
              try simp only [Act.put, List.setIfInBounds_toArray, List.set_cons_zero, List.set_cons_succ]
              refine wpAnyH_take (i := 9) (v := .pointer (some ⟨w1.heap.size, 4, none⟩)) rfl (by kernel_rfl) (by kernel_rfl) (by kernel_rfl) (fun _ _ _ h => h) (.inl ⟨by kernel_rfl, fun w' hw' => by simp [go_sem]⟩) (hSW _ hgB) ?_
              try simp only [Act.put, List.setIfInBounds_toArray, List.set_cons_zero, List.set_cons_succ]
              refine wpAnyH_one (i := 10) rfl (by kernel_rfl) (by kernel_rfl) (fun KK hKK => ?_)
              go_simp
              refine hKK _ _ (hSW _ (hgB.setCell (p := ⟨w1.heap.size, 4, none⟩) (Nat.le_refl _) _)) ?_
              clear hKK KK
              try simp only [Act.put, List.setIfInBounds_toArray, List.set_cons_zero, List.set_cons_succ]
              refine wpAnyH_done (by kernel_rfl) ?_ _
              refine NoPanic.normal ?_
              have HX1 : Hid _ := hH1.set 4 (.slice a1 n1 cp1)
              have HY1 : Hid (Acc (wa.setCell ⟨w1.heap.size, 4, none⟩ (.slice a1 n1 cp1)) _ _ _ _ _ _) := acc_setElse hA1 (p := ⟨w1.heap.size, 4, none⟩) (Nat.lt_succ_self _) (.slice a1 n1 cp1)
              have HZ1 : Hid _ := hgB.setCell (p := ⟨w1.heap.size, 4, none⟩) (Nat.le_refl _) (.slice a1 n1 cp1)
              clear hA1 hg hgB hH1
              go_wp2_with fail
              go_roundw
              case rel => exact ⟨q + 1, _, by go_num, by omega, .inl (by omega), HX1.out, by rw [HST.out, List.length_append]; exact HY1.out, HZ1.out⟩
              case measure => simp [intOf]; omega
        · have hEl : w1.heap.size < wr.heap.size := hH.lt
          have HEr : Hid (Holds wr w1.heap.size 50 #[.int .i64 v1, .int .i64 v3, .int .i64 v5, .int .i64 v7, v]) := hH
          have HRw : Hid (Holds wr w.heap.size 50 #[.int .i64 0, .int .i64 0, .int .i64 0, .int .i64 0, .slice none 0 0]) := holds_later HRr.out hB hRE
          have HBWr : Hid (Below w.heap.size w wr) := HBW1.out.trans (hB.mono (Nat.le_of_lt hRE))
          obtain ⟨a1, n1, cp1, rfl⟩ : ∃ a n c, v = .slice a n c := by obtain ⟨x, y, h⟩ := hA.row.form; exact ⟨_, _, _, h⟩
          have hneE : w1.heap.size ≠ w.heap.size := by omega
          have HAB : Hid (0 < n1 → ∀ b off, a1 = some ⟨b, off, none⟩ → w1.heap.size + 1 ≤ b) := acc_far hA
          obtain ⟨hir, hn1⟩ := isRow_of_row hA.row (fun x hx => wf_small (butW_bd ps q x hx))
          have HRU : Hid (ruleW (bys ps) = ⟨v1, v3, v5, v7, butW ps q⟩) := by
            obtain ⟨h1, h2, h3, h4⟩ := HRW.out
            have h5 : (ruleW (bys ps)).but = butW ps q := (butW_all ps q hlt).symm
            rcases hr : ruleW (bys ps) with ⟨a, b, c, d, e⟩
            rw [hr] at h1 h2 h3 h4 h5
            simp only at h1 h2 h3 h4 h5
            subst h1 h2 h3 h4 h5
            rfl
          have HIR : Hid (IsRow .i64 wr a1 n1 cp1 (butW ps q)) := hir
          have HEO : Hid (∀ w', Below wr.heap.size wr w' → Calls Tryz.prog 27 #[.agg #[.int .i64 v1, .int .i64 v3, .int .i64 v5, .int .i64 v7, .slice a1 n1 cp1]] w' fun x w'' => x = .returned (.bool (ruleOk ⟨v1, v3, v5, v7, butW ps q⟩)) ∧ Below w'.heap.size w' w'') := fun w' hb' => l41RuleOk ⟨v1, v3, v5, v7, butW ps q⟩ a1 n1 cp1 w' (HIR.out.below hb')
          clear hir hH hA hB hn1
          generalize hrr : (⟨v1, v3, v5, v7, butW ps q⟩ : Rul) = rr at HEO HRU
          have HRR : Hid _ := hrr
          clear hrr
          generalize hok : ruleOk rr = ok at HEO
          have HOK : Hid _ := hok
          clear hok
          go_wp2_with fail
          have hmo : Tryz.prog.follows .mixedOrders = true := by kernel_rfl
          refine wp_region_noPanic (wp_region_held (S := (fun W => W.cell? ⟨w1.heap.size, 0, none⟩ = some (.int .i64 v1) ∧ W.cell? ⟨w1.heap.size, 1, none⟩ = some (.int .i64 v3) ∧ W.cell? ⟨w1.heap.size, 2, none⟩ = some (.int .i64 v5) ∧ W.cell? ⟨w1.heap.size, 3, none⟩ = some (.int .i64 v7) ∧ W.cell? ⟨w1.heap.size, 4, none⟩ = some (.slice a1 n1 cp1))) hmo ?_)
          have hS0 := five (holds_drew HEr.out)
          refine wpAnyH_take (i := 0) (v := (.agg #[.int .i64 v1, .int .i64 v3, .int .i64 v5, .int .i64 v7, .slice a1 n1 cp1])) rfl (by kernel_rfl) (by kernel_rfl) (by kernel_rfl) (fun _ _ _ h => h) (.inl ⟨by kernel_rfl, fun w' hw' => by obtain ⟨y0, y1, y2, y3, y4⟩ := hw'; simp [go_sem, y0, y1, y2, y3, y4]⟩) hS0 ?_
          try simp only [Act.put, List.setIfInBounds_toArray, List.set_cons_zero, List.set_cons_succ]
          refine wpAnyH_take (i := 1) (v := (.agg #[.int .i64 v1, .int .i64 v3, .int .i64 v5, .int .i64 v7, .slice a1 n1 cp1])) rfl (by kernel_rfl) (by kernel_rfl) (by kernel_rfl) (fun _ _ _ h => h) (.inl ⟨by kernel_rfl, fun w' hw' => by obtain ⟨y0, y1, y2, y3, y4⟩ := hw'; simp [go_sem, y0, y1, y2, y3, y4]⟩) hS0 ?_
          try simp only [Act.put, List.setIfInBounds_toArray, List.set_cons_zero, List.set_cons_succ]
          refine wpAnyH_one (i := 2) rfl (by kernel_rfl) (by kernel_rfl) (fun KK hKK => ?_)
          refine wp_call1 (HEO.out _ (Below.refl _ _).drew) (fun e w' h => ⟨_, h.1⟩) (enters_of Tryz.func27 (by kernel_rfl) rfl) _ _ (by rfl) (by kernel_rfl) ?_
          rintro r5 w5 ⟨he5, hw5⟩
          cases he5
          have hEw5 : Holds w5 w1.heap.size 50 #[.int .i64 v1, .int .i64 v3, .int .i64 v5, .int .i64 v7, .slice a1 n1 cp1] := Holds.below (w := wr.drew) HEr.out hw5
          have hRw5 : Holds w5 w.heap.size 50 #[.int .i64 0, .int .i64 0, .int .i64 0, .int .i64 0, .slice none 0 0] := Holds.below (w := wr.drew) HRw.out hw5
          have hS5 := five hEw5
          refine hKK _ _ hS5 ?_
          clear hKK KK
          try simp only [Act.put, List.setIfInBounds_toArray, List.set_cons_zero, List.set_cons_succ]
          have b50 := hRw5.cell 0
          have d50 := hRw5.frozen 0
          have b51 := hRw5.cell 1
          have d51 := hRw5.frozen 1
          have b52 := hRw5.cell 2
          have d52 := hRw5.frozen 2
          have b53 := hRw5.cell 3
          have d53 := hRw5.frozen 3
          have b54 := hRw5.cell 4
          have d54 := hRw5.frozen 4
          simp at b50 b51 b52 b53 b54
          refine wpAnyH_one (i := 3) rfl (by kernel_rfl) (by kernel_rfl) (fun KK hKK => ?_)
          go_simp
          have hS9 := five (holds_else5 hEw5 (.int .i64 v1) (.int .i64 v3) (.int .i64 v5) (.int .i64 v7) (.slice a1 n1 cp1) hneE)
          refine hKK _ _ hS9 ?_
          clear hKK KK
          try simp only [Act.put, List.setIfInBounds_toArray, List.set_cons_zero, List.set_cons_succ]
          refine wpAnyH_take (i := 4) (v := (.bool ok)) rfl (by kernel_rfl) (by kernel_rfl) (by kernel_rfl) (fun _ _ _ h => h) (.inl ⟨by kernel_rfl, fun w' hw' => by kernel_rfl⟩) hS9 ?_
          try simp only [Act.put, List.setIfInBounds_toArray, List.set_cons_zero, List.set_cons_succ]
          refine wpAnyH_done (by kernel_rfl) ?_ _
          refine NoPanic.normal ?_
          go_wp2_with fail
          obtain ⟨cur', qh, _, _, q0, q1, q2, q3, q4⟩ := hRw5.set5 0 (.int .i64 v1) (.int .i64 v3) (.int .i64 v5) (.int .i64 v7) (.slice a1 n1 cp1) (by simp)
          have k0 := (qh.cell 0).trans q0
          have k1 := (qh.cell (0 + 1)).trans q1
          have k2 := (qh.cell (0 + 2)).trans q2
          have k3 := (qh.cell (0 + 3)).trans q3
          have k4 := (qh.cell (0 + 4)).trans q4
          simp only [Nat.zero_add] at k0 k1 k2 k3 k4
          have hb5 : Below wr.heap.size wr w5 := undrewR hw5
          refine bodyPost_ret (v := .tuple #[.agg #[.int .i64 v1, .int .i64 v3, .int .i64 v5, .int .i64 v7, .slice a1 n1 cp1], .bool ok]) ?_ rfl ?_
          · simp [results, Tryz.results21, go_sem, k0, k1, k2, k3, k4]
          · refine ⟨_, _, _, _, _, _, _, ok, rfl, below_set5 (bcall HBWr.out HBWr.out.size hb5) (Nat.le_refl _) 0 _ _ _ _ _, fun h => ?_, fun h => ?_⟩
            · have hro : RuleOk rr := of_decide_eq_true (p := RuleOk rr) (by have := HOK.out; rw [h] at this; exact this)
              refine ⟨rr, ?_, hro, ?_, fun hl b' o' ea => by have := HAB.out hl b' o' ea; omega⟩
              · rw [← HRR.out]
                exact ⟨a1, n1, cp1, rfl, isRow_set5far (HIR.out.below hb5) (fun hl b' o' e => by have := HAB.out hl b' o' e; omega) _ _ _ _ _, wf_small y1, wf_small y3, wf_small y5, wf_small y7⟩
              · have hl := line_yes (l := s.data.toList) (by rw [← HPS.out]; exact HF.out) (by rw [← HPS.out, HRU.out]; exact hro)
                rw [← HPS.out, HRU.out] at hl
                cases s
                exact ByteArray.ext (Array.toList_inj.1 hl)
            · refine line_no' HPS.out (.inr ?_)
              rw [HRU.out]
              intro hro
              have := HOK.out
              rw [ruleOk_yes hro, h] at this
              cases this
end Cal
end Go.Proofs.YtkemfifkjaclhaaGreatDoor
