/- The law of RunAnswer's small functions: sizes, copies, comparisons. -/
import Derived.Test.YtljmmcagmjnkhaaRA2
import Derived.WalkKit
import Derived.WalkSpells
import Derived.WalkLawsBesides
import Derived.Deep.OwnRows
namespace Go.Proofs.Ytljmmcagmjnkhaa
open Go.RowKit Go

theorem bcall {B : Nat} {a w w' : World} (h : Below B a w) (hB : B ≤ w.heap.size) (k : Below w.heap.size w w') : Below B a w' := h.trans (k.mono hB)

/-- What is left of n behind k more (below 0: -1). -/
def lessBy (left k : Int) : Int := if left - k < 0 then -1 else left - k
theorem lessBy_pos {left k : Int} (h : left - k < 0) : lessBy left k = -1 := by unfold lessBy; rw [if_pos h]
theorem lessBy_neg {left k : Int} (h : ¬ left - k < 0) : lessBy left k = left - k := by unfold lessBy; rw [if_neg h]
theorem lessBy_bd {left k : Int} (hk : 0 ≤ k) (hl : -1 ≤ left ∧ left ≤ 1048576) : -1 ≤ lessBy left k ∧ lessBy left k ≤ 1048576 := by unfold lessBy; split <;> omega

set_option maxHeartbeats 400000 in
theorem szIntS (a : Option Addr) (len cap : Nat) (left : Int) (hl : -1 ≤ left ∧ left ≤ 1048576) (hm : len ≤ 9223372036854775807) (w : World) :
    Calls Try.prog 9 #[.slice a len cap, .int .i64 left] w fun e w' => e = .returned (.int .i64 (lessBy left len)) ∧ Below w.heap.size w w' := by
  go_enter Try.func9, Try.ntmps9
  by_cases h : left - len < 0
  · rw [lessBy_pos h]
    go_wp2
    all_goals go_ret
    exact ⟨rfl, Below.refl _ _⟩
  · rw [lessBy_neg h]
    go_wp2
    all_goals go_ret
    exact ⟨rfl, Below.refl _ _⟩

/-- What is left behind an ask. -/
def lessAsk (left : Int) (k n l : Nat) : Int := lessBy (lessBy (lessBy left k) n) l

set_option maxHeartbeats 400000 in
theorem szRunAsk (id : Int) (key name : ByteArray) (a : Option Addr) (len cap : Nat) (left : Int) (hl : 0 ≤ left ∧ left ≤ 1048576) (hk : key.size ≤ maxLen) (hn : name.size ≤ maxLen) (hm : len ≤ 9223372036854775807) (w : World) :
    Calls Try.prog 4 #[.agg #[.int .i64 id, .string key, .string name, .slice a len cap], .int .i64 left] w fun e w' => (∃ r : Int, e = .returned (.int .i64 r) ∧ -1 ≤ r ∧ r ≤ 1048576 ∧ (0 ≤ r → key.size + name.size + len ≤ 1048576)) ∧ Below w.heap.size w w' := by
  unfold maxLen at hk hn
  go_enter Try.func4, Try.ntmps4
  by_cases h : left - key.size < 0
  · go_wp2
    all_goals go_ret
    exact ⟨⟨_, rfl, by omega, by omega, by omega⟩, by first | exact Below.refl _ _ | exact (Below.refl _ _).alloc (Nat.le_refl _) _⟩
  by_cases h2 : left - key.size - name.size < 0
  · go_wp2
    all_goals go_ret
    exact ⟨⟨_, rfl, by omega, by omega, by omega⟩, by first | exact Below.refl _ _ | exact (Below.refl _ _).alloc (Nat.le_refl _) _⟩
  have hs := szIntS a len cap (left - key.size - name.size) (by omega) hm
  have hb : (lessBy (left - key.size - name.size) len = -1) ∨ (0 ≤ lessBy (left - key.size - name.size) len ∧ lessBy (left - key.size - name.size) len ≤ 1048576 ∧ key.size + name.size + len ≤ 1048576) := by unfold lessBy; split <;> omega
  generalize lessBy (left - key.size - name.size) len = r at hs hb
  have hs : Hid _ := hs
  go_wp2_with (go_at_call 9; refine (hs.out _).mono ?_; rintro e w1 ⟨rfl, hw1⟩)
  all_goals go_ret
  · exact ⟨⟨_, rfl, by omega, by omega, by omega⟩, (bcall ((Below.refl _ _).alloc (Nat.le_refl _) _) (by simp) hw1)⟩
  · exact ⟨⟨_, rfl, by omega, by omega, by omega⟩, (bcall ((Below.refl _ _).alloc (Nat.le_refl _) _) (by simp) hw1)⟩

theorem toIntS (a : Option Addr) (len cap : Nat) (zs : List Int) (w : World) (hr : IsRow .i64 w a len cap zs) (hs : len ≤ 1048576) :
    Calls Try.prog 10 #[.slice a len cap] w fun e w' => e = .returned (.slice (some ⟨w.heap.size, 0, none⟩) len len) ∧ IsRow .i64 w' (some ⟨w.heap.size, 0, none⟩) len len zs ∧ Below w.heap.size w w' := by
  refine (toInts a len cap zs w hr hs).mono ?_
  rintro e w' ⟨cur, rfl, hg, hcs, hc, hb⟩
  refine ⟨rfl, ⟨hr.1, Nat.le_refl _, by unfold maxLen; omega, fun _ => ⟨w.heap.size, 0, rfl, ?_, fun i hi => ?_⟩, hr.wf⟩, hb⟩
  · rw [Array.getElem?_eq_some_iff] at hg; exact hg.1
  · rw [cell_of_row _ _ _ _ _ _ hg]; simpa using hc i hi

set_option maxHeartbeats 400000 in
theorem toRunAsk (id : Int) (key name : ByteArray) (a : Option Addr) (len cap : Nat) (zs : List Int) (w : World) (hr : IsRow .i64 w a len cap zs) (hs : len ≤ 1048576) :
    Calls Try.prog 6 #[.agg #[.int .i64 id, .string key, .string name, .slice a len cap]] w fun e w' => (∃ b, e = .returned (.agg #[.int .i64 id, .string key, .string name, .slice (some ⟨b, 0, none⟩) len len]) ∧ IsRow .i64 w' (some ⟨b, 0, none⟩) len len zs) ∧ Below w.heap.size w w' := by
  have HT : Hid (∀ w, IsRow .i64 w a len cap zs → Calls Try.prog 10 #[.slice a len cap] w fun e w' => e = .returned (.slice (some ⟨w.heap.size, 0, none⟩) len len) ∧ IsRow .i64 w' (some ⟨w.heap.size, 0, none⟩) len len zs ∧ Below w.heap.size w w') := fun w hr => toIntS a len cap zs w hr hs
  have HR : Hid (IsRow .i64 w a len cap zs) := hr
  clear hr hs
  go_enter Try.func6, Try.ntmps6
  go_wp2_with fail
  refine (HT.out _ (by exact ((IsRow.alloc HR.out _).alloc _).alloc _)).mono ?_
  rintro e w1 ⟨rfl, hn, hb⟩
  obtain ⟨hcx, _⟩ := bcell hb
  go_wp2_with fail
  refine bodyPost_ret (v := .agg #[.int .i64 id, .string key, .string name, .slice (some ⟨w.heap.size + 1 + 1 + 1, 0, none⟩) len len]) ?_ rfl ?_
  · simp [results, Try.results6, go_sem, hcx]
  · have e : ((((w.alloc
                  (Obj.cells #[Value.int IntKind.i64 id, Value.string key, Value.string name, Value.slice a len cap]
                    24)).alloc
              (Obj.cells
                #[Value.int IntKind.i64 0, Value.string { data := #[] }, Value.string { data := #[] },
                  Value.slice none 0 0]
                27)).alloc
          (Obj.cells #[Value.int IntKind.i64 id, Value.string key, Value.string name, Value.slice none 0 0]
            27))).heap.size = w.heap.size + 1 + 1 + 1 := by simp
    rw [e] at hn
    refine ⟨⟨_, rfl, ?_⟩, ?_⟩
    · exact ((((hn.setElse (by simp) _).setElse (by simp) _).setElse (by simp) _).setElse (by simp) _).setElse (by simp) _
    · have h3 : Below w.heap.size w w1 := bcall ((((Below.refl _ _).alloc (Nat.le_refl _) _).alloc (by simp) _).alloc (by simp; omega) _) (by simp; omega) hb
      exact ((((h3.setCell (by simp; omega) _).setCell (by simp) _).setCell (by simp) _).setCell (by simp) _).setCell (by simp) _

end Go.Proofs.Ytljmmcagmjnkhaa
