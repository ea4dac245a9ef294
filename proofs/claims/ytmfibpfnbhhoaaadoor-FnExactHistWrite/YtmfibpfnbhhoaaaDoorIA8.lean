/- The program's words of what happened. -/
import Derived.Test.YtmfibpfnbhhoaaaDoorIA7
import Derived.Deep.AppendLies
import Derived.Deep.RegionHeld3
namespace Go.Proofs.YtmfibpfnbhhoaaaDoor
set_option linter.unusedVariables false
set_option linter.unusedSimpArgs false
open Go.RowKit Go

theorem IsRow.two {w : World} {b : Nat} {y z : Int} (hb : b < w.heap.size) (hc : w.cell? ⟨b, 0, .none⟩ = some (.int .i64 y)) (hd : w.cell? ⟨b, 1, .none⟩ = some (.int .i64 z)) (hy : (Lit.int .i64 y).wf = true) (hz : (Lit.int .i64 z).wf = true) : IsRow .i64 w (some ⟨b, 0, .none⟩) 2 2 [y, z] :=
  ⟨rfl, Nat.le_refl _, by unfold maxLen; omega, fun _ => ⟨b, 0, rfl, hb, fun i hi => (by
    rcases (by omega : i = 0 ∨ i = 1) with e | e
    · subst e; exact hc
    · subst e; exact hd)⟩, fun n hn => by simp at hn; rcases hn with rfl | rfl <;> assumption⟩

def hapS (kind id num : Int) (name : ByteArray) : List ByteArray :=
  if kind = 1 ∨ kind = 2 then [itoB id, itoB num] else if kind = 3 then [itoB id] else if kind = 4 then [name, itoB num] else []
set_option maxRecDepth 100000 in
set_option maxHeartbeats 1000000 in
theorem hapWords (kind id num : Int) (name : ByteArray) (hk : 1 ≤ kind ∧ kind ≤ 5) (w : World) (ht : Tab w) (hi : (Lit.int .i64 id).wf = true) (hn : (Lit.int .i64 num).wf = true) :
    Calls Tryd.prog 35 #[.agg #[.int .i64 kind, .int .i64 id, .string name, .int .i64 num]] w fun e w' => ∃ v, e = .returned v ∧ Row w' v (sv (hapS kind id num name)) ∧ Below w.heap.size w w' := by
  have HT : Hid (Tab w) := ht
  rcases (by omega : kind = 1 ∨ kind = 2 ∨ kind = 3 ∨ kind = 4 ∨ kind = 5) with rfl | rfl | rfl | rfl | rfl
  · have HN : Hid (∀ o, Calls Tryd.prog 32 #[.slice (some ⟨w.heap.size + 1, 0, none⟩) 2 2] ((w.alloc o).alloc (.cells #[.int .i64 id, .int .i64 num] 3)) fun e w' => ∃ v, e = .returned v ∧ Row w' v (sv (numS [id, num])) ∧ Below (w.heap.size + 2) ((w.alloc o).alloc (.cells #[.int .i64 id, .int .i64 num] 3)) w') := fun o => by
      have h := numWords (some ⟨w.heap.size + 1, 0, none⟩) 2 2 [id, num] ((w.alloc o).alloc (.cells #[.int .i64 id, .int .i64 num] 3)) (IsRow.two (by simp) (by simp [go_sem]) (by simp [go_sem]) hi hn) (HT.out.below (((Below.refl _ _).alloc (Nat.le_refl _) _).alloc (by simp) _)) (by omega)
      simpa using h
    clear hi hn ht
    go_enter Tryd.func35, Tryd.ntmps35
    go_wp2_with (go_at_call 32; refine (HN.out _).mono ?_; rintro e w1 ⟨v, rfl, hv, hw1⟩)
    go_ret
    exact ⟨_, rfl, hv, (((Below.refl _ _).alloc (Nat.le_refl _) _).alloc (by simp) _).trans (hw1.mono (by omega))⟩
  · have HN : Hid (∀ o, Calls Tryd.prog 32 #[.slice (some ⟨w.heap.size + 1, 0, none⟩) 2 2] ((w.alloc o).alloc (.cells #[.int .i64 id, .int .i64 num] 3)) fun e w' => ∃ v, e = .returned v ∧ Row w' v (sv (numS [id, num])) ∧ Below (w.heap.size + 2) ((w.alloc o).alloc (.cells #[.int .i64 id, .int .i64 num] 3)) w') := fun o => by
      have h := numWords (some ⟨w.heap.size + 1, 0, none⟩) 2 2 [id, num] ((w.alloc o).alloc (.cells #[.int .i64 id, .int .i64 num] 3)) (IsRow.two (by simp) (by simp [go_sem]) (by simp [go_sem]) hi hn) (HT.out.below (((Below.refl _ _).alloc (Nat.le_refl _) _).alloc (by simp) _)) (by omega)
      simpa using h
    clear hi hn ht
    go_enter Tryd.func35, Tryd.ntmps35
    go_wp2_with (go_at_call 32; refine (HN.out _).mono ?_; rintro e w1 ⟨v, rfl, hv, hw1⟩)
    go_ret
    exact ⟨_, rfl, hv, (((Below.refl _ _).alloc (Nat.le_refl _) _).alloc (by simp) _).trans (hw1.mono (by omega))⟩
  · have HN : Hid (∀ o, Calls Tryd.prog 32 #[.slice (some ⟨w.heap.size + 1, 0, none⟩) 1 1] ((w.alloc o).alloc (.cells #[.int .i64 id] 3)) fun e w' => ∃ v, e = .returned v ∧ Row w' v (sv (numS [id])) ∧ Below (w.heap.size + 2) ((w.alloc o).alloc (.cells #[.int .i64 id] 3)) w') := fun o => by
      have h := numWords (some ⟨w.heap.size + 1, 0, none⟩) 1 1 [id] ((w.alloc o).alloc (.cells #[.int .i64 id] 3)) (IsRow.one (by simp) (by simp [go_sem]) hi) (HT.out.below (((Below.refl _ _).alloc (Nat.le_refl _) _).alloc (by simp) _)) (by omega)
      simpa using h
    clear hi hn ht
    go_enter Tryd.func35, Tryd.ntmps35
    go_wp2_with (go_at_call 32; refine (HN.out _).mono ?_; rintro e w1 ⟨v, rfl, hv, hw1⟩)
    go_ret
    exact ⟨_, rfl, hv, (((Below.refl _ _).alloc (Nat.le_refl _) _).alloc (by simp) _).trans (hw1.mono (by omega))⟩
  · have HI : Hid (∀ w', Below (w.heap.size + 1) (w.alloc (.cells #[.int .i64 4, .int .i64 id, .string name, .int .i64 num] 72)) w' → Calls Tryd.prog 33 #[.int .i64 num] w' fun e w'' => e = .returned (.string (itoB num)) ∧ Below (w.heap.size + 1) (w.alloc (.cells #[.int .i64 4, .int .i64 id, .string name, .int .i64 num] 72)) w'') := fun w' hb => boxed hb (itoa num hn w' (HT.out.below (unbox hb)))
    clear hi hn ht
    go_enter Tryd.func35, Tryd.ntmps35
    go_wp2_with fail
    first | (go_region_with (go_at_call 33; refine (HI.out _ ?_).mono ?_; (first | exact Below.refl _ _ | assumption | exact (Below.refl _ _).drew); rintro x w2 ⟨rfl, hw2⟩; obtain ⟨c20, c21, c22, c23⟩ := box4 hw2)) | fail
    all_goals
      go_wp2
      go_ret
      refine ⟨_, rfl, Row.made w2 [.string name, .string (itoB num)] 9 (by unfold maxLen; simp), ?_⟩
      exact unbox (hw2.alloc (by have := hw2.size; simpa using this) _)
  · clear hi hn ht
    go_enter Tryd.func35, Tryd.ntmps35
    go_wp2
    go_ret
    exact ⟨_, rfl, Row.nil _, (Below.refl _ _).alloc (Nat.le_refl _) _⟩
end Go.Proofs.YtmfibpfnbhhoaaaDoor
