/- The program's words of an entry. -/
import Derived.Test.YtbngjpnbjknliaaGreatDoorJ13
namespace Go.Proofs.YtbngjpnbjknliaaGreatDoor
set_option linter.unusedVariables false
set_option linter.unusedSimpArgs false
open Go.RowKit Go

theorem kindWords (w : World) : Calls Tryz.prog 27 #[] w fun e w' => e = .returned (.agg #[.string ⟨#[]⟩, .string ⟨#[115, 116, 97, 114, 116]⟩, .string ⟨#[109, 97, 114, 107]⟩, .string ⟨#[97, 115, 107]⟩, .string ⟨#[100, 111, 110, 101]⟩, .string ⟨#[98, 114, 111, 107, 101]⟩, .string ⟨#[102, 105, 114, 101, 100]⟩, .string ⟨#[115, 105, 103, 110, 97, 108]⟩, .string ⟨#[99, 97, 110, 99, 101, 108]⟩, .string ⟨#[101, 110, 100]⟩]) ∧ Below w.heap.size w w' := by
  go_enter Tryz.func27, Tryz.ntmps27
  go_wp2
  exact bodyPost_ret (v := .agg #[.string ⟨#[]⟩, .string ⟨#[115, 116, 97, 114, 116]⟩, .string ⟨#[109, 97, 114, 107]⟩, .string ⟨#[97, 115, 107]⟩, .string ⟨#[100, 111, 110, 101]⟩, .string ⟨#[98, 114, 111, 107, 101]⟩, .string ⟨#[102, 105, 114, 101, 100]⟩, .string ⟨#[115, 105, 103, 110, 97, 108]⟩, .string ⟨#[99, 97, 110, 99, 101, 108]⟩, .string ⟨#[101, 110, 100]⟩]) (by simp [results, Tryz.results27, go_sem]) rfl ⟨rfl, (Below.refl _ _).alloc (Nat.le_refl _) _⟩
theorem kw_1 (w : World) : (Instr.index 58 (.agg #[.string ⟨#[]⟩, .string ⟨#[115, 116, 97, 114, 116]⟩, .string ⟨#[109, 97, 114, 107]⟩, .string ⟨#[97, 115, 107]⟩, .string ⟨#[100, 111, 110, 101]⟩, .string ⟨#[98, 114, 111, 107, 101]⟩, .string ⟨#[102, 105, 114, 101, 100]⟩, .string ⟨#[115, 105, 103, 110, 97, 108]⟩, .string ⟨#[99, 97, 110, 99, 101, 108]⟩, .string ⟨#[101, 110, 100]⟩]) (.int .i64 1)).run Tryz.prog w = .ok (.string ⟨#[115, 116, 97, 114, 116]⟩) w := by kernel_rfl
theorem kw_2 (w : World) : (Instr.index 58 (.agg #[.string ⟨#[]⟩, .string ⟨#[115, 116, 97, 114, 116]⟩, .string ⟨#[109, 97, 114, 107]⟩, .string ⟨#[97, 115, 107]⟩, .string ⟨#[100, 111, 110, 101]⟩, .string ⟨#[98, 114, 111, 107, 101]⟩, .string ⟨#[102, 105, 114, 101, 100]⟩, .string ⟨#[115, 105, 103, 110, 97, 108]⟩, .string ⟨#[99, 97, 110, 99, 101, 108]⟩, .string ⟨#[101, 110, 100]⟩]) (.int .i64 2)).run Tryz.prog w = .ok (.string ⟨#[109, 97, 114, 107]⟩) w := by kernel_rfl
theorem kw_3 (w : World) : (Instr.index 58 (.agg #[.string ⟨#[]⟩, .string ⟨#[115, 116, 97, 114, 116]⟩, .string ⟨#[109, 97, 114, 107]⟩, .string ⟨#[97, 115, 107]⟩, .string ⟨#[100, 111, 110, 101]⟩, .string ⟨#[98, 114, 111, 107, 101]⟩, .string ⟨#[102, 105, 114, 101, 100]⟩, .string ⟨#[115, 105, 103, 110, 97, 108]⟩, .string ⟨#[99, 97, 110, 99, 101, 108]⟩, .string ⟨#[101, 110, 100]⟩]) (.int .i64 3)).run Tryz.prog w = .ok (.string ⟨#[97, 115, 107]⟩) w := by kernel_rfl
theorem kw_4 (w : World) : (Instr.index 58 (.agg #[.string ⟨#[]⟩, .string ⟨#[115, 116, 97, 114, 116]⟩, .string ⟨#[109, 97, 114, 107]⟩, .string ⟨#[97, 115, 107]⟩, .string ⟨#[100, 111, 110, 101]⟩, .string ⟨#[98, 114, 111, 107, 101]⟩, .string ⟨#[102, 105, 114, 101, 100]⟩, .string ⟨#[115, 105, 103, 110, 97, 108]⟩, .string ⟨#[99, 97, 110, 99, 101, 108]⟩, .string ⟨#[101, 110, 100]⟩]) (.int .i64 4)).run Tryz.prog w = .ok (.string ⟨#[100, 111, 110, 101]⟩) w := by kernel_rfl
theorem kw_5 (w : World) : (Instr.index 58 (.agg #[.string ⟨#[]⟩, .string ⟨#[115, 116, 97, 114, 116]⟩, .string ⟨#[109, 97, 114, 107]⟩, .string ⟨#[97, 115, 107]⟩, .string ⟨#[100, 111, 110, 101]⟩, .string ⟨#[98, 114, 111, 107, 101]⟩, .string ⟨#[102, 105, 114, 101, 100]⟩, .string ⟨#[115, 105, 103, 110, 97, 108]⟩, .string ⟨#[99, 97, 110, 99, 101, 108]⟩, .string ⟨#[101, 110, 100]⟩]) (.int .i64 5)).run Tryz.prog w = .ok (.string ⟨#[98, 114, 111, 107, 101]⟩) w := by kernel_rfl
theorem kw_6 (w : World) : (Instr.index 58 (.agg #[.string ⟨#[]⟩, .string ⟨#[115, 116, 97, 114, 116]⟩, .string ⟨#[109, 97, 114, 107]⟩, .string ⟨#[97, 115, 107]⟩, .string ⟨#[100, 111, 110, 101]⟩, .string ⟨#[98, 114, 111, 107, 101]⟩, .string ⟨#[102, 105, 114, 101, 100]⟩, .string ⟨#[115, 105, 103, 110, 97, 108]⟩, .string ⟨#[99, 97, 110, 99, 101, 108]⟩, .string ⟨#[101, 110, 100]⟩]) (.int .i64 6)).run Tryz.prog w = .ok (.string ⟨#[102, 105, 114, 101, 100]⟩) w := by kernel_rfl
theorem kw_7 (w : World) : (Instr.index 58 (.agg #[.string ⟨#[]⟩, .string ⟨#[115, 116, 97, 114, 116]⟩, .string ⟨#[109, 97, 114, 107]⟩, .string ⟨#[97, 115, 107]⟩, .string ⟨#[100, 111, 110, 101]⟩, .string ⟨#[98, 114, 111, 107, 101]⟩, .string ⟨#[102, 105, 114, 101, 100]⟩, .string ⟨#[115, 105, 103, 110, 97, 108]⟩, .string ⟨#[99, 97, 110, 99, 101, 108]⟩, .string ⟨#[101, 110, 100]⟩]) (.int .i64 7)).run Tryz.prog w = .ok (.string ⟨#[115, 105, 103, 110, 97, 108]⟩) w := by kernel_rfl
theorem kw_8 (w : World) : (Instr.index 58 (.agg #[.string ⟨#[]⟩, .string ⟨#[115, 116, 97, 114, 116]⟩, .string ⟨#[109, 97, 114, 107]⟩, .string ⟨#[97, 115, 107]⟩, .string ⟨#[100, 111, 110, 101]⟩, .string ⟨#[98, 114, 111, 107, 101]⟩, .string ⟨#[102, 105, 114, 101, 100]⟩, .string ⟨#[115, 105, 103, 110, 97, 108]⟩, .string ⟨#[99, 97, 110, 99, 101, 108]⟩, .string ⟨#[101, 110, 100]⟩]) (.int .i64 8)).run Tryz.prog w = .ok (.string ⟨#[99, 97, 110, 99, 101, 108]⟩) w := by kernel_rfl
theorem kw_9 (w : World) : (Instr.index 58 (.agg #[.string ⟨#[]⟩, .string ⟨#[115, 116, 97, 114, 116]⟩, .string ⟨#[109, 97, 114, 107]⟩, .string ⟨#[97, 115, 107]⟩, .string ⟨#[100, 111, 110, 101]⟩, .string ⟨#[98, 114, 111, 107, 101]⟩, .string ⟨#[102, 105, 114, 101, 100]⟩, .string ⟨#[115, 105, 103, 110, 97, 108]⟩, .string ⟨#[99, 97, 110, 99, 101, 108]⟩, .string ⟨#[101, 110, 100]⟩]) (.int .i64 9)).run Tryz.prog w = .ok (.string ⟨#[101, 110, 100]⟩) w := by kernel_rfl

/-- A slice of one string in a block of its own, owned. -/
theorem own_one {w : World} {F : Nat} (s : ByteArray) (hF : F ≤ w.heap.size) : (w.alloc (.cells #[.string s] 9)).ownsRow F 9 1 (.slice (some ⟨w.heap.size, 0, none⟩) 1 1) 1 (sv [s]) :=
  World.ownsRow_lit w #[.string s] 1 hF (by unfold maxLen; omega) rfl
theorem own_alloc {w : World} {F : Nat} {e : TypeId} {size : Nat} {v : Value} {n : Nat} {xs : List Value} (h : w.ownsRow F e size v n xs) (o : Obj) : (w.alloc o).ownsRow F e size v n xs := own_below h ((Below.refl _ _).alloc (Nat.le_refl _) _)

set_option maxRecDepth 100000 in
set_option maxHeartbeats 4000000 in
theorem entryWords_1 (id : Int) (key name : ByteArray) (a : Option Addr) (len cap : Nat) (zs : List Int) (w : World) (hr : IsRow .i64 w a len cap zs) (ht : Tab w) (hl : len ≤ 1048576) (hi : (Lit.int .i64 id).wf = true) :
    Calls Tryz.prog 36 #[.agg #[.int .i64 1, .int .i64 id, .string key, .string name, .slice a len cap]] w fun e w' => ∃ v, e = .returned v ∧ Row w' v (sv (⟨#[115, 116, 97, 114, 116]⟩ :: numS zs)) ∧ Below w.heap.size w w' := by
  have t0 := ta_start_start
  have t1 := ta_start_mark
  have t2 := ta_start_ask
  have t3 := ta_start_hap
  have t4 := ta_start_end
  have kw := kw_1
  have HT : Hid (Tab w) := ht
  have HK : Hid (∀ w', Below (w.heap.size + 1) (w.alloc (.cells #[.int .i64 1, .int .i64 id, .string key, .string name, .slice a len cap] 32)) w' → Calls Tryz.prog 27 #[] w' fun e w'' => e = .returned (.agg #[.string ⟨#[]⟩, .string ⟨#[115, 116, 97, 114, 116]⟩, .string ⟨#[109, 97, 114, 107]⟩, .string ⟨#[97, 115, 107]⟩, .string ⟨#[100, 111, 110, 101]⟩, .string ⟨#[98, 114, 111, 107, 101]⟩, .string ⟨#[102, 105, 114, 101, 100]⟩, .string ⟨#[115, 105, 103, 110, 97, 108]⟩, .string ⟨#[99, 97, 110, 99, 101, 108]⟩, .string ⟨#[101, 110, 100]⟩]) ∧ Below (w.heap.size + 1) (w.alloc (.cells #[.int .i64 1, .int .i64 id, .string key, .string name, .slice a len cap] 32)) w'') := fun w' hb => boxed hb (kindWords w')
  have HNO : Hid (∀ w', Below (w.heap.size + 1) (w.alloc (.cells #[.int .i64 1, .int .i64 id, .string key, .string name, .slice a len cap] 32)) w' → Calls Tryz.prog 50 #[.agg #[.int .i64 1, .int .i64 id, .string key, .string name, .slice a len cap]] w' fun x w'' => x = .returned (.iface 84 (.slice a len cap)) ∧ Below w'.heap.size w' w'') := fun w' hb => noteOf_1 id key name a len cap w'
  have HNW : Hid (∀ w', Below (w.heap.size + 1) (w.alloc (.cells #[.int .i64 1, .int .i64 id, .string key, .string name, .slice a len cap] 32)) w' → Calls Tryz.prog 54 #[.slice a len cap] w' fun e w'' => ∃ v, e = .returned v ∧ Row w'' v (sv (numS zs)) ∧ Below w'.heap.size w' w'') := fun w' hb => numWords a len cap zs w' (hr.below (unbox hb)) (HT.out.below (unbox hb)) hl
  have hz := hr.len.1
  clear hr ht hi
  go_enter Tryz.func36, Tryz.ntmps36
  go_wp2_with fail
  first | (go_region_with (go_at_call 27; refine (HK.out _ ?_).mono ?_; (first | exact Below.refl _ _ | assumption | exact (Below.refl _ _).drew); rintro x w1 ⟨rfl, hw1⟩; obtain ⟨c10, c11, c12, c13, c14⟩ := box5 hw1)) | fail
  all_goals
    have hs1 : w.heap.size < w1.heap.size := by have := hw1.size; simp at this; omega
    go_wp2_with first
      | (go_at_call 50; refine (HNO.out _ ?_).mono ?_; exact hw1.alloc (by omega) _; rintro x w2 ⟨rfl, hw2⟩; have hb2 := bcall (hw1.alloc (by omega) _) (by simp; omega) hw2; have hown2 := own_below (own_one (F := w.heap.size + 1) _ (by omega)) hw2; have hs2 : w.heap.size + 1 ≤ w2.heap.size := (by have := hb2.size; simpa using this); have hs12 : w1.heap.size + 1 ≤ w2.heap.size := (by have := hw2.size; simpa using this))
      | (go_at_call 54; refine (HNW.out _ hb2).mono ?_; rintro x w3 ⟨v3, rfl, hv3, hw3⟩; have hown3 := own_below hown2 hw3; have hb3 := bcall hb2 hs2 hw3)
      | (at_builtin; refine wp_app_strs rfl _ _ rfl (w.heap.size + 1) _ _ 1 _ (numS zs) rfl hown3 rfl hv3 (by rw [numS_len]; omega) (by have := hb3.size; simp at this; omega) ?_; intro v4 w4 hown4 hg4 hgr4)
    go_ret
    exact ⟨_, rfl, Row.owned hown4, unbox (hb3.trans hg4)⟩

set_option maxRecDepth 100000 in
set_option maxHeartbeats 4000000 in
theorem entryWords_2 (id : Int) (key name : ByteArray) (a : Option Addr) (len cap : Nat) (zs : List Int) (w : World) (hr : IsRow .i64 w a len cap zs) (ht : Tab w) (hl : len ≤ 1048576) (hi : (Lit.int .i64 id).wf = true) :
    Calls Tryz.prog 36 #[.agg #[.int .i64 2, .int .i64 id, .string key, .string name, .slice a len cap]] w fun e w' => ∃ v, e = .returned v ∧ Row w' v (sv (⟨#[109, 97, 114, 107]⟩ :: [name])) ∧ Below w.heap.size w w' := by
  have t0 := ta_mark_start
  have t1 := ta_mark_mark
  have t2 := ta_mark_ask
  have t3 := ta_mark_hap
  have t4 := ta_mark_end
  have kw := kw_2
  have HT : Hid (Tab w) := ht
  have HK : Hid (∀ w', Below (w.heap.size + 1) (w.alloc (.cells #[.int .i64 2, .int .i64 id, .string key, .string name, .slice a len cap] 32)) w' → Calls Tryz.prog 27 #[] w' fun e w'' => e = .returned (.agg #[.string ⟨#[]⟩, .string ⟨#[115, 116, 97, 114, 116]⟩, .string ⟨#[109, 97, 114, 107]⟩, .string ⟨#[97, 115, 107]⟩, .string ⟨#[100, 111, 110, 101]⟩, .string ⟨#[98, 114, 111, 107, 101]⟩, .string ⟨#[102, 105, 114, 101, 100]⟩, .string ⟨#[115, 105, 103, 110, 97, 108]⟩, .string ⟨#[99, 97, 110, 99, 101, 108]⟩, .string ⟨#[101, 110, 100]⟩]) ∧ Below (w.heap.size + 1) (w.alloc (.cells #[.int .i64 2, .int .i64 id, .string key, .string name, .slice a len cap] 32)) w'') := fun w' hb => boxed hb (kindWords w')
  have HNO : Hid (∀ w', Below (w.heap.size + 1) (w.alloc (.cells #[.int .i64 2, .int .i64 id, .string key, .string name, .slice a len cap] 32)) w' → Calls Tryz.prog 50 #[.agg #[.int .i64 2, .int .i64 id, .string key, .string name, .slice a len cap]] w' fun x w'' => x = .returned (.iface 86 (.string name)) ∧ Below w'.heap.size w' w'') := fun w' hb => noteOf_2 id key name a len cap w'
  clear hr ht hi
  go_enter Tryz.func36, Tryz.ntmps36
  go_wp2_with fail
  first | (go_region_with (go_at_call 27; refine (HK.out _ ?_).mono ?_; (first | exact Below.refl _ _ | assumption | exact (Below.refl _ _).drew); rintro x w1 ⟨rfl, hw1⟩; obtain ⟨c10, c11, c12, c13, c14⟩ := box5 hw1)) | fail
  all_goals
    have hs1 : w.heap.size < w1.heap.size := by have := hw1.size; simp at this; omega
    go_wp2_with first
      | (go_at_call 50; refine (HNO.out _ ?_).mono ?_; exact hw1.alloc (by omega) _; rintro x w2 ⟨rfl, hw2⟩; have hb2 := bcall (hw1.alloc (by omega) _) (by simp; omega) hw2; have hown2 := own_below (own_one (F := w.heap.size + 1) _ (by omega)) hw2; have hs2 : w.heap.size + 1 ≤ w2.heap.size := (by have := hb2.size; simpa using this); have hs12 : w1.heap.size + 1 ≤ w2.heap.size := (by have := hw2.size; simpa using this))
      | (at_builtin; refine wp_app_strs rfl _ _ rfl (w.heap.size + 1) _ _ 1 _ [name] rfl (own_alloc hown2 _) rfl (by exact Row.made w2 [.string name] 9 (by unfold maxLen; simp)) (by simp) (by simp; omega) ?_; intro v4 w4 hown4 hg4 hgr4)
    go_ret
    exact ⟨_, rfl, Row.owned hown4, unbox ((hb2.alloc hs2 _).trans hg4)⟩

set_option maxRecDepth 100000 in
set_option maxHeartbeats 4000000 in
theorem entryWords_4 (id : Int) (key name : ByteArray) (a : Option Addr) (len cap : Nat) (zs : List Int) (w : World) (hr : IsRow .i64 w a len cap zs) (ht : Tab w) (hl : len ≤ 1048576) (hi : (Lit.int .i64 id).wf = true) :
    Calls Tryz.prog 36 #[.agg #[.int .i64 4, .int .i64 id, .string key, .string name, .slice a len cap]] w fun e w' => ∃ v, e = .returned v ∧ Row w' v (sv (⟨#[100, 111, 110, 101]⟩ :: hapS 1 id (zs.getD 0 0) ⟨#[]⟩)) ∧ Below w.heap.size w w' := by
  have t0 := ta_hap_start
  have t1 := ta_hap_mark
  have t2 := ta_hap_ask
  have t3 := ta_hap_hap
  have t4 := ta_hap_end
  have kw := kw_4
  have HT : Hid (Tab w) := ht
  have HK : Hid (∀ w', Below (w.heap.size + 1) (w.alloc (.cells #[.int .i64 4, .int .i64 id, .string key, .string name, .slice a len cap] 32)) w' → Calls Tryz.prog 27 #[] w' fun e w'' => e = .returned (.agg #[.string ⟨#[]⟩, .string ⟨#[115, 116, 97, 114, 116]⟩, .string ⟨#[109, 97, 114, 107]⟩, .string ⟨#[97, 115, 107]⟩, .string ⟨#[100, 111, 110, 101]⟩, .string ⟨#[98, 114, 111, 107, 101]⟩, .string ⟨#[102, 105, 114, 101, 100]⟩, .string ⟨#[115, 105, 103, 110, 97, 108]⟩, .string ⟨#[99, 97, 110, 99, 101, 108]⟩, .string ⟨#[101, 110, 100]⟩]) ∧ Below (w.heap.size + 1) (w.alloc (.cells #[.int .i64 4, .int .i64 id, .string key, .string name, .slice a len cap] 32)) w'') := fun w' hb => boxed hb (kindWords w')
  have HNO : Hid (∀ w', Below (w.heap.size + 1) (w.alloc (.cells #[.int .i64 4, .int .i64 id, .string key, .string name, .slice a len cap] 32)) w' → Calls Tryz.prog 50 #[.agg #[.int .i64 4, .int .i64 id, .string key, .string name, .slice a len cap]] w' fun x w'' => x = .returned (.iface 91 (.agg #[.int .i64 1, .int .i64 id, .string ⟨#[]⟩, .int .i64 (zs.getD 0 0)])) ∧ Below w'.heap.size w' w'') := fun w' hb => noteOf_4 id key name a len cap zs w' (hr.below (unbox hb))
  have HHW : Hid (∀ w', Below w.heap.size w w' → Calls Tryz.prog 57 #[.agg #[.int .i64 1, .int .i64 id, .string ⟨#[]⟩, .int .i64 (zs.getD 0 0)]] w' fun e w'' => ∃ v, e = .returned v ∧ Row w'' v (sv (hapS 1 id (zs.getD 0 0) ⟨#[]⟩)) ∧ Below w'.heap.size w' w'') := fun w' hb => hapWords 1 id (zs.getD 0 0) ⟨#[]⟩ (by omega) w' (HT.out.below hb) hi (first_wf (k := .i64) hr)
  have hlen : (hapS 1 id (zs.getD 0 0) ⟨#[]⟩).length ≤ 2 := by simp [hapS]
  clear hr ht hi
  generalize zs.getD 0 0 = z at HNO HHW hlen ⊢
  go_enter Tryz.func36, Tryz.ntmps36
  go_wp2_with fail
  first | (go_region_with (go_at_call 27; refine (HK.out _ ?_).mono ?_; (first | exact Below.refl _ _ | assumption | exact (Below.refl _ _).drew); rintro x w1 ⟨rfl, hw1⟩; obtain ⟨c10, c11, c12, c13, c14⟩ := box5 hw1)) | fail
  all_goals
    have hs1 : w.heap.size < w1.heap.size := by have := hw1.size; simp at this; omega
    go_wp2_with first
      | (go_at_call 50; refine (HNO.out _ ?_).mono ?_; exact hw1.alloc (by omega) _; rintro x w2 ⟨rfl, hw2⟩; have hb2 := bcall (hw1.alloc (by omega) _) (by simp; omega) hw2; have hown2 := own_below (own_one (F := w.heap.size + 1) _ (by omega)) hw2; have hs2 : w.heap.size + 1 ≤ w2.heap.size := (by have := hb2.size; simpa using this); have hs12 : w1.heap.size + 1 ≤ w2.heap.size := (by have := hw2.size; simpa using this))
      | (go_at_call 57; refine (HHW.out _ (by exact unbox (hb2.alloc hs2 _))).mono ?_; rintro x w3 ⟨v3, rfl, hv3, hw3⟩; have hown3 := own_below (own_alloc hown2 _) hw3; have hb3 := bcall (hb2.alloc hs2 _) (by simp; omega) hw3)
      | (at_builtin; refine wp_app_strs rfl _ _ rfl (w.heap.size + 1) _ _ 1 _ (hapS 1 id z ⟨#[]⟩) rfl hown3 rfl hv3 (by omega) (by have := hb3.size; simp at this; omega) ?_; intro v4 w4 hown4 hg4 hgr4)
    go_ret
    exact ⟨_, rfl, Row.owned hown4, unbox (hb3.trans hg4)⟩

set_option maxRecDepth 100000 in
set_option maxHeartbeats 4000000 in
theorem entryWords_5 (id : Int) (key name : ByteArray) (a : Option Addr) (len cap : Nat) (zs : List Int) (w : World) (hr : IsRow .i64 w a len cap zs) (ht : Tab w) (hl : len ≤ 1048576) (hi : (Lit.int .i64 id).wf = true) :
    Calls Tryz.prog 36 #[.agg #[.int .i64 5, .int .i64 id, .string key, .string name, .slice a len cap]] w fun e w' => ∃ v, e = .returned v ∧ Row w' v (sv (⟨#[98, 114, 111, 107, 101]⟩ :: hapS 2 id (zs.getD 0 0) ⟨#[]⟩)) ∧ Below w.heap.size w w' := by
  have t0 := ta_hap_start
  have t1 := ta_hap_mark
  have t2 := ta_hap_ask
  have t3 := ta_hap_hap
  have t4 := ta_hap_end
  have kw := kw_5
  have HT : Hid (Tab w) := ht
  have HK : Hid (∀ w', Below (w.heap.size + 1) (w.alloc (.cells #[.int .i64 5, .int .i64 id, .string key, .string name, .slice a len cap] 32)) w' → Calls Tryz.prog 27 #[] w' fun e w'' => e = .returned (.agg #[.string ⟨#[]⟩, .string ⟨#[115, 116, 97, 114, 116]⟩, .string ⟨#[109, 97, 114, 107]⟩, .string ⟨#[97, 115, 107]⟩, .string ⟨#[100, 111, 110, 101]⟩, .string ⟨#[98, 114, 111, 107, 101]⟩, .string ⟨#[102, 105, 114, 101, 100]⟩, .string ⟨#[115, 105, 103, 110, 97, 108]⟩, .string ⟨#[99, 97, 110, 99, 101, 108]⟩, .string ⟨#[101, 110, 100]⟩]) ∧ Below (w.heap.size + 1) (w.alloc (.cells #[.int .i64 5, .int .i64 id, .string key, .string name, .slice a len cap] 32)) w'') := fun w' hb => boxed hb (kindWords w')
  have HNO : Hid (∀ w', Below (w.heap.size + 1) (w.alloc (.cells #[.int .i64 5, .int .i64 id, .string key, .string name, .slice a len cap] 32)) w' → Calls Tryz.prog 50 #[.agg #[.int .i64 5, .int .i64 id, .string key, .string name, .slice a len cap]] w' fun x w'' => x = .returned (.iface 91 (.agg #[.int .i64 2, .int .i64 id, .string ⟨#[]⟩, .int .i64 (zs.getD 0 0)])) ∧ Below w'.heap.size w' w'') := fun w' hb => noteOf_5 id key name a len cap zs w' (hr.below (unbox hb))
  have HHW : Hid (∀ w', Below w.heap.size w w' → Calls Tryz.prog 57 #[.agg #[.int .i64 2, .int .i64 id, .string ⟨#[]⟩, .int .i64 (zs.getD 0 0)]] w' fun e w'' => ∃ v, e = .returned v ∧ Row w'' v (sv (hapS 2 id (zs.getD 0 0) ⟨#[]⟩)) ∧ Below w'.heap.size w' w'') := fun w' hb => hapWords 2 id (zs.getD 0 0) ⟨#[]⟩ (by omega) w' (HT.out.below hb) hi (first_wf (k := .i64) hr)
  have hlen : (hapS 2 id (zs.getD 0 0) ⟨#[]⟩).length ≤ 2 := by simp [hapS]
  clear hr ht hi
  generalize zs.getD 0 0 = z at HNO HHW hlen ⊢
  go_enter Tryz.func36, Tryz.ntmps36
  go_wp2_with fail
  first | (go_region_with (go_at_call 27; refine (HK.out _ ?_).mono ?_; (first | exact Below.refl _ _ | assumption | exact (Below.refl _ _).drew); rintro x w1 ⟨rfl, hw1⟩; obtain ⟨c10, c11, c12, c13, c14⟩ := box5 hw1)) | fail
  all_goals
    have hs1 : w.heap.size < w1.heap.size := by have := hw1.size; simp at this; omega
    go_wp2_with first
      | (go_at_call 50; refine (HNO.out _ ?_).mono ?_; exact hw1.alloc (by omega) _; rintro x w2 ⟨rfl, hw2⟩; have hb2 := bcall (hw1.alloc (by omega) _) (by simp; omega) hw2; have hown2 := own_below (own_one (F := w.heap.size + 1) _ (by omega)) hw2; have hs2 : w.heap.size + 1 ≤ w2.heap.size := (by have := hb2.size; simpa using this); have hs12 : w1.heap.size + 1 ≤ w2.heap.size := (by have := hw2.size; simpa using this))
      | (go_at_call 57; refine (HHW.out _ (by exact unbox (hb2.alloc hs2 _))).mono ?_; rintro x w3 ⟨v3, rfl, hv3, hw3⟩; have hown3 := own_below (own_alloc hown2 _) hw3; have hb3 := bcall (hb2.alloc hs2 _) (by simp; omega) hw3)
      | (at_builtin; refine wp_app_strs rfl _ _ rfl (w.heap.size + 1) _ _ 1 _ (hapS 2 id z ⟨#[]⟩) rfl hown3 rfl hv3 (by omega) (by have := hb3.size; simp at this; omega) ?_; intro v4 w4 hown4 hg4 hgr4)
    go_ret
    exact ⟨_, rfl, Row.owned hown4, unbox (hb3.trans hg4)⟩

set_option maxRecDepth 100000 in
set_option maxHeartbeats 4000000 in
theorem entryWords_6 (id : Int) (key name : ByteArray) (a : Option Addr) (len cap : Nat) (zs : List Int) (w : World) (hr : IsRow .i64 w a len cap zs) (ht : Tab w) (hl : len ≤ 1048576) (hi : (Lit.int .i64 id).wf = true) :
    Calls Tryz.prog 36 #[.agg #[.int .i64 6, .int .i64 id, .string key, .string name, .slice a len cap]] w fun e w' => ∃ v, e = .returned v ∧ Row w' v (sv (⟨#[102, 105, 114, 101, 100]⟩ :: hapS 3 id 0 ⟨#[]⟩)) ∧ Below w.heap.size w w' := by
  have t0 := ta_hap_start
  have t1 := ta_hap_mark
  have t2 := ta_hap_ask
  have t3 := ta_hap_hap
  have t4 := ta_hap_end
  have kw := kw_6
  have HT : Hid (Tab w) := ht
  have HK : Hid (∀ w', Below (w.heap.size + 1) (w.alloc (.cells #[.int .i64 6, .int .i64 id, .string key, .string name, .slice a len cap] 32)) w' → Calls Tryz.prog 27 #[] w' fun e w'' => e = .returned (.agg #[.string ⟨#[]⟩, .string ⟨#[115, 116, 97, 114, 116]⟩, .string ⟨#[109, 97, 114, 107]⟩, .string ⟨#[97, 115, 107]⟩, .string ⟨#[100, 111, 110, 101]⟩, .string ⟨#[98, 114, 111, 107, 101]⟩, .string ⟨#[102, 105, 114, 101, 100]⟩, .string ⟨#[115, 105, 103, 110, 97, 108]⟩, .string ⟨#[99, 97, 110, 99, 101, 108]⟩, .string ⟨#[101, 110, 100]⟩]) ∧ Below (w.heap.size + 1) (w.alloc (.cells #[.int .i64 6, .int .i64 id, .string key, .string name, .slice a len cap] 32)) w'') := fun w' hb => boxed hb (kindWords w')
  have HNO : Hid (∀ w', Below (w.heap.size + 1) (w.alloc (.cells #[.int .i64 6, .int .i64 id, .string key, .string name, .slice a len cap] 32)) w' → Calls Tryz.prog 50 #[.agg #[.int .i64 6, .int .i64 id, .string key, .string name, .slice a len cap]] w' fun x w'' => x = .returned (.iface 91 (.agg #[.int .i64 3, .int .i64 id, .string ⟨#[]⟩, .int .i64 0])) ∧ Below w'.heap.size w' w'') := fun w' hb => noteOf_6 id key name a len cap zs w' (hr.below (unbox hb))
  have HHW : Hid (∀ w', Below w.heap.size w w' → Calls Tryz.prog 57 #[.agg #[.int .i64 3, .int .i64 id, .string ⟨#[]⟩, .int .i64 0]] w' fun e w'' => ∃ v, e = .returned v ∧ Row w'' v (sv (hapS 3 id 0 ⟨#[]⟩)) ∧ Below w'.heap.size w' w'') := fun w' hb => hapWords 3 id 0 ⟨#[]⟩ (by omega) w' (HT.out.below hb) hi rfl
  have hlen : (hapS 3 id 0 ⟨#[]⟩).length ≤ 2 := by simp [hapS]
  clear hr ht hi
  go_enter Tryz.func36, Tryz.ntmps36
  go_wp2_with fail
  first | (go_region_with (go_at_call 27; refine (HK.out _ ?_).mono ?_; (first | exact Below.refl _ _ | assumption | exact (Below.refl _ _).drew); rintro x w1 ⟨rfl, hw1⟩; obtain ⟨c10, c11, c12, c13, c14⟩ := box5 hw1)) | fail
  all_goals
    have hs1 : w.heap.size < w1.heap.size := by have := hw1.size; simp at this; omega
    go_wp2_with first
      | (go_at_call 50; refine (HNO.out _ ?_).mono ?_; exact hw1.alloc (by omega) _; rintro x w2 ⟨rfl, hw2⟩; have hb2 := bcall (hw1.alloc (by omega) _) (by simp; omega) hw2; have hown2 := own_below (own_one (F := w.heap.size + 1) _ (by omega)) hw2; have hs2 : w.heap.size + 1 ≤ w2.heap.size := (by have := hb2.size; simpa using this); have hs12 : w1.heap.size + 1 ≤ w2.heap.size := (by have := hw2.size; simpa using this))
      | (go_at_call 57; refine (HHW.out _ (by exact unbox (hb2.alloc hs2 _))).mono ?_; rintro x w3 ⟨v3, rfl, hv3, hw3⟩; have hown3 := own_below (own_alloc hown2 _) hw3; have hb3 := bcall (hb2.alloc hs2 _) (by simp; omega) hw3)
      | (at_builtin; refine wp_app_strs rfl _ _ rfl (w.heap.size + 1) _ _ 1 _ (hapS 3 id 0 ⟨#[]⟩) rfl hown3 rfl hv3 (by omega) (by have := hb3.size; simp at this; omega) ?_; intro v4 w4 hown4 hg4 hgr4)
    go_ret
    exact ⟨_, rfl, Row.owned hown4, unbox (hb3.trans hg4)⟩

set_option maxRecDepth 100000 in
set_option maxHeartbeats 4000000 in
theorem entryWords_7 (id : Int) (key name : ByteArray) (a : Option Addr) (len cap : Nat) (zs : List Int) (w : World) (hr : IsRow .i64 w a len cap zs) (ht : Tab w) (hl : len ≤ 1048576) (hi : (Lit.int .i64 id).wf = true) :
    Calls Tryz.prog 36 #[.agg #[.int .i64 7, .int .i64 id, .string key, .string name, .slice a len cap]] w fun e w' => ∃ v, e = .returned v ∧ Row w' v (sv (⟨#[115, 105, 103, 110, 97, 108]⟩ :: hapS 4 0 (zs.getD 0 0) name)) ∧ Below w.heap.size w w' := by
  have t0 := ta_hap_start
  have t1 := ta_hap_mark
  have t2 := ta_hap_ask
  have t3 := ta_hap_hap
  have t4 := ta_hap_end
  have kw := kw_7
  have HT : Hid (Tab w) := ht
  have HK : Hid (∀ w', Below (w.heap.size + 1) (w.alloc (.cells #[.int .i64 7, .int .i64 id, .string key, .string name, .slice a len cap] 32)) w' → Calls Tryz.prog 27 #[] w' fun e w'' => e = .returned (.agg #[.string ⟨#[]⟩, .string ⟨#[115, 116, 97, 114, 116]⟩, .string ⟨#[109, 97, 114, 107]⟩, .string ⟨#[97, 115, 107]⟩, .string ⟨#[100, 111, 110, 101]⟩, .string ⟨#[98, 114, 111, 107, 101]⟩, .string ⟨#[102, 105, 114, 101, 100]⟩, .string ⟨#[115, 105, 103, 110, 97, 108]⟩, .string ⟨#[99, 97, 110, 99, 101, 108]⟩, .string ⟨#[101, 110, 100]⟩]) ∧ Below (w.heap.size + 1) (w.alloc (.cells #[.int .i64 7, .int .i64 id, .string key, .string name, .slice a len cap] 32)) w'') := fun w' hb => boxed hb (kindWords w')
  have HNO : Hid (∀ w', Below (w.heap.size + 1) (w.alloc (.cells #[.int .i64 7, .int .i64 id, .string key, .string name, .slice a len cap] 32)) w' → Calls Tryz.prog 50 #[.agg #[.int .i64 7, .int .i64 id, .string key, .string name, .slice a len cap]] w' fun x w'' => x = .returned (.iface 91 (.agg #[.int .i64 4, .int .i64 0, .string name, .int .i64 (zs.getD 0 0)])) ∧ Below w'.heap.size w' w'') := fun w' hb => noteOf_7 id key name a len cap zs w' (hr.below (unbox hb))
  have HHW : Hid (∀ w', Below w.heap.size w w' → Calls Tryz.prog 57 #[.agg #[.int .i64 4, .int .i64 0, .string name, .int .i64 (zs.getD 0 0)]] w' fun e w'' => ∃ v, e = .returned v ∧ Row w'' v (sv (hapS 4 0 (zs.getD 0 0) name)) ∧ Below w'.heap.size w' w'') := fun w' hb => hapWords 4 0 (zs.getD 0 0) name (by omega) w' (HT.out.below hb) rfl (first_wf (k := .i64) hr)
  have hlen : (hapS 4 0 (zs.getD 0 0) name).length ≤ 2 := by simp [hapS]
  clear hr ht hi
  generalize zs.getD 0 0 = z at HNO HHW hlen ⊢
  go_enter Tryz.func36, Tryz.ntmps36
  go_wp2_with fail
  first | (go_region_with (go_at_call 27; refine (HK.out _ ?_).mono ?_; (first | exact Below.refl _ _ | assumption | exact (Below.refl _ _).drew); rintro x w1 ⟨rfl, hw1⟩; obtain ⟨c10, c11, c12, c13, c14⟩ := box5 hw1)) | fail
  all_goals
    have hs1 : w.heap.size < w1.heap.size := by have := hw1.size; simp at this; omega
    go_wp2_with first
      | (go_at_call 50; refine (HNO.out _ ?_).mono ?_; exact hw1.alloc (by omega) _; rintro x w2 ⟨rfl, hw2⟩; have hb2 := bcall (hw1.alloc (by omega) _) (by simp; omega) hw2; have hown2 := own_below (own_one (F := w.heap.size + 1) _ (by omega)) hw2; have hs2 : w.heap.size + 1 ≤ w2.heap.size := (by have := hb2.size; simpa using this); have hs12 : w1.heap.size + 1 ≤ w2.heap.size := (by have := hw2.size; simpa using this))
      | (go_at_call 57; refine (HHW.out _ (by exact unbox (hb2.alloc hs2 _))).mono ?_; rintro x w3 ⟨v3, rfl, hv3, hw3⟩; have hown3 := own_below (own_alloc hown2 _) hw3; have hb3 := bcall (hb2.alloc hs2 _) (by simp; omega) hw3)
      | (at_builtin; refine wp_app_strs rfl _ _ rfl (w.heap.size + 1) _ _ 1 _ (hapS 4 0 z name) rfl hown3 rfl hv3 (by omega) (by have := hb3.size; simp at this; omega) ?_; intro v4 w4 hown4 hg4 hgr4)
    go_ret
    exact ⟨_, rfl, Row.owned hown4, unbox (hb3.trans hg4)⟩

set_option maxRecDepth 100000 in
set_option maxHeartbeats 4000000 in
theorem entryWords_8 (id : Int) (key name : ByteArray) (a : Option Addr) (len cap : Nat) (zs : List Int) (w : World) (hr : IsRow .i64 w a len cap zs) (ht : Tab w) (hl : len ≤ 1048576) (hi : (Lit.int .i64 id).wf = true) :
    Calls Tryz.prog 36 #[.agg #[.int .i64 8, .int .i64 id, .string key, .string name, .slice a len cap]] w fun e w' => ∃ v, e = .returned v ∧ Row w' v (sv (⟨#[99, 97, 110, 99, 101, 108]⟩ :: hapS 5 0 0 ⟨#[]⟩)) ∧ Below w.heap.size w w' := by
  have t0 := ta_hap_start
  have t1 := ta_hap_mark
  have t2 := ta_hap_ask
  have t3 := ta_hap_hap
  have t4 := ta_hap_end
  have kw := kw_8
  have HT : Hid (Tab w) := ht
  have HK : Hid (∀ w', Below (w.heap.size + 1) (w.alloc (.cells #[.int .i64 8, .int .i64 id, .string key, .string name, .slice a len cap] 32)) w' → Calls Tryz.prog 27 #[] w' fun e w'' => e = .returned (.agg #[.string ⟨#[]⟩, .string ⟨#[115, 116, 97, 114, 116]⟩, .string ⟨#[109, 97, 114, 107]⟩, .string ⟨#[97, 115, 107]⟩, .string ⟨#[100, 111, 110, 101]⟩, .string ⟨#[98, 114, 111, 107, 101]⟩, .string ⟨#[102, 105, 114, 101, 100]⟩, .string ⟨#[115, 105, 103, 110, 97, 108]⟩, .string ⟨#[99, 97, 110, 99, 101, 108]⟩, .string ⟨#[101, 110, 100]⟩]) ∧ Below (w.heap.size + 1) (w.alloc (.cells #[.int .i64 8, .int .i64 id, .string key, .string name, .slice a len cap] 32)) w'') := fun w' hb => boxed hb (kindWords w')
  have HNO : Hid (∀ w', Below (w.heap.size + 1) (w.alloc (.cells #[.int .i64 8, .int .i64 id, .string key, .string name, .slice a len cap] 32)) w' → Calls Tryz.prog 50 #[.agg #[.int .i64 8, .int .i64 id, .string key, .string name, .slice a len cap]] w' fun x w'' => x = .returned (.iface 91 (.agg #[.int .i64 5, .int .i64 0, .string ⟨#[]⟩, .int .i64 0])) ∧ Below w'.heap.size w' w'') := fun w' hb => noteOf_8 id key name a len cap zs w' (hr.below (unbox hb))
  have HHW : Hid (∀ w', Below w.heap.size w w' → Calls Tryz.prog 57 #[.agg #[.int .i64 5, .int .i64 0, .string ⟨#[]⟩, .int .i64 0]] w' fun e w'' => ∃ v, e = .returned v ∧ Row w'' v (sv (hapS 5 0 0 ⟨#[]⟩)) ∧ Below w'.heap.size w' w'') := fun w' hb => hapWords 5 0 0 ⟨#[]⟩ (by omega) w' (HT.out.below hb) rfl rfl
  have hlen : (hapS 5 0 0 ⟨#[]⟩).length ≤ 2 := by simp [hapS]
  clear hr ht hi
  go_enter Tryz.func36, Tryz.ntmps36
  go_wp2_with fail
  first | (go_region_with (go_at_call 27; refine (HK.out _ ?_).mono ?_; (first | exact Below.refl _ _ | assumption | exact (Below.refl _ _).drew); rintro x w1 ⟨rfl, hw1⟩; obtain ⟨c10, c11, c12, c13, c14⟩ := box5 hw1)) | fail
  all_goals
    have hs1 : w.heap.size < w1.heap.size := by have := hw1.size; simp at this; omega
    go_wp2_with first
      | (go_at_call 50; refine (HNO.out _ ?_).mono ?_; exact hw1.alloc (by omega) _; rintro x w2 ⟨rfl, hw2⟩; have hb2 := bcall (hw1.alloc (by omega) _) (by simp; omega) hw2; have hown2 := own_below (own_one (F := w.heap.size + 1) _ (by omega)) hw2; have hs2 : w.heap.size + 1 ≤ w2.heap.size := (by have := hb2.size; simpa using this); have hs12 : w1.heap.size + 1 ≤ w2.heap.size := (by have := hw2.size; simpa using this))
      | (go_at_call 57; refine (HHW.out _ (by exact unbox (hb2.alloc hs2 _))).mono ?_; rintro x w3 ⟨v3, rfl, hv3, hw3⟩; have hown3 := own_below (own_alloc hown2 _) hw3; have hb3 := bcall (hb2.alloc hs2 _) (by simp; omega) hw3)
      | (at_builtin; refine wp_app_strs rfl _ _ rfl (w.heap.size + 1) _ _ 1 _ (hapS 5 0 0 ⟨#[]⟩) rfl hown3 rfl hv3 (by omega) (by have := hb3.size; simp at this; omega) ?_; intro v4 w4 hown4 hg4 hgr4)
    go_ret
    exact ⟨_, rfl, Row.owned hown4, unbox (hb3.trans hg4)⟩
end Go.Proofs.YtbngjpnbjknliaaGreatDoor
