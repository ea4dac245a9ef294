/- The program's words of an end. -/
import Derived.Test.YtmfibpfnbhhoaaaDoorIA9
namespace Go.Proofs.YtmfibpfnbhhoaaaDoor
set_option linter.unusedVariables false
set_option linter.unusedSimpArgs false
open Go.RowKit Go

set_option maxRecDepth 100000 in
set_option maxHeartbeats 4000000 in
theorem entryWords_9 (id : Int) (key name : ByteArray) (a : Option Addr) (len cap : Nat) (zs : List Int) (w : World) (hr : IsRow .i64 w a len cap zs) (ht : Tab w) (hl : len ≤ 1048576) (hi : (Lit.int .i64 id).wf = true) :
    Calls Tryd.prog 17 #[.agg #[.int .i64 9, .int .i64 id, .string key, .string name, .slice a len cap]] w fun e w' => ∃ v, e = .returned v ∧ Row w' v (sv (⟨#[101, 110, 100]⟩ :: itoB id :: numS zs)) ∧ Below w.heap.size w w' := by
  have t0 := ta_end_start
  have t1 := ta_end_mark
  have t2 := ta_end_ask
  have t3 := ta_end_hap
  have t4 := ta_end_end
  have kw := kw_9
  have HT : Hid (Tab w) := ht
  have HK : Hid (∀ w', Below (w.heap.size + 1) (w.alloc (.cells #[.int .i64 9, .int .i64 id, .string key, .string name, .slice a len cap] 35)) w' → Calls Tryd.prog 31 #[] w' fun e w'' => e = .returned (.agg #[.string ⟨#[]⟩, .string ⟨#[115, 116, 97, 114, 116]⟩, .string ⟨#[109, 97, 114, 107]⟩, .string ⟨#[97, 115, 107]⟩, .string ⟨#[100, 111, 110, 101]⟩, .string ⟨#[98, 114, 111, 107, 101]⟩, .string ⟨#[102, 105, 114, 101, 100]⟩, .string ⟨#[115, 105, 103, 110, 97, 108]⟩, .string ⟨#[99, 97, 110, 99, 101, 108]⟩, .string ⟨#[101, 110, 100]⟩]) ∧ Below (w.heap.size + 1) (w.alloc (.cells #[.int .i64 9, .int .i64 id, .string key, .string name, .slice a len cap] 35)) w'') := fun w' hb => boxed hb (kindWords w')
  have HNO : Hid (∀ w', Below (w.heap.size + 1) (w.alloc (.cells #[.int .i64 9, .int .i64 id, .string key, .string name, .slice a len cap] 35)) w' → Calls Tryd.prog 26 #[.agg #[.int .i64 9, .int .i64 id, .string key, .string name, .slice a len cap]] w' fun x w'' => x = .returned (.iface 75 (.agg #[.int .i64 id, .slice a len cap])) ∧ Below w'.heap.size w' w'') := fun w' hb => noteOf_9 id key name a len cap w'
  have HNW : Hid (∀ w', Below (w.heap.size + 1) (w.alloc (.cells #[.int .i64 9, .int .i64 id, .string key, .string name, .slice a len cap] 35)) w' → Calls Tryd.prog 32 #[.slice a len cap] w' fun e w'' => ∃ v, e = .returned v ∧ Row w'' v (sv (numS zs)) ∧ Below w'.heap.size w' w'') := fun w' hb => numWords a len cap zs w' (hr.below (unbox hb)) (HT.out.below (unbox hb)) hl
  have hz := hr.len.1
  have HIT : Hid (∀ w', Below w.heap.size w w' → Calls Tryd.prog 33 #[.int .i64 id] w' fun e w'' => e = .returned (.string (itoB id)) ∧ Below w'.heap.size w' w'') := fun w' hb => itoa id hi w' (HT.out.below hb)
  clear hr ht hi
  go_enter Tryd.func17, Tryd.ntmps17
  go_wp2_with fail
  first | (go_region_with (go_at_call 31; refine (HK.out _ ?_).mono ?_; (first | exact Below.refl _ _ | assumption | exact (Below.refl _ _).drew); rintro x w1 ⟨rfl, hw1⟩; obtain ⟨c10, c11, c12, c13, c14⟩ := box5 hw1)) | fail
  all_goals
    have hs1 : w.heap.size < w1.heap.size := by have := hw1.size; simp at this; omega
    go_wp2_with first
      | (go_at_call 26; refine (HNO.out _ ?_).mono ?_; exact hw1.alloc (by omega) _; rintro x w2 ⟨rfl, hw2⟩; have hb2 := bcall (hw1.alloc (by omega) _) (by simp; omega) hw2; have hown2 := own_below (own_one (F := w.heap.size + 1) _ (by omega)) hw2; have hs2 : w.heap.size + 1 ≤ w2.heap.size := (by have := hb2.size; simpa using this); have hs12 : w1.heap.size + 1 ≤ w2.heap.size := (by have := hw2.size; simpa using this))
      | (go_at_call 33; refine (HIT.out _ (by exact unbox (hb2.alloc hs2 _))).mono ?_; rintro x w3 ⟨rfl, hw3⟩; have hown3 := own_below (own_alloc hown2 _) hw3; have hb3 := bcall (hb2.alloc hs2 _) (by simp; omega) hw3; have hx3 := box2 (w := w2) (by simpa using hw3); have hs3 : w2.heap.size + 1 ≤ w3.heap.size := (by have := hw3.size; simpa using this))
      | (at_builtin; refine wp_app_strs rfl _ _ rfl (w.heap.size + 1) _ _ 1 _ [itoB id] rfl (own_alloc hown3 _) rfl (by exact Row.made w3 [.string (itoB id)] 9 (by unfold maxLen; simp)) (by simp) (by simp; omega) ?_; intro v4 w4 hown4 hg4 hgr4; have hb4 := (hb3.alloc (by omega) _).trans hg4; have hs4 : w.heap.size + 1 ≤ w4.heap.size := (by have := hb4.size; simpa using this); have hne4 : some w2.heap.size ≠ (Value.slice (some ⟨w1.heap.size, 0, none⟩) 1 1).ownBlock := (by show some w2.heap.size ≠ some w1.heap.size; intro h; injection h with h; omega); have c4 : w4.cell? ⟨w2.heap.size, 1, none⟩ = some (.slice a len cap) := (hgr4.cell_far ⟨w2.heap.size, 1, none⟩ (by simp; omega) hne4).trans ((World.cell?_alloc_past (w := w3) _ w2.heap.size 1 (by omega)).trans hx3.2))
      | (go_at_call 32; refine (HNW.out _ hb4).mono ?_; rintro x w5 ⟨v5, rfl, hv5, hw5⟩; have hown5 := own_below hown4 hw5; have hb5 := bcall hb4 hs4 hw5)
      | (at_builtin; refine wp_app_strs rfl _ _ rfl (w.heap.size + 1) _ _ 2 _ (numS zs) rfl hown5 rfl hv5 (by rw [numS_len]; omega) (by have := hb5.size; simp at this; omega) ?_; intro v6 w6 hown6 hg6 hgr6)
    go_ret
    exact ⟨_, rfl, Row.owned hown6, unbox (hb5.trans hg6)⟩
end Go.Proofs.YtmfibpfnbhhoaaaDoor
