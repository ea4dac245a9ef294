/- The program's words of an ask. -/
import Derived.Test.YtmfibpfnbhhoaaaDoorIA10
import Derived.Deep.AppendLies
import Derived.Deep.RegionHeld3
namespace Go.Proofs.YtmfibpfnbhhoaaaDoor
set_option linter.unusedVariables false
set_option linter.unusedSimpArgs false
open Go.RowKit Go

theorem news3 {w : World} {b : Nat} {x y z : Value} {t : TypeId} (h : w.heap[b]? = some (.cells #[x, y, z] t (0, 0))) : ∀ j u, [x, y, z][j]? = some u → w.cell? ((⟨b, 0, none⟩ : Addr).add j) = some u := by
  intro j u hj
  rw [Addr.add_lit, Nat.zero_add, cell_of_row _ _ _ _ _ _ h]
  simpa using hj
theorem keep_far {w3 w4 : World} {o : Obj} {B R off : Nat} {v : Value} (hg : (w3.alloc o).grownBy w4 (some R)) (hB : B < w3.heap.size) (hne : B ≠ R) (hc : w3.cell? ⟨B, off, none⟩ = some v) : w4.cell? ⟨B, off, none⟩ = some v :=
  (hg.cell_far ⟨B, off, none⟩ (by simp; omega) (fun h => by injection h with h; exact hne h)).trans ((World.cell?_alloc_past (w := w3) _ B off hB).trans hc)
/-- Three strings are appended, as one step of a region that draws. -/
theorem step_app3 {ops : Array Oper} {o : Oper} {a : Act} {K : Act → World → Prop} {Q : Exit → Act → World → Prop} {E : Prop} {w3 : World} {F : Nat} {v : Value} {n : Nat} {xs : List ByteArray} {x y z : ByteArray} (hown : w3.ownsRow F 9 1 v n (sv xs)) (hF : F ≤ w3.heap.size) (hn : n ≤ 1000000) (hgd : o.guard = none) (s t : Operand)
    (ho : o.op = .call { callee := .builtin .append, args := #[s, t], argTypes := #[48, 48] }) (hs : a.eval s = v) (ht : a.eval t = .slice (some ⟨w3.heap.size, 0, none⟩) 3 3)
    (h : ∀ g cap w', w'.ownsRow F 9 1 (.slice (some ⟨g, 0, none⟩) (n + 3) cap) (n + 3) (sv (xs ++ [x, y, z])) → (w3.alloc (.cells #[.string x, .string y, .string z] 9)).grownBy w' v.ownBlock → K (a.put o.dst (.slice (some ⟨g, 0, none⟩) (n + 3) cap)) w') :
    if Region.wanted o (yielded ops a.tmps) = true then Oper.wp Tryd.prog o a (w3.alloc (.cells #[.string x, .string y, .string z] 9)) K Q else E := by
  obtain ⟨i0, hi0, hzz⟩ := Option.map_eq_some_iff.1 Tryd.infoS
  simp only [Prod.mk.injEq] at hzz
  obtain ⟨hz0, hz1, hz2⟩ := hzz
  refine step_append_lies _ hgd s t 48 ho F 9 i0 _ 1 16 Tryd.underlying48 hi0 hz0 hz1 hz2 rfl (by omega) v n (sv xs) hs (own_alloc hown _) ⟨w3.heap.size, 0, none⟩ 3 3 [.string x, .string y, .string z] ht rfl (news3 (heap_alloc_new w3 _)) (by simp [Value.oneCell']) (by omega) (by unfold maxLen; omega) (by omega) (by simp; omega) _ rfl ?_
  intro g cap w' h1 h2 _ _
  exact h g cap w' (by rw [sv_app]; exact h1) h2
theorem undrew {B : Nat} {w w' : World} (h : Below B w.drew w') : Below B w w' := ⟨h.os, h.tape, h.output, h.size, h.block⟩

set_option maxRecDepth 100000 in
set_option maxHeartbeats 4000000 in
theorem entryWords_3 (id : Int) (key name : ByteArray) (a : Option Addr) (len cap : Nat) (zs : List Int) (w : World) (hr : IsRow .i64 w a len cap zs) (ht : Tab w) (hl : len ≤ 1048576) (hi : (Lit.int .i64 id).wf = true) :
    Calls Tryd.prog 17 #[.agg #[.int .i64 3, .int .i64 id, .string key, .string name, .slice a len cap]] w fun e w' => ∃ v, e = .returned v ∧ Row w' v (sv (⟨#[97, 115, 107]⟩ :: itoB id :: key :: nmT name :: numS zs)) ∧ Below w.heap.size w w' := by
  have t0 := ta_ask_start
  have t1 := ta_ask_mark
  have t2 := ta_ask_ask
  have t3 := ta_ask_hap
  have t4 := ta_ask_end
  have kw := kw_3
  have HT : Hid (Tab w) := ht
  have HK : Hid (∀ w', Below (w.heap.size + 1) (w.alloc (.cells #[.int .i64 3, .int .i64 id, .string key, .string name, .slice a len cap] 35)) w' → Calls Tryd.prog 31 #[] w' fun e w'' => e = .returned (.agg #[.string ⟨#[]⟩, .string ⟨#[115, 116, 97, 114, 116]⟩, .string ⟨#[109, 97, 114, 107]⟩, .string ⟨#[97, 115, 107]⟩, .string ⟨#[100, 111, 110, 101]⟩, .string ⟨#[98, 114, 111, 107, 101]⟩, .string ⟨#[102, 105, 114, 101, 100]⟩, .string ⟨#[115, 105, 103, 110, 97, 108]⟩, .string ⟨#[99, 97, 110, 99, 101, 108]⟩, .string ⟨#[101, 110, 100]⟩]) ∧ Below (w.heap.size + 1) (w.alloc (.cells #[.int .i64 3, .int .i64 id, .string key, .string name, .slice a len cap] 35)) w'') := fun w' hb => boxed hb (kindWords w')
  have HNO : Hid (∀ w', Below (w.heap.size + 1) (w.alloc (.cells #[.int .i64 3, .int .i64 id, .string key, .string name, .slice a len cap] 35)) w' → Calls Tryd.prog 26 #[.agg #[.int .i64 3, .int .i64 id, .string key, .string name, .slice a len cap]] w' fun x w'' => x = .returned (.iface 69 (.agg #[.int .i64 id, .string key, .string name, .slice a len cap])) ∧ Below w'.heap.size w' w'') := fun w' hb => noteOf_3 id key name a len cap w'
  have HNW : Hid (∀ w', Below (w.heap.size + 1) (w.alloc (.cells #[.int .i64 3, .int .i64 id, .string key, .string name, .slice a len cap] 35)) w' → Calls Tryd.prog 32 #[.slice a len cap] w' fun e w'' => ∃ v, e = .returned v ∧ Row w'' v (sv (numS zs)) ∧ Below w'.heap.size w' w'') := fun w' hb => numWords a len cap zs w' (hr.below (unbox hb)) (HT.out.below (unbox hb)) hl
  have hz := hr.len.1
  have HIT : Hid (∀ w', Below w.heap.size w w' → Calls Tryd.prog 33 #[.int .i64 id] w' fun e w'' => e = .returned (.string (itoB id)) ∧ Below w'.heap.size w' w'') := fun w' hb => itoa id hi w' (HT.out.below hb)
  have HNM : Hid (∀ w', Calls Tryd.prog 34 #[.string name] w' fun e w'' => e = .returned (.string (nmT name)) ∧ w'' = w') := fun w' => nameWord name w'
  clear hr ht hi
  go_enter Tryd.func17, Tryd.ntmps17
  go_wp2_with fail
  first | (go_region_with (go_at_call 31; refine (HK.out _ ?_).mono ?_; (first | exact Below.refl _ _ | assumption | exact (Below.refl _ _).drew); rintro x w1 ⟨rfl, hw1⟩; obtain ⟨c10, c11, c12, c13, c14⟩ := box5 hw1)) | fail
  all_goals
    have hs1 : w.heap.size < w1.heap.size := by have := hw1.size; simp at this; omega
    go_wp2_with first
      | (go_at_call 26; refine (HNO.out _ ?_).mono ?_; exact hw1.alloc (by omega) _; rintro x w2 ⟨rfl, hw2⟩; have hb2 := bcall (hw1.alloc (by omega) _) (by simp; omega) hw2; have hown2 := own_below (own_one (F := w.heap.size + 1) _ (by omega)) hw2; have hs2 : w.heap.size + 1 ≤ w2.heap.size := (by have := hb2.size; simpa using this); have hs12 : w1.heap.size + 1 ≤ w2.heap.size := (by have := hw2.size; simpa using this))
    go_region_held3 (fun w' => w'.cell? ⟨w2.heap.size, 0, none⟩ = some (.int .i64 id) ∧ w'.cell? ⟨w2.heap.size, 1, none⟩ = some (.string key) ∧ w'.cell? ⟨w2.heap.size, 2, none⟩ = some (.string name) ∧ w'.cell? ⟨w2.heap.size, 3, none⟩ = some (.slice a len cap)) (first | go_keep | exact ⟨keep_far hgr4 (by omega) (by omega) x30, keep_far hgr4 (by omega) (by omega) x31, keep_far hgr4 (by omega) (by omega) x32, keep_far hgr4 (by omega) (by omega) x33⟩)
      (first
        | (go_at_call 33; refine (HIT.out _ ?_).mono ?_; exact (unbox (hb2.alloc hs2 _)).drew; rintro x w3 ⟨rfl, hd3⟩; have hw3 := undrew hd3; have hown3 := own_below (own_alloc hown2 _) hw3; have hb3 := bcall (hb2.alloc hs2 _) (by simp; omega) hw3; obtain ⟨x30, x31, x32, x33⟩ := box4 (w := w2) (V := w3) (by simpa using hw3); have hs3 : w2.heap.size + 1 ≤ w3.heap.size := (by have := hw3.size; simpa using this); have hF3 : w.heap.size + 1 ≤ w3.heap.size := (by omega))
        | (go_at_call 34; refine (HNM.out _).mono ?_; rintro x w4 ⟨rfl, he4⟩; have he5 := he4.symm; clear he4; subst he5)
        | (refine step_app3 hown3 hF3 (by omega) (by rfl) _ _ (by rfl) (by rfl) (by rfl) ?_; intro g cap4 w4 hown4 hgq4; have hgr4 : (w3.alloc (.cells #[.string (itoB id), .string key, .string (nmT name)] 9)).grownBy w4 (some w1.heap.size) := hgq4))
    have c4 := keep_far hgr4 (by omega) (by omega) x33
    have hb4 := (hb3.alloc (by omega) _).trans ((Below.refl _ _).grown hgr4 (by simp; omega) (fun k hk => by injection hk with hk; omega))
    have hs4 : w.heap.size + 1 ≤ w4.heap.size := (by have := hb4.size; simpa using this)
    go_wp2_with first
      | (go_at_call 32; refine (HNW.out _ hb4).mono ?_; rintro x w5 ⟨v5, rfl, hv5, hw5⟩; have hown5 := own_below hown4 hw5; have hb5 := bcall hb4 hs4 hw5)
      | (at_builtin; refine wp_app_strs rfl _ _ rfl (w.heap.size + 1) _ _ 4 [⟨#[97, 115, 107]⟩, itoB id, key, nmT name] (numS zs) rfl hown5 rfl hv5 (by rw [numS_len]; omega) (by have := hb5.size; simp at this; omega) ?_; intro v6 w6 hown6 hg6 hgr6)
    go_ret
    exact ⟨_, rfl, Row.owned hown6, unbox (hb5.trans hg6)⟩
end Go.Proofs.YtmfibpfnbhhoaaaDoor
