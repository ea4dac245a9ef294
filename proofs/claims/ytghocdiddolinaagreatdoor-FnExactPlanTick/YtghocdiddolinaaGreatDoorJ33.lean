/- The program's planner: it passes to a tick; or it raises that it is untimely. -/
import Derived.Test.YtghocdiddolinaaGreatDoorJ32
import Derived.RecoverIn
import Derived.RangeFuncLeaves
namespace Go.Proofs.YtghocdiddolinaaGreatDoor
set_option linter.unusedVariables false
set_option linter.unusedSimpArgs false
open Go.RowKit Go Go.Sort
namespace Pl
open Dr (ButO rowB rowB_own rowB_pos)

def untimelyV : Value := .iface 87 (.agg #[])
set_option maxHeartbeats 2000000 in
theorem passOk {W : World} {F n m : Nat} {S : Nat → Prop} {vr : Value} {pol win last : Int} {vp vg vw vt vo : Value} {gs ws : List Int} {ts os : List Tld} (h : Pnr W F S n m vr pol win last vp vg vw vt vo gs ws ts os) (now : Int) (h1 : last < now) (h2 : 0 ≤ now ∧ now ≤ 100000) :
    Calls Tryz.prog 56 #[.pointer (some ⟨n, 0, none⟩), .int .i64 now] W fun e W' => e = .returned (.tuple #[]) ∧ Pnr W' F S n m vr pol win now vp vg vw vt vo gs ws ts os ∧ Stays F S W W' := by
  have HI : Hid (∀ w, Calls Tryz.prog 80 #[.int .i64 now] w fun e w' => e = .returned (.bool true) ∧ w' = w) := fun w => (isTick now w).mono fun e w' h => by rw [decide_eq_true h2] at h; exact h
  have HP : Hid _ := h
  obtain ⟨q0, q1, q2, q3, q4, q5, q6, q7, q8, qf⟩ := nineOf h.box
  have h3 : ¬ now ≤ last := by omega
  clear h h2 q0 q1 q2 q4 q5 q6 q7 q8
  go_enter Tryz.func56, Tryz.ntmps56
  go_wp2_with (go_at_call 80; refine (HI.out _).mono ?_; rintro e w1 ⟨rfl, rfl⟩)
  go_end0
  exact ⟨rfl, HP.out.setLast now⟩
set_option maxHeartbeats 2000000 in
theorem passNo {W : World} {n : Nat} {v0 v1 v2 v4 v5 v6 v7 v8 : Value} {last : Int} (h : Holds W n 84 #[v0, v1, v2, .int .i64 last, v4, v5, v6, v7, v8]) (now : Int) (h1 : now ≤ last ∨ ¬ (0 ≤ now ∧ now ≤ 100000)) :
    Calls Tryz.prog 56 #[.pointer (some ⟨n, 0, none⟩), .int .i64 now] W fun e W' => e = .panicked [{ v := untimelyV, recovered := false }] ∧ Below W.heap.size W W' := by
  obtain ⟨q0, q1, q2, q3, q4, q5, q6, q7, q8, qf⟩ := nineOf h
  clear h q0 q1 q2 q4 q5 q6 q7 q8
  by_cases h3 : now ≤ last
  · clear h1
    go_enter Tryz.func56, Tryz.ntmps56
    go_wp2_with fail
    exact ⟨rfl, rfl, Below.refl _ _⟩
  · have HI : Hid (∀ w, Calls Tryz.prog 80 #[.int .i64 now] w fun e w' => e = .returned (.bool false) ∧ w' = w) := fun w => (isTick now w).mono fun e w' h => by rw [decide_eq_false (by omega)] at h; exact h
    clear h1
    go_enter Tryz.func56, Tryz.ntmps56
    go_wp2_with (go_at_call 80; refine (HI.out _).mono ?_; rintro e w1 ⟨rfl, rfl⟩)
    exact ⟨rfl, rfl, Below.refl _ _⟩

set_option maxRecDepth 20000 in
set_option maxHeartbeats 4000000 in
theorem catchP {W : World} {n nb pb : Nat} {v0 v1 v2 v3 v4 v5 v6 v7 v8 : Value} {ra : Option Addr} {rl rc : Nat} {pol win last : Int} {ga : Option Addr} {gl gc : Nat} {wa : Option Addr} {wl wc : Nat} {ta : Option Addr} {tl tc : Nat} (h : Holds W n 84 #[v0, v1, v2, v3, v4, v5, v6, v7, v8]) (hb : Holds W nb 31 #[.slice ra rl rc, .int .i64 pol, .int .i64 win, .int .i64 last, .slice ga gl gc, .slice wa wl wc, .slice ta tl tc]) (hp : Holds W pb 54 #[.pointer (some ⟨n, 0, none⟩)]) (k : Nat) :
    CallsDIn Fence.wide k Tryz.prog 55 #[.pointer (some ⟨nb, 0, none⟩), .pointer (some ⟨pb, 0, none⟩)] (.panicking [{ v := untimelyV, recovered := false }]) W fun e u' w' =>
      e = .returned (.tuple #[]) ∧ u' = .panicking [{ v := untimelyV, recovered := true }] ∧ w' = (((((((W.setCell ⟨n, 0, none⟩ (.slice ra rl rc)).setCell ⟨n, 1, none⟩ (.int .i64 pol)).setCell ⟨n, 2, none⟩ (.int .i64 win)).setCell ⟨n, 3, none⟩ (.int .i64 last)).setCell ⟨n, 4, none⟩ (.slice ga gl gc)).setCell ⟨n, 5, none⟩ (.slice wa wl wc)).setCell ⟨n, 6, none⟩ (.slice ta tl tc)).alloc (.cells #[] 87) := by
  obtain ⟨a0, a1, a2, a3, a4, a5, a6, af⟩ := sevenOf hb
  obtain ⟨q0, q1, q2, q3, q4, q5, q6, q7, q8, qf⟩ := nineOf h
  have c0 : W.cell? ⟨pb, 0, none⟩ = some (.pointer (some ⟨n, 0, none⟩)) := by rw [hp.cell]; rfl
  have hta : ∀ w, (Instr.typeAssert (.iface 87 (.agg #[])) 20 87 true).run Tryz.prog w = .ok (.tuple #[.agg #[], .bool true]) w := fun w => by kernel_rfl
  refine callsDIn_of_wpSIn Tryz.func55 rfl trivial fun c₀ cs hu => ?_
  simp only [Tryz.ntmps55, List.size_toArray, List.length_cons, List.length_nil, Nat.reduceAdd, Nat.reduceSub, Array.replicate_succ, Array.replicate_zero, List.push_toArray, List.append_toArray, List.nil_append, List.cons_append]
  apply wpSIn_seq
  apply wpSIn_region
  simp [wpOpsSIn, go_sem, recoverD, hu, untimelyV, Exit.thenS]
  refine wpSIn_of_wpIn rfl ?_
  have hnl := h.lt
  have hbl := hb.lt
  have hpl := hp.lt
  clear h hb hp
  gi_wp2
  simp [bodyPostS, results, Tryz.results55, go_sem]

set_option maxRecDepth 20000 in
set_option maxHeartbeats 4000000 in
theorem catchIdle {W : World} (nb pb : Nat) (k : Nat) :
    CallsDIn Fence.wide k Tryz.prog 55 #[.pointer (some ⟨nb, 0, none⟩), .pointer (some ⟨pb, 0, none⟩)] .returning W fun e u' w' =>
      e = .returned (.tuple #[]) ∧ u' = .returning ∧ w' = W.alloc (.cells #[] 87) := by
  have hta : ∀ w, (Instr.typeAssert .nilIface 20 87 true).run Tryz.prog w = .ok (.tuple #[.agg #[], .bool false]) w := fun w => by kernel_rfl
  refine callsDIn_of_wpSIn Tryz.func55 rfl trivial fun c₀ cs hu => ?_
  simp only [Tryz.ntmps55, List.size_toArray, List.length_cons, List.length_nil, Nat.reduceAdd, Nat.reduceSub, Array.replicate_succ, Array.replicate_zero, List.push_toArray, List.append_toArray, List.nil_append, List.cons_append]
  apply wpSIn_seq
  apply wpSIn_region
  simp [wpOpsSIn, go_sem, recoverD, hu, untimelyV, Exit.thenS]
  refine wpSIn_of_wpIn rfl ?_
  gi_wp2
  simp [bodyPostS, results, Tryz.results55, go_sem, hu]
  cases c₀
  simp_all
end Pl
end Go.Proofs.YtghocdiddolinaaGreatDoor
