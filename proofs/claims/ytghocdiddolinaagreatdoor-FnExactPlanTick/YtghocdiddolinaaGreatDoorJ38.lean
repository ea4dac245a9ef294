/- The program's own calendars: the iterator that merges the ticks of rules hands over those that are due above one, one behind the other. -/
import Derived.Test.YtghocdiddolinaaGreatDoorJ37
import Derived.Test.YtghocdiddolinaaGreatDoorJ27
namespace Go.Proofs.YtghocdiddolinaaGreatDoor
set_option linter.unusedVariables false
set_option linter.unusedSimpArgs false
open Go.RowKit Go
attribute [local go_sem] Oper.semAt_some

/-- What was told: n is the next one above prev; or there is none. -/
def NextIs (rs : List Rul) (prev n : Int) (ok : Bool) : Prop := (ok = true ∧ calNext rs prev = n ∧ 0 ≤ n ∧ n ≤ 100000 ∧ prev < n) ∨ (ok = false ∧ calNext rs prev = -1)
theorem tells_next {rs : List Rul} {t : Int} {e : Ending} (h : Tells (OfTo (okRules rs) (okRules rs).length) t e) : ∃ n ok, e = .returned (.tuple #[.int .i64 n, .bool ok]) ∧ NextIs rs t n ok := by
  rcases h with ⟨n, rfl, h0, h1, hf⟩ | ⟨n, rfl, hf⟩
  · have he := calNext_eq (rs := rs) (FirstR.congr (okRules_due rs) hf)
    have hb := (next_bd rs t).2.2 (by omega)
    exact ⟨n, true, rfl, .inl ⟨rfl, he, h0, h1, by omega⟩⟩
  · exact ⟨n, false, rfl, .inr ⟨rfl, calNext_eq (rs := rs) (FirstR.congr (okRules_due rs) hf)⟩⟩
def measM (o k : Value) : Nat := match k with | .bool true => (100002 - intOf o).toNat + 1 | _ => 0

set_option maxRecDepth 100000 in
set_option maxHeartbeats 4000000 in
theorem merged1 (w0 : World) (M p1 p2 : Nat) (v : Value) (t : Int) (rs : List Rul) (ht : -9223372036854775808 ≤ t) (n : Nat) (hn : 1 ≤ n) :
    Iters Fence.wide n Tryz.prog 95 #[.pointer (some ⟨p1, 0, none⟩), .pointer (some ⟨p2, 0, none⟩)] (fun x : Int => #[.int .i64 x]) (fun X Y => Below X.heap.size X Y) (fun X Y => Teller w0 X M p1 p2 v t (okRules rs) → Teller w0 Y M p1 p2 v t (okRules rs)) (dueL rs 100002 t) (fun W => Teller w0 W M p1 p2 v t (okRules rs)) := by
  intro l J Jx W hst hJ hJx hY h0
  obtain ⟨pa, pc, rfl, _⟩ := hst.2.2.2.2.2.form
  have cell1 : ∀ W, Teller w0 W M p1 p2 (.slice pa (okRules rs).length pc) t (okRules rs) → W.cell? ⟨p1, 0, none⟩ = some (.slice pa (okRules rs).length pc) := fun W h => by simp [World.cell?, h.2.2.2.1]
  have HC1 : Hid _ := cell1
  have c1 := cell1 W hst
  have c2 : W.cell? ⟨p2, 0, none⟩ = some (.int .i64 t) := by simp [World.cell?, hst.2.2.2.2.1]
  have HLA : Hid (∀ (u : Int) (W : World), Teller w0 W M p1 p2 (.slice pa (okRules rs).length pc) t (okRules rs) → -9223372036854775808 ≤ u → Calls Tryz.prog 96 #[.slice pa (okRules rs).length pc, .int .i64 u] W fun x w' => Tells (OfTo (okRules rs) (okRules rs).length) u x ∧ Below W.heap.size W w') := fun u W h hu => leastAbove w0 M (okRules rs) _ u W h.2.2.2.2.2 h.1 (okRules_ok rs) hu
  have kb : ∀ (X Y : World), Teller w0 X M p1 p2 (.slice pa (okRules rs).length pc) t (okRules rs) → Below X.heap.size X Y → Teller w0 Y M p1 p2 (.slice pa (okRules rs).length pc) t (okRules rs) := fun X Y h hb => h.keep (h.1.below hb) (KeptUp.below hb)
  have KB : Hid _ := kb
  have HST : Hid (Teller w0 W M p1 p2 (.slice pa (okRules rs).length pc) t (okRules rs)) := hst
  clear hst cell1 kb
  refine callsIn_of_wp Tryz.func95 rfl trivial ?_ rfl
  simp only [Tryz.ntmps95, List.size_toArray, List.length_cons, List.length_nil, Nat.reduceAdd, Nat.reduceSub, Array.replicate_succ, Array.replicate_zero, List.push_toArray, List.append_toArray, List.nil_append, List.cons_append]
  gi_wp2_with fail
  refine ⟨trivial, (callsIn_wide.2 (HLA.out t W HST.out ht)).mono ?_⟩
  rintro e W1 ⟨htl, hw1⟩
  obtain ⟨n0, ok0, rfl, hnx⟩ := tells_next htl
  have HT1 : Hid (Teller w0 W1 M p1 p2 (.slice pa (okRules rs).length pc) t (okRules rs)) := KB.out _ _ HST.out hw1
  have hj1 := hJ _ _ _ h0 hw1
  clear htl
  gi_wp2_with fail
  gi_loopw [4, 5] (fun o k wr => ∃ (pre : List Int) (f : Nat) (prev x : Int) (ok : Bool), o = .int .i64 x ∧ k = .bool ok ∧ J pre wr ∧ Teller w0 wr M p1 p2 (.slice pa (okRules rs).length pc) t (okRules rs) ∧ dueL rs 100002 t = pre ++ dueL rs f prev ∧ Enough f prev ∧ NextIs rs prev x ok) (fun o k _ => measM o k)
  case atStart => exact ⟨[], 100002, t, n0, ok0, rfl, rfl, hj1, HT1.out, rfl, ⟨fun _ => Nat.le_refl _, fun h => by omega⟩, hnx⟩
  case round =>
    clear hnx hj1 HT1
    obtain ⟨pre, f, prev, x, ok, rfl, rfl, hj, hT, hXS, hf, hnx⟩ := hrel
    have HT : Hid _ := hT
    have d1 := HC1.out _ hT
    clear hT
    rcases hnx with ⟨rfl, hx, hx0, hx1, hx2⟩ | ⟨rfl, hx⟩
    · obtain ⟨f', hcons, hf'⟩ := dueL_cons (rs := rs) (t := prev) (by omega) hf
      rw [hx] at hcons hf'
      have hXS' : dueL rs 100002 t = pre ++ [x] ++ dueL rs f' x := by rw [hXS, hcons]; simp
      obtain ⟨fn, tmps, assign, body, hy, hR⟩ := hY pre x wr hj ⟨_, hXS'.symm⟩
      gi_wp2_with fail
      refine hR.mono ?_
      rintro e W2 (⟨rfl, hj2, hkp⟩ | ⟨rfl, hxx⟩)
      · have hT2 := hkp HT.out
        have HT2 : Hid _ := hT2
        have d2 := HC1.out _ hT2
        clear hT2 hkp
        gi_wp2_with fail
        refine ⟨trivial, (callsIn_wide.2 (HLA.out x W2 HT2.out (by omega))).mono ?_⟩
        rintro e W3 ⟨htl, hw3⟩
        obtain ⟨n1, ok1, rfl, hnx1⟩ := tells_next htl
        have HT3 : Hid (Teller w0 W3 M p1 p2 (.slice pa (okRules rs).length pc) t (okRules rs)) := KB.out _ _ HT2.out hw3
        have hj3 := hJ _ _ _ hj2 hw3
        have HME : Hid (measM (.int .i64 n1) (.bool ok1) < measM (.int .i64 x) (.bool true)) := by
          show measM _ _ < measM _ _
          rcases hnx1 with ⟨rfl, _, h1, h2, h3⟩ | ⟨rfl, _⟩
          · simp only [measM, intOf]; omega
          · simp only [measM]; omega
        clear htl
        gi_wp2_with fail
        go_roundw
        case rel => exact ⟨pre ++ [x], f', x, n1, ok1, rfl, rfl, hj3, HT3.out, hXS', hf', hnx1⟩
        case measure => exact HME.out
      · gi_wp2_with fail
        go_end0
        exact ⟨⟨_, rfl⟩, .inr ⟨_, hxx⟩⟩
    · gi_wp2_with fail
      refine And.intro (fun g hg => trivial) ?_
      gi_wp2_with fail
      go_end0
      rw [dueL_nil (f := f) (t := prev) (by omega), List.append_nil] at hXS
      exact ⟨⟨_, rfl⟩, .inl (by rw [hXS]; exact hj)⟩
end Go.Proofs.YtghocdiddolinaaGreatDoor
