/- Words that are joined by the library. -/
import Derived.Test.YtkemfifkjaclhaaGreatDoorJ24
import Derived.Test.YtkemfifkjaclhaaGreatDoorJ2
import Derived.WalkKit
import Derived.BigCall
import Derived.Shelf.Strconv.ErrVarAll
import Derived.Test.YtkemfifkjaclhaaGreatDoorJ22
import Derived.Test.YtkemfifkjaclhaaGreatDoorJ21
namespace Go.Proofs.YtkemfifkjaclhaaGreatDoor
set_option linter.unusedVariables false
set_option linter.unusedSimpArgs false
open Go.RowKit Go

/-- What is left of the words, in block N. -/
abbrev Rest (w : World) (N : Nat) (v : Value) (f : Bool) : Prop := Holds w N 97 #[v, .bool f]
set_option maxHeartbeats 1000000 in
theorem word_none (N : Nat) (a : Option Addr) (c : Nat) (f : Bool) (w : World) (hH : Rest w N (.slice a 0 c) f) :
    Calls Tryz.prog 53 #[.pointer (some ⟨N, 0, none⟩)] w fun e w' => e = .returned (.string ⟨#[]⟩) ∧ w' = w.setCell ⟨N, 1, none⟩ (.bool true) := by
  have c0 := hH.cell 0
  have c1 := hH.cell 1
  have f1 := hH.frozen 1
  simp at c0 c1
  have HH : Hid _ := hH
  clear hH
  go_enter Tryz.func53, Tryz.ntmps53
  go_wp2
  go_ret
  exact ⟨rfl, rfl⟩

set_option maxHeartbeats 1000000 in
theorem word_cons (N : Nat) (a : Option Addr) (n c : Nat) (f : Bool) (x : ByteArray) (t : List ByteArray) (w0 w : World) (hH : Rest w N (.slice a n c) f) (hb0 : Below w0.heap.size w0 w) (hr : Row w0 (.slice a n c) (sv (x :: t))) :
    Calls Tryz.prog 53 #[.pointer (some ⟨N, 0, none⟩)] w fun e w' => e = .returned (.string x) ∧ ∃ a' n' c', w' = w.setCell ⟨N, 0, none⟩ (.slice a' n' c') ∧ Row w0 (.slice a' n' c') (sv t) := by
  obtain ⟨b, off, rfl, hle, hbl, hc⟩ := hr.at (k := 0) (by simp [sv])
  obtain ⟨a1, cap1, hform⟩ := hr.form
  simp only [Value.slice.injEq] at hform
  have hn : n = t.length + 1 := by rw [hform.2.1, sv_len]; rfl
  have hmax : c ≤ maxLen := by
    rcases hr with ⟨h, _⟩ | ⟨_, _, _, h, _, h2, _⟩
    · cases h
    · simp only [Value.slice.injEq] at h; rw [h.2.2]; exact h2
  have hcells : ∀ i (hi : i < t.length), w0.cell? ⟨b, off + 1 + i, none⟩ = some (.string t[i]) := fun i hi => by
    obtain ⟨b', off', e', _, _, h'⟩ := hr.at (k := i + 1) (by simp [sv]; omega)
    simp only [Option.some.injEq, Addr.mk.injEq, and_true] at e'
    obtain ⟨rfl, rfl⟩ := e'
    rw [show off + 1 + i = off + (i + 1) by omega, h', sv_at]; rfl
  have HC : Hid _ := hcells
  clear hcells hform hr
  unfold maxLen at hmax
  have hc : w.cell? ⟨b, off, none⟩ = some (.string x) := (hb0.cell (p := ⟨b, off, none⟩) hbl).trans (by simpa [sv] using hc)
  have HB0 : Hid _ := hb0
  clear hb0
  have c0 := hH.cell 0
  have c1 := hH.cell 1
  have f0 := hH.frozen 0
  simp at c0 c1
  have HH : Hid _ := hH
  clear hH
  subst hn
  by_cases h1 : c = 1
  · subst h1
    have ht : t = [] := List.length_eq_zero_iff.1 (by omega)
    subst ht
    go_enter Tryz.func53, Tryz.ntmps53
    go_wp2
    go_ret
    exact ⟨rfl, _, _, _, rfl, .inr ⟨b, off, 0, rfl, Nat.le_refl _, Nat.zero_le _, hbl, fun i y hy => by simp [sv] at hy⟩⟩
  · go_enter Tryz.func53, Tryz.ntmps53
    go_wp2
    go_ret
    refine ⟨rfl, _, _, _, rfl, .inr ⟨b, off + 1, c - 1, ?_, by rw [sv_len]; omega, by unfold maxLen; omega, hbl, fun i y hy => ?_⟩⟩
    · rw [sv_len]
    · have hi : i < t.length := by rw [← sv_len t]; exact (List.getElem?_eq_some_iff.1 hy).1
      rw [HC.out i hi]
      unfold sv at hy
      rw [List.getElem?_map, List.getElem?_eq_getElem hi] at hy
      simpa using hy

/-- The library's two errors stand. -/
def Errs (w : World) : Prop :=
  (∃ tp p, w.var? Tryz.prog "strconv.ErrSyntax" = some #[.iface tp p]) ∧ ∃ tp p, w.var? Tryz.prog "strconv.ErrRange" = some #[.iface tp p]
theorem var_later {w w' : World} {n : String} {g : Nat} {x : Value} (hg : Tryz.prog.globalNamed n = some g) (h : w.var? Tryz.prog n = some #[x]) (hk : g < w.heap.size → w'.heap[g]? = w.heap[g]?) : w'.var? Tryz.prog n = some #[x] := by
  have hc := World.var?_cell hg h 0
  have hlt := World.block_lt_of_cell? w ⟨g, 0, none⟩ hc
  rw [← h]
  simp only [World.var?, hg, Option.bind_some, hk hlt]
theorem Errs.later {w w' : World} (h : Errs w) (hk : ∀ k, k < w.heap.size → (k = 3 ∨ k = 4) → w'.heap[k]? = w.heap[k]?) : Errs w' := by
  obtain ⟨⟨t1, p1, h1⟩, ⟨t2, p2, h2⟩⟩ := h
  exact ⟨⟨t1, p1, var_later (g := 3) (by kernel_rfl) h1 (fun hl => hk _ hl (.inl rfl))⟩, ⟨t2, p2, var_later (g := 4) (by kernel_rfl) h2 (fun hl => hk _ hl (.inr rfl))⟩⟩
theorem Errs.below {w w' : World} (h : Errs w) (hb : Below w.heap.size w w') : Errs w' := h.later (fun k hk _ => hb.block k hk)

theorem grown_trans {a b c : World} {row : Option Nat} (h : a.grownBy b row) (k : b.grownBy c row) : a.grownBy c row :=
  ⟨k.os.trans h.os, k.tape.trans h.tape, k.output.trans h.output, Nat.le_trans h.size k.size, fun i hi hr => (k.block i (Nat.lt_of_lt_of_le hi h.size) hr).trans (h.block i hi hr)⟩
theorem grown_below {w w' : World} (row : Option Nat) (h : Below w.heap.size w w') : w.grownBy w' row := ⟨h.os, h.tape, h.output, h.size, fun k hk _ => h.block k hk⟩
theorem grown_set (w : World) (N i : Nat) (u : Value) : w.grownBy (w.setCell ⟨N, i, none⟩ u) (some N) := by
  have hb : Below 0 w (w.setCell ⟨N, i, none⟩ u) := (Below.refl 0 w).setCell (p := ⟨N, i, none⟩) (Nat.zero_le _) u
  exact ⟨hb.os, hb.tape, hb.output, hb.size, fun k _ hr => Below.heap_setCell w ⟨N, i, none⟩ u k (fun e => hr (by rw [e]))⟩

/-- The number that a word spells, if it spells one. -/
def atoiO (x : ByteArray) : Option Int := match Lib.atoiAll x.data.toList with
  | .ok v => some v
  | _ => none
def numA : List ByteArray → Option Int
  | [] => none
  | x :: _ => atoiO x
theorem atoiO_wf {x : ByteArray} {z : Int} (h : atoiO x = some z) : (Lit.int .i64 z).wf = true := by
  unfold atoiO at h
  split at h
  · rename_i v hv
    cases h
    have := Lib.atoiAll_bounds hv
    have e1 : IntKind.i64.min = -9223372036854775808 := by decide
    have e2 : IntKind.i64.max = 9223372036854775807 := by decide
    simp only [Lit.wf, e1, e2, Bool.and_eq_true, decide_eq_true_eq]; omega
  · cases h

/-- What Atoi answers: a number and no error, or an error. -/
theorem atoi (x : ByteArray) (w : World) (hx : x.size ≤ 16777216) (he : Errs w) :
    (∃ z, atoiO x = some z ∧ Calls Tryz.prog 68 #[.string x] w fun e w' => e = .returned (.tuple #[.int .i64 z, .nilIface]) ∧ Below w.heap.size w w') ∨
    (atoiO x = none ∧ ∃ z, Calls Tryz.prog 68 #[.string x] w fun e w' => ∃ M, e = .returned (.tuple #[.int .i64 z, .iface 143 (.pointer (some ⟨M, 0, none⟩))]) ∧ Below w.heap.size w w') := by
  obtain ⟨⟨t1, p1, h1⟩, ⟨t3, p3, h3⟩⟩ := he
  unfold atoiO
  cases h : Lib.atoiAll x.data.toList
  · rename_i v
    refine .inl ⟨v, rfl, (strconv_Atoi_ok x (by omega) v h w).mono ?_⟩
    rintro e w' ⟨rfl, rfl | ⟨t, rfl⟩⟩
    · exact ⟨rfl, Below.refl _ _⟩
    · exact ⟨rfl, Lib.bytesWorld_below _ _ _⟩
  · refine .inr ⟨rfl, 0, (Any.strconv_Atoi_syntax_var laysC172 x (by omega) h t1 p1 w h1).mono ?_⟩
    rintro e w' ⟨M, rfl, _, _, hb⟩
    exact ⟨M, rfl, hb⟩
  · refine .inr ⟨rfl, Lib.atoiSat x.data.toList, (Any.strconv_Atoi_range_var laysC172 x (by omega) h t3 p3 w h3).mono ?_⟩
    rintro e w' ⟨M, rfl, _, _, hb⟩
    exact ⟨M, rfl, hb⟩

/-- What num leaves: the words behind it; it has failed where it spelt none. -/
def NumPost (N : Nat) (ws : List ByteArray) (f : Bool) (w0 w : World) (e : Ending) (w' : World) : Prop :=
  ∃ z f' a n c, e = .returned (.int .i64 z) ∧ Rest w' N (.slice a n c) f' ∧ Row w0 (.slice a n c) (sv ws.tail) ∧ w.grownBy w' (some N) ∧ ((f' = f ∧ numA ws = some z) ∨ (f' = true ∧ numA ws = none))
/-- What word leaves. -/
def WordPost (N : Nat) (ws : List ByteArray) (f : Bool) (w0 w : World) (e : Ending) (w' : World) : Prop :=
  ∃ x f' a n c, e = .returned (.string x) ∧ Rest w' N (.slice a n c) f' ∧ Row w0 (.slice a n c) (sv ws.tail) ∧ w.grownBy w' (some N) ∧ ((f' = f ∧ ws = x :: ws.tail) ∨ (f' = true ∧ ws = []))

theorem word (N : Nat) (a : Option Addr) (n c : Nat) (f : Bool) (ws : List ByteArray) (w0 w : World) (hH : Rest w N (.slice a n c) f) (hb0 : Below w0.heap.size w0 w) (hr : Row w0 (.slice a n c) (sv ws)) :
    Calls Tryz.prog 53 #[.pointer (some ⟨N, 0, none⟩)] w fun e w' => WordPost N ws f w0 w e w' := by
  cases ws with
  | nil =>
    obtain ⟨a1, cap1, hform⟩ := hr.form
    simp only [Value.slice.injEq] at hform
    have hn : n = 0 := by rw [hform.2.1]; rfl
    subst hn
    refine (word_none N a c f w hH).mono ?_
    rintro e w' ⟨rfl, rfl⟩
    exact ⟨_, true, a, 0, c, rfl, Holds.set hH 1 (.bool true), hr, grown_set _ _ _ _, .inr ⟨rfl, rfl⟩⟩
  | cons x t =>
    refine (word_cons N a n c f x t w0 w hH hb0 hr).mono ?_
    rintro e w' ⟨rfl, a', n', c', rfl, hr'⟩
    exact ⟨x, f, a', n', c', rfl, Holds.set hH 0 _, hr', grown_set _ _ _ _, .inl ⟨rfl, rfl⟩⟩

set_option maxHeartbeats 2000000 in
theorem num2 (N : Nat) (a : Option Addr) (n c : Nat) (f : Bool) (ws : List ByteArray) (w0 w : World) (hH : Rest w N (.slice a n c) f) (hb0 : Below w0.heap.size w0 w) (hr : Row w0 (.slice a n c) (sv ws)) (hel : ∀ i u, Errs (w.setCell ⟨N, i, none⟩ u)) (hz : ∀ x ∈ ws, x.size ≤ 16777216) :
    Calls Tryz.prog 54 #[.pointer (some ⟨N, 0, none⟩)] w fun e w' => NumPost N ws f w0 w e w' := by
  cases ws with
  | nil =>
    obtain ⟨a1, cap1, hform⟩ := hr.form
    simp only [Value.slice.injEq] at hform
    have hn : n = 0 := by rw [hform.2.1]; rfl
    subst hn
    have HW : Hid _ := word_none N a c f w hH
    have HH1 : Hid (Rest (w.setCell ⟨N, 1, none⟩ (.bool true)) N (.slice a 0 c) true) := hH.set 1 (.bool true)
    have HR1 : Hid _ := hr
    rcases atoi ⟨#[]⟩ (w.setCell ⟨N, 1, none⟩ (.bool true)) (by decide) (hel _ _) with ⟨z, hz, _⟩ | ⟨_, z, hA⟩
    · rw [show atoiO ⟨#[]⟩ = none by decide] at hz; cases hz
    · have HA : Hid _ := hA
      clear hA hr hform hel hz hb0
      have HG : Hid _ := grown_set w N 1 (.bool true)
      clear hH
      go_enter Tryz.func54, Tryz.ntmps54
      go_wp2_with first
        | (go_at_call 53; refine Calls.mono HW.out ?_; rintro e w1 ⟨rfl, rfl⟩)
        | (go_at_call 68; refine Calls.mono HA.out ?_; rintro e w2 ⟨M, rfl, hb⟩; have hH2 := Holds.below HH1.out hb; have c0 := hH2.cell 0; have c1 := hH2.cell 1; have f1 := hH2.frozen 1; simp at c0 c1; have HH2 : Hid _ := hH2; clear hH2)
      go_ret
      exact ⟨z, true, a, 0, c, rfl, Holds.set HH2.out 1 (.bool true), HR1.out, grown_trans (grown_trans HG.out (grown_below _ hb)) (grown_set _ _ _ _), .inr ⟨rfl, rfl⟩⟩
  | cons x t =>
    have HW : Hid _ := word_cons N a n c f x t w0 w hH hb0 hr
    have hAT : ∀ v, _ := fun v => atoi x (w.setCell ⟨N, 0, none⟩ v) (hz x (by simp)) (hel _ _)
    cases hx : atoiO x with
    | some z =>
      have HA : Hid (∀ v, Calls Tryz.prog 68 #[.string x] (w.setCell ⟨N, 0, none⟩ v) fun e w' => e = .returned (.tuple #[.int .i64 z, .nilIface]) ∧ Below (w.setCell ⟨N, 0, none⟩ v).heap.size (w.setCell ⟨N, 0, none⟩ v) w') := fun v => by
        rcases hAT v with ⟨z', h1, h2⟩ | ⟨h1, _⟩
        · rw [hx] at h1; cases h1; exact h2
        · rw [hx] at h1; cases h1
      have HH : Hid _ := hH
      clear hAT hr hel hz hH hb0
      go_enter Tryz.func54, Tryz.ntmps54
      go_wp2_with first
        | (go_at_call 53; refine Calls.mono HW.out ?_; rintro e w1 ⟨rfl, a1, n1, c1, rfl, hr1⟩; have HR1 : Hid _ := hr1; clear hr1)
        | (go_at_call 68; refine (HA.out _).mono ?_; rintro e w2 ⟨rfl, hb⟩; have HB : Hid _ := hb; clear hb)
      go_ret
      have hb := HB.out
      exact ⟨z, f, a1, n1, c1, rfl, Holds.below (Holds.set HH.out 0 (.slice a1 n1 c1)) hb, HR1.out, grown_trans (grown_set _ _ _ _) (grown_below _ hb), .inl ⟨rfl, hx⟩⟩
    | none =>
      have HA : Hid (∀ v, ∃ z, Calls Tryz.prog 68 #[.string x] (w.setCell ⟨N, 0, none⟩ v) fun e w' => ∃ M, e = .returned (.tuple #[.int .i64 z, .iface 143 (.pointer (some ⟨M, 0, none⟩))]) ∧ Below (w.setCell ⟨N, 0, none⟩ v).heap.size (w.setCell ⟨N, 0, none⟩ v) w') := fun v => by
        rcases hAT v with ⟨z', h1, h2⟩ | ⟨_, h1⟩
        · rw [hx] at h1; cases h1
        · exact h1
      have HH : Hid _ := hH
      clear hAT hr hel hz hH hb0
      go_enter Tryz.func54, Tryz.ntmps54
      go_wp2_with first
        | (go_at_call 53; refine Calls.mono HW.out ?_; rintro e w1 ⟨rfl, a1, n1, c1, rfl, hr1⟩; have HR1 : Hid _ := hr1; clear hr1; obtain ⟨z, hz1⟩ := HA.out (.slice a1 n1 c1); have HZ : Hid _ := hz1; clear hz1)
        | (go_at_call 68; refine Calls.mono HZ.out ?_; rintro e w2 ⟨M, rfl, hb⟩; have hH2 : Rest w2 N (.slice a1 n1 c1) f := Holds.below (Holds.set HH.out 0 (.slice a1 n1 c1)) hb; have c0 := hH2.cell 0; have c1 := hH2.cell 1; have f1 := hH2.frozen 1; simp at c0 c1; have HH2 : Hid _ := hH2; have HB : Hid _ := hb; clear hH2 hb)
      go_ret
      have hb := HB.out
      exact ⟨z, true, a1, n1, _, rfl, Holds.set HH2.out 1 (.bool true), HR1.out, grown_trans (grown_trans (grown_set _ _ _ _) (grown_below _ hb)) (grown_set _ _ _ _), .inr ⟨rfl, hx⟩⟩
theorem num (N : Nat) (a : Option Addr) (n c : Nat) (f : Bool) (ws : List ByteArray) (w0 w : World) (hH : Rest w N (.slice a n c) f) (hb0 : Below w0.heap.size w0 w) (hr : Row w0 (.slice a n c) (sv ws)) (he : Errs w0) (hz : ∀ x ∈ ws, x.size ≤ 16777216) (hN : w0.heap.size ≤ N) :
    Calls Tryz.prog 54 #[.pointer (some ⟨N, 0, none⟩)] w fun e w' => NumPost N ws f w0 w e w' :=
  num2 N a n c f ws w0 w hH hb0 hr (fun i u => he.below (hb0.setCell (p := ⟨N, i, none⟩) hN u)) hz
end Go.Proofs.YtkemfifkjaclhaaGreatDoor

namespace Go.Proofs.YtkemfifkjaclhaaGreatDoor
set_option linter.unusedVariables false
set_option linter.unusedSimpArgs false
open Go.RowKit Go

theorem joinB_join (x : ByteArray) (ys : List ByteArray) : (⟨(Lib.join ((x :: ys).map (·.data.toList)) spB.data.toList).toArray⟩ : ByteArray) = joinB x ys := by
  have key : ∀ (ys : List ByteArray) (x : ByteArray), (joinB x ys).data.toList = x.data.toList ++ Lib.joinTail spB.data.toList (ys.map (·.data.toList)) := by
    intro ys
    induction ys with
    | nil => intro x; simp [joinB, Lib.joinTail]
    | cons y r ih =>
      intro x
      have h := ih (x ++ spB ++ y)
      simp only [joinB, List.foldl_cons] at h ⊢
      rw [h]
      simp [Lib.joinTail]
  rw [List.map_cons, Lib.join_cons, ← key]
theorem joinWords (v : Value) (x : ByteArray) (ys : List ByteArray) (t : ByteArray) (w : World) (hr : Row w v (sv (x :: ys))) (hy : ys.length ≤ 1000000000) (hj : joinB x ys = t) (ht : t.size ≤ 100000000000) :
    Calls Tryz.prog 42 #[v, .string ⟨#[32]⟩] w fun e w' => e = .returned (.string t) ∧ Below w.heap.size w w' := by
  rcases hr with ⟨_, h⟩ | ⟨b, off, cap, rfl, h1, h2, hb, hc⟩
  · simp [sv] at h
  · have hjj := joinB_join x ys
    have h3 : Lib.join ((x :: ys).map (·.data.toList)) spB.data.toList = t.data.toList := by rw [← hj, ← hjj]
    have hlen : (Lib.join ((x :: ys).map (·.data.toList)) spB.data.toList).length ≤ 140737488355328 := by
      rw [h3, Array.length_toList]; exact Nat.le_trans ht (by decide)
    have h := strings_Join b off cap (x :: ys) spB w (fun j u hu => hc j _ (by unfold sv; rw [List.getElem?_map, hu]; rfl)) hb (by simp; omega) (by rw [sv_len] at h1; exact h1) hlen
    rw [hjj, hj] at h
    rw [sv_len]
    exact h
theorem rwW_len {r : Rul} (h : RuleOk r) : (rwW r).length ≤ 1000000000 := by
  have h8 := h.2.2.2.2.1
  unfold rwW headW butWs
  split <;> simp [numS_len] <;> omega
theorem Row.below' {w w' : World} {v : Value} {xs : List Value} (h : Row w v xs) (hb : Below w.heap.size w w') : Row w' v xs := by
  rcases h with h | ⟨b, off, cap, h1, h2, h3, h4, h5⟩
  · exact .inl h
  · exact .inr ⟨b, off, cap, h1, h2, h3, Nat.lt_of_lt_of_le h4 hb.size, fun i x hx => (hb.cell (p := ⟨b, off + i, none⟩) h4).trans (h5 i x hx)⟩
end Go.Proofs.YtkemfifkjaclhaaGreatDoor
