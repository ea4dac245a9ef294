/- append onto a slice that the call itself gathers: it begins empty and without room ([]T{} or nil), or owns a row made since. The guide's laws at that. -/
import Derived.Test.YtdanfekodmncmaaGreatDoorJ3
import Derived.Test.YtdanfekodmncmaaGreatDoorJ4
import Derived.WalkKit
import Derived.BigCall
import Derived.Shelf.Strconv.ErrVarAll
namespace Go.Proofs.YtdanfekodmncmaaGreatDoor
set_option linter.unusedVariables false
set_option linter.unusedSimpArgs false
open Go.RowKit Go

/-- What is left of the words, in block N. -/
abbrev Rest (w : World) (N : Nat) (v : Value) (f : Bool) : Prop := Holds w N 77 #[v, .bool f]
set_option maxHeartbeats 1000000 in
theorem word_none (N : Nat) (a : Option Addr) (c : Nat) (f : Bool) (w : World) (hH : Rest w N (.slice a 0 c) f) :
    Calls Tryz.prog 34 #[.pointer (some ⟨N, 0, none⟩)] w fun e w' => e = .returned (.string ⟨#[]⟩) ∧ w' = w.setCell ⟨N, 1, none⟩ (.bool true) := by
  have c0 := hH.cell 0
  have c1 := hH.cell 1
  have f1 := hH.frozen 1
  simp at c0 c1
  have HH : Hid _ := hH
  clear hH
  go_enter Tryz.func34, Tryz.ntmps34
  go_wp2
  go_ret
  exact ⟨rfl, rfl⟩

set_option maxHeartbeats 1000000 in
theorem word_cons (N : Nat) (a : Option Addr) (n c : Nat) (f : Bool) (x : ByteArray) (t : List ByteArray) (w0 w : World) (hH : Rest w N (.slice a n c) f) (hb0 : Below w0.heap.size w0 w) (hr : Row w0 (.slice a n c) (sv (x :: t))) :
    Calls Tryz.prog 34 #[.pointer (some ⟨N, 0, none⟩)] w fun e w' => e = .returned (.string x) ∧ ∃ a' n' c', w' = w.setCell ⟨N, 0, none⟩ (.slice a' n' c') ∧ Row w0 (.slice a' n' c') (sv t) := by
  obtain ⟨b, off, rfl, hle, hbl, hc⟩ := hr.at (k := 0) (by simp [sv])
  obtain ⟨a1, cap1, hform⟩ := hr.form
  simp only [Value.slice.injEq] at hform
  have hn : n = t.length + 1 := by rw [hform.2.1, sv_len]; rfl
  have hmax : c ≤ maxLen := by
    rcases hr with ⟨h, _⟩ | ⟨_, _, _, h, _, h2, _⟩
    · cases h
    · simp only [Value.slice.injEq] at h; rw [h.2.2]; exact h2
  have hcells : ∀ i (hi : i < t.length), w0.cell? ⟨b, off + 1 + i, none⟩ = some (.string t[i]) := fun i hi => by
    obtain ⟨b', off', e', _, _, h'⟩ := hr.at (k := i + 1) (by simp [sv]; omega)
    simp only [Option.some.injEq, Addr.mk.injEq, and_true] at e'
    obtain ⟨rfl, rfl⟩ := e'
    rw [show off + 1 + i = off + (i + 1) by omega, h', sv_at]; rfl
  have HC : Hid _ := hcells
  clear hcells hform hr
  unfold maxLen at hmax
  have hc : w.cell? ⟨b, off, none⟩ = some (.string x) := (hb0.cell (p := ⟨b, off, none⟩) hbl).trans (by simpa [sv] using hc)
  have HB0 : Hid _ := hb0
  clear hb0
  have c0 := hH.cell 0
  have c1 := hH.cell 1
  have f0 := hH.frozen 0
  simp at c0 c1
  have HH : Hid _ := hH
  clear hH
  subst hn
  by_cases h1 : c = 1
  · subst h1
    have ht : t = [] := List.length_eq_zero_iff.1 (by omega)
    subst ht
    go_enter Tryz.func34, Tryz.ntmps34
    go_wp2
    go_ret
    exact ⟨rfl, _, _, _, rfl, .inr ⟨b, off, 0, rfl, Nat.le_refl _, Nat.zero_le _, hbl, fun i y hy => by simp [sv] at hy⟩⟩
  · go_enter Tryz.func34, Tryz.ntmps34
    go_wp2
    go_ret
    refine ⟨rfl, _, _, _, rfl, .inr ⟨b, off + 1, c - 1, ?_, by rw [sv_len]; omega, by unfold maxLen; omega, hbl, fun i y hy => ?_⟩⟩
    · rw [sv_len]
    · have hi : i < t.length := by rw [← sv_len t]; exact (List.getElem?_eq_some_iff.1 hy).1
      rw [HC.out i hi]
      unfold sv at hy
      rw [List.getElem?_map, List.getElem?_eq_getElem hi] at hy
      simpa using hy

/-- The library's two errors stand. -/
def Errs (w : World) : Prop :=
  (∃ tp p, w.var? Tryz.prog "strconv.ErrSyntax" = some #[.iface tp p]) ∧ ∃ tp p, w.var? Tryz.prog "strconv.ErrRange" = some #[.iface tp p]
theorem var_later {w w' : World} {n : String} {g : Nat} {x : Value} (hg : Tryz.prog.globalNamed n = some g) (h : w.var? Tryz.prog n = some #[x]) (hk : g < w.heap.size → w'.heap[g]? = w.heap[g]?) : w'.var? Tryz.prog n = some #[x] := by
  have hc := World.var?_cell hg h 0
  have hlt := World.block_lt_of_cell? w ⟨g, 0, none⟩ hc
  rw [← h]
  simp only [World.var?, hg, Option.bind_some, hk hlt]
theorem Errs.later {w w' : World} (h : Errs w) (hk : ∀ k, k < w.heap.size → (k = 2 ∨ k = 3) → w'.heap[k]? = w.heap[k]?) : Errs w' := by
  obtain ⟨⟨t1, p1, h1⟩, ⟨t2, p2, h2⟩⟩ := h
  exact ⟨⟨t1, p1, var_later (g := 2) (by kernel_rfl) h1 (fun hl => hk _ hl (.inl rfl))⟩, ⟨t2, p2, var_later (g := 3) (by kernel_rfl) h2 (fun hl => hk _ hl (.inr rfl))⟩⟩
theorem Errs.below {w w' : World} (h : Errs w) (hb : Below w.heap.size w w') : Errs w' := h.later (fun k hk _ => hb.block k hk)

theorem grown_trans {a b c : World} {row : Option Nat} (h : a.grownBy b row) (k : b.grownBy c row) : a.grownBy c row :=
  ⟨k.os.trans h.os, k.tape.trans h.tape, k.output.trans h.output, Nat.le_trans h.size k.size, fun i hi hr => (k.block i (Nat.lt_of_lt_of_le hi h.size) hr).trans (h.block i hi hr)⟩
theorem grown_below {w w' : World} (row : Option Nat) (h : Below w.heap.size w w') : w.grownBy w' row := ⟨h.os, h.tape, h.output, h.size, fun k hk _ => h.block k hk⟩
theorem grown_set (w : World) (N i : Nat) (u : Value) : w.grownBy (w.setCell ⟨N, i, none⟩ u) (some N) := by
  have hb : Below 0 w (w.setCell ⟨N, i, none⟩ u) := (Below.refl 0 w).setCell (p := ⟨N, i, none⟩) (Nat.zero_le _) u
  exact ⟨hb.os, hb.tape, hb.output, hb.size, fun k _ hr => Below.heap_setCell w ⟨N, i, none⟩ u k (fun e => hr (by rw [e]))⟩

/-- The number that a word spells, if it spells one. -/
def atoiO (x : ByteArray) : Option Int := match Lib.atoiAll x.data.toList with
  | .ok v => some v
  | _ => none
def numA : List ByteArray → Option Int
  | [] => none
  | x :: _ => atoiO x
theorem atoiO_wf {x : ByteArray} {z : Int} (h : atoiO x = some z) : (Lit.int .i64 z).wf = true := by
  unfold atoiO at h
  split at h
  · rename_i v hv
    cases h
    have := Lib.atoiAll_bounds hv
    have e1 : IntKind.i64.min = -9223372036854775808 := by decide
    have e2 : IntKind.i64.max = 9223372036854775807 := by decide
    simp only [Lit.wf, e1, e2, Bool.and_eq_true, decide_eq_true_eq]; omega
  · cases h

/-- What Atoi answers: a number and no error, or an error. -/
theorem atoi (x : ByteArray) (w : World) (hx : x.size ≤ 16777216) (he : Errs w) :
    (∃ z, atoiO x = some z ∧ Calls Tryz.prog 47 #[.string x] w fun e w' => e = .returned (.tuple #[.int .i64 z, .nilIface]) ∧ Below w.heap.size w w') ∨
    (atoiO x = none ∧ ∃ z, Calls Tryz.prog 47 #[.string x] w fun e w' => ∃ M, e = .returned (.tuple #[.int .i64 z, .iface 121 (.pointer (some ⟨M, 0, none⟩))]) ∧ Below w.heap.size w w') := by
  obtain ⟨⟨t1, p1, h1⟩, ⟨t3, p3, h3⟩⟩ := he
  unfold atoiO
  cases h : Lib.atoiAll x.data.toList
  · rename_i v
    refine .inl ⟨v, rfl, (strconv_Atoi_ok x (by omega) v h w).mono ?_⟩
    rintro e w' ⟨rfl, rfl | ⟨t, rfl⟩⟩
    · exact ⟨rfl, Below.refl _ _⟩
    · exact ⟨rfl, Lib.bytesWorld_below _ _ _⟩
  · refine .inr ⟨rfl, 0, (Any.strconv_Atoi_syntax_var laysC172 x (by omega) h t1 p1 w h1).mono ?_⟩
    rintro e w' ⟨M, rfl, _, _, hb⟩
    exact ⟨M, rfl, hb⟩
  · refine .inr ⟨rfl, Lib.atoiSat x.data.toList, (Any.strconv_Atoi_range_var laysC172 x (by omega) h t3 p3 w h3).mono ?_⟩
    rintro e w' ⟨M, rfl, _, _, hb⟩
    exact ⟨M, rfl, hb⟩

/-- What num leaves: the words behind it; it has failed where it spelt none. -/
def NumPost (N : Nat) (ws : List ByteArray) (f : Bool) (w0 w : World) (e : Ending) (w' : World) : Prop :=
  ∃ z f' a n c, e = .returned (.int .i64 z) ∧ Rest w' N (.slice a n c) f' ∧ Row w0 (.slice a n c) (sv ws.tail) ∧ w.grownBy w' (some N) ∧ ((f' = f ∧ numA ws = some z) ∨ (f' = true ∧ numA ws = none))
/-- What word leaves. -/
def WordPost (N : Nat) (ws : List ByteArray) (f : Bool) (w0 w : World) (e : Ending) (w' : World) : Prop :=
  ∃ x f' a n c, e = .returned (.string x) ∧ Rest w' N (.slice a n c) f' ∧ Row w0 (.slice a n c) (sv ws.tail) ∧ w.grownBy w' (some N) ∧ ((f' = f ∧ ws = x :: ws.tail) ∨ (f' = true ∧ ws = []))

theorem word (N : Nat) (a : Option Addr) (n c : Nat) (f : Bool) (ws : List ByteArray) (w0 w : World) (hH : Rest w N (.slice a n c) f) (hb0 : Below w0.heap.size w0 w) (hr : Row w0 (.slice a n c) (sv ws)) :
    Calls Tryz.prog 34 #[.pointer (some ⟨N, 0, none⟩)] w fun e w' => WordPost N ws f w0 w e w' := by
  cases ws with
  | nil =>
    obtain ⟨a1, cap1, hform⟩ := hr.form
    simp only [Value.slice.injEq] at hform
    have hn : n = 0 := by rw [hform.2.1]; rfl
    subst hn
    refine (word_none N a c f w hH).mono ?_
    rintro e w' ⟨rfl, rfl⟩
    exact ⟨_, true, a, 0, c, rfl, Holds.set hH 1 (.bool true), hr, grown_set _ _ _ _, .inr ⟨rfl, rfl⟩⟩
  | cons x t =>
    refine (word_cons N a n c f x t w0 w hH hb0 hr).mono ?_
    rintro e w' ⟨rfl, a', n', c', rfl, hr'⟩
    exact ⟨x, f, a', n', c', rfl, Holds.set hH 0 _, hr', grown_set _ _ _ _, .inl ⟨rfl, rfl⟩⟩

set_option maxHeartbeats 2000000 in
theorem num2 (N : Nat) (a : Option Addr) (n c : Nat) (f : Bool) (ws : List ByteArray) (w0 w : World) (hH : Rest w N (.slice a n c) f) (hb0 : Below w0.heap.size w0 w) (hr : Row w0 (.slice a n c) (sv ws)) (hel : ∀ i u, Errs (w.setCell ⟨N, i, none⟩ u)) (hz : ∀ x ∈ ws, x.size ≤ 16777216) :
    Calls Tryz.prog 35 #[.pointer (some ⟨N, 0, none⟩)] w fun e w' => NumPost N ws f w0 w e w' := by
  cases ws with
  | nil =>
    obtain ⟨a1, cap1, hform⟩ := hr.form
    simp only [Value.slice.injEq] at hform
    have hn : n = 0 := by rw [hform.2.1]; rfl
    subst hn
    have HW : Hid _ := word_none N a c f w hH
    have HH1 : Hid (Rest (w.setCell ⟨N, 1, none⟩ (.bool true)) N (.slice a 0 c) true) := hH.set 1 (.bool true)
    have HR1 : Hid _ := hr
    rcases atoi ⟨#[]⟩ (w.setCell ⟨N, 1, none⟩ (.bool true)) (by decide) (hel _ _) with ⟨z, hz, _⟩ | ⟨_, z, hA⟩
    · rw [show atoiO ⟨#[]⟩ = none by decide] at hz; cases hz
    · have HA : Hid _ := hA
      clear hA hr hform hel hz hb0
      have HG : Hid _ := grown_set w N 1 (.bool true)
      clear hH
      go_enter Tryz.func35, Tryz.ntmps35
      go_wp2_with first
        | (go_at_call 34; refine Calls.mono HW.out ?_; rintro e w1 ⟨rfl, rfl⟩)
        | (go_at_call 47; refine Calls.mono HA.out ?_; rintro e w2 ⟨M, rfl, hb⟩; have hH2 := Holds.below HH1.out hb; have c0 := hH2.cell 0; have c1 := hH2.cell 1; have f1 := hH2.frozen 1; simp at c0 c1; have HH2 : Hid _ := hH2; clear hH2)
      go_ret
      exact ⟨z, true, a, 0, c, rfl, Holds.set HH2.out 1 (.bool true), HR1.out, grown_trans (grown_trans HG.out (grown_below _ hb)) (grown_set _ _ _ _), .inr ⟨rfl, rfl⟩⟩
  | cons x t =>
    have HW : Hid _ := word_cons N a n c f x t w0 w hH hb0 hr
    have hAT : ∀ v, _ := fun v => atoi x (w.setCell ⟨N, 0, none⟩ v) (hz x (by simp)) (hel _ _)
    cases hx : atoiO x with
    | some z =>
      have HA : Hid (∀ v, Calls Tryz.prog 47 #[.string x] (w.setCell ⟨N, 0, none⟩ v) fun e w' => e = .returned (.tuple #[.int .i64 z, .nilIface]) ∧ Below (w.setCell ⟨N, 0, none⟩ v).heap.size (w.setCell ⟨N, 0, none⟩ v) w') := fun v => by
        rcases hAT v with ⟨z', h1, h2⟩ | ⟨h1, _⟩
        · rw [hx] at h1; cases h1; exact h2
        · rw [hx] at h1; cases h1
      have HH : Hid _ := hH
      clear hAT hr hel hz hH hb0
      go_enter Tryz.func35, Tryz.ntmps35
      go_wp2_with first
        | (go_at_call 34; refine Calls.mono HW.out ?_; rintro e w1 ⟨rfl, a1, n1, c1, rfl, hr1⟩; have HR1 : Hid _ := hr1; clear hr1)
        | (go_at_call 47; refine (HA.out _).mono ?_; rintro e w2 ⟨rfl, hb⟩; have HB : Hid _ := hb; clear hb)
      go_ret
      have hb := HB.out
      exact ⟨z, f, a1, n1, c1, rfl, Holds.below (Holds.set HH.out 0 (.slice a1 n1 c1)) hb, HR1.out, grown_trans (grown_set _ _ _ _) (grown_below _ hb), .inl ⟨rfl, hx⟩⟩
    | none =>
      have HA : Hid (∀ v, ∃ z, Calls Tryz.prog 47 #[.string x] (w.setCell ⟨N, 0, none⟩ v) fun e w' => ∃ M, e = .returned (.tuple #[.int .i64 z, .iface 121 (.pointer (some ⟨M, 0, none⟩))]) ∧ Below (w.setCell ⟨N, 0, none⟩ v).heap.size (w.setCell ⟨N, 0, none⟩ v) w') := fun v => by
        rcases hAT v with ⟨z', h1, h2⟩ | ⟨_, h1⟩
        · rw [hx] at h1; cases h1
        · exact h1
      have HH : Hid _ := hH
      clear hAT hr hel hz hH hb0
      go_enter Tryz.func35, Tryz.ntmps35
      go_wp2_with first
        | (go_at_call 34; refine Calls.mono HW.out ?_; rintro e w1 ⟨rfl, a1, n1, c1, rfl, hr1⟩; have HR1 : Hid _ := hr1; clear hr1; obtain ⟨z, hz1⟩ := HA.out (.slice a1 n1 c1); have HZ : Hid _ := hz1; clear hz1)
        | (go_at_call 47; refine Calls.mono HZ.out ?_; rintro e w2 ⟨M, rfl, hb⟩; have hH2 : Rest w2 N (.slice a1 n1 c1) f := Holds.below (Holds.set HH.out 0 (.slice a1 n1 c1)) hb; have c0 := hH2.cell 0; have c1 := hH2.cell 1; have f1 := hH2.frozen 1; simp at c0 c1; have HH2 : Hid _ := hH2; have HB : Hid _ := hb; clear hH2 hb)
      go_ret
      have hb := HB.out
      exact ⟨z, true, a1, n1, _, rfl, Holds.set HH2.out 1 (.bool true), HR1.out, grown_trans (grown_trans (grown_set _ _ _ _) (grown_below _ hb)) (grown_set _ _ _ _), .inr ⟨rfl, hx⟩⟩
theorem num (N : Nat) (a : Option Addr) (n c : Nat) (f : Bool) (ws : List ByteArray) (w0 w : World) (hH : Rest w N (.slice a n c) f) (hb0 : Below w0.heap.size w0 w) (hr : Row w0 (.slice a n c) (sv ws)) (he : Errs w0) (hz : ∀ x ∈ ws, x.size ≤ 16777216) (hN : w0.heap.size ≤ N) :
    Calls Tryz.prog 35 #[.pointer (some ⟨N, 0, none⟩)] w fun e w' => NumPost N ws f w0 w e w' :=
  num2 N a n c f ws w0 w hH hb0 hr (fun i u => he.below (hb0.setCell (p := ⟨N, i, none⟩) hN u)) hz
end Go.Proofs.YtdanfekodmncmaaGreatDoor

namespace Go.Proofs.YtdanfekodmncmaaGreatDoor
set_option linter.unusedVariables false
set_option linter.unusedSimpArgs false
open Go.RowKit

/-- The slice v, of n elements of 'size' cells, gathers xs: it is empty without room, or owns a row among the blocks from F on. -/
def Acc (w : World) (F : Nat) (e : TypeId) (size : Nat) (v : Value) (n : Nat) (xs : List Value) : Prop :=
  (n = 0 ∧ xs = [] ∧ ∃ a, v = .slice a 0 0 ∧ ∀ x, a = some x → x.spot = none ∧ x.block < w.heap.size) ∨ w.ownsRow F e size v n xs

theorem Acc.nil (w : World) (F : Nat) (e : TypeId) (size : Nat) : Acc w F e size (.slice none 0 0) 0 [] := .inl ⟨rfl, rfl, none, rfl, fun _ h => by cases h⟩
theorem Acc.empty {w : World} (F : Nat) (e : TypeId) (size : Nat) {b off : Nat} (h : b < w.heap.size) : Acc w F e size (.slice (some ⟨b, off, none⟩) 0 0) 0 [] := .inl ⟨rfl, rfl, _, rfl, fun x h' => by cases h'; exact ⟨rfl, h⟩⟩
theorem Acc.below {w w' : World} {F : Nat} {e : TypeId} {size : Nat} {v : Value} {n : Nat} {xs : List Value} (h : Acc w F e size v n xs) (hb : Below w.heap.size w w') : Acc w' F e size v n xs := by
  rcases h with ⟨rfl, rfl, a, rfl, h⟩ | h
  · exact .inl ⟨rfl, rfl, a, rfl, fun x hx => ⟨(h x hx).1, Nat.lt_of_lt_of_le (h x hx).2 hb.size⟩⟩
  · exact .inr (own_below h hb)
theorem Acc.alloc {w : World} {F : Nat} {e : TypeId} {size : Nat} {v : Value} {n : Nat} {xs : List Value} (h : Acc w F e size v n xs) (o : Obj) : Acc (w.alloc o) F e size v n xs := h.below ((Below.refl _ _).alloc (Nat.le_refl _) _)
theorem Acc.row {w : World} {F : Nat} {e : TypeId} {v : Value} {n : Nat} {xs : List Value} (h : Acc w F e 1 v n xs) : Row w v xs := by
  rcases h with ⟨rfl, rfl, a, rfl, h⟩ | h
  · cases a with
    | none => exact Row.nil w
    | some x =>
      obtain ⟨b, off, spot⟩ := x
      obtain ⟨hs, hb⟩ := h _ rfl
      simp only at hs hb
      subst hs
      exact .inr ⟨b, off, 0, rfl, Nat.le_refl _, Nat.zero_le _, hb, fun i x hx => by simp at hx⟩
  · exact Row.owned h

theorem append_empty {P : Program} (w : World) (t ty e : TypeId) (i : TypeInfo) (z : Value) (ht : P.underlying t = some (.slice e)) (hi : P.info? e = some i) (hz : i.zero = some z)
    (b : Option Addr) (a : Addr) (m c : Nat) (news : List Value) (hl : news.length = m * i.size) (hnews : ∀ j v, news[j]? = some v → w.cell? (a.add j) = some v)
    (h0 : 0 < m) (h63 : (m : Int) ≤ 9223372036854775807) (h48 : m * i.bytes ≤ 140737488355328) :
    (Builtin.append_ #[t, t] ty #[.slice b 0 0, .slice (some a) m c]).run P w = (Builtin.append_ #[t, t] ty #[.slice none 0 0, .slice (some a) m c]).run P w := by
  cases b with
  | none => rfl
  | some b =>
    rw [run_append_nil w t ty e i z ht hi hz a m c news hl hnews h0 h63 (by omega)]
    have := run_append_grow w t ty e i z ht hi hz b 0 0 [] (by simp) (by simp) a m c news hl hnews (by omega) (by simpa using h63) (growslice_fits (by omega) (by rw [Nat.zero_add]; exact h48))
    simpa using this

theorem run_acc {P : Program} (w : World) (F : Nat) (t ty e : TypeId) (i : TypeInfo) (z : Value) (size bytes : Nat) (ht : P.underlying t = some (.slice e)) (hi : P.info? e = some i) (hz : i.zero = some z)
    (hsize : i.size = size) (hby : i.bytes = bytes) (hzs : z.cells.size = size) (hsz : 0 < size)
    (v : Value) (n : Nat) (xs : List Value) (hacc : Acc w F e size v n xs)
    (a : Addr) (m c : Nat) (news : List Value) (hm : 0 < m) (hl : news.length = m * size) (hnews : ∀ j u, news[j]? = some u → w.cell? (a.add j) = some u) (h1 : ∀ u ∈ news, u.oneCell' = true)
    (h63 : n + m ≤ maxLen) (hbytes : (n + m) * bytes ≤ 140737488355328) (hF : F ≤ w.heap.size) :
    ∃ v' w', (Builtin.append_ #[t, t] ty #[v, .slice (some a) m c]).run P w = .ok v' w' ∧ w'.ownsRow F e size v' (n + m) (xs ++ news) ∧ Below F w w' := by
  rcases hacc with ⟨rfl, rfl, b, rfl, _⟩ | hown
  · have h63' : (m : Int) ≤ 9223372036854775807 := by unfold maxLen at h63; omega
    rw [append_empty w t ty e i z ht hi hz b a m c news (by rw [hsize]; exact hl) hnews hm h63' (by rw [hby]; simpa using hbytes)]
    obtain ⟨v', w', hr, h2, h3, _⟩ := run_append_own (P := P) w F t ty e i z size bytes ht hi hz hsize hby hzs hsz (.slice none 0 0) 0 [] (World.ownsRow_nil _ _ _ _) a m c news hl hnews h1 h63 hbytes hF
    exact ⟨v', w', hr, h2, (Below.refl F w).grown h3 hF (fun k hk => by cases hk)⟩
  · obtain ⟨v', w', hr, h2, h3, _⟩ := run_append_own (P := P) w F t ty e i z size bytes ht hi hz hsize hby hzs hsz v n xs hown a m c news hl hnews h1 h63 hbytes hF
    exact ⟨v', w', hr, h2, (Below.refl F w).grown h3 hF (fun k hk => (hown.lt k hk).1)⟩

theorem wp_acc {P : Program} {w : World} {ops : Array Oper} {rest : List Oper} {o : Oper} {a : Act} {Q : Exit → Act → World → Prop} (hgd : o.guard = none) (s x : Operand) (t : TypeId)
    (ho : o.op = .call { callee := .builtin .append, args := #[s, x], argTypes := #[t, t] })
    (F : Nat) (e : TypeId) (z : Value) (size bytes : Nat) (ht : P.underlying t = some (.slice e)) (hinfo : (P.info? e).map (fun i => (i.zero, i.size, i.bytes)) = some (some z, size, bytes))
    (hzs : z.cells.size = size) (hsz : 0 < size)
    (v : Value) (n : Nat) (xs : List Value) (hs : a.eval s = v) (hacc : Acc w F e size v n xs)
    (ad : Addr) (m c : Nat) (news : List Value) (hx : a.eval x = .slice (some ad) m c) (hm : 0 < m) (hl : news.length = m * size) (hnews : ∀ j u, news[j]? = some u → w.cell? (ad.add j) = some u) (h1 : ∀ u ∈ news, u.oneCell' = true)
    (h63 : n + m ≤ maxLen) (hbytes : (n + m) * bytes ≤ 140737488355328) (hF : F ≤ w.heap.size)
    (h : ∀ v' w', Acc w' F e size v' (n + m) (xs ++ news) → Below F w w' → wpList P ops Q rest (a.put o.dst v') w') : wpList P ops Q (o :: rest) a w := by
  obtain ⟨i, hi, hzz⟩ := Option.map_eq_some_iff.1 hinfo
  simp only [Prod.mk.injEq] at hzz
  obtain ⟨hz, hsize, hby⟩ := hzz
  refine wpList_plain hgd fun K hK => ?_
  obtain ⟨v', w', hr, h2, h3⟩ := run_acc (P := P) w F t o.type e i z size bytes ht hi hz hsize hby hzs hsz v n xs hacc ad m c news hm hl hnews h1 h63 hbytes hF
  unfold Oper.wp execOp
  simp only [ho, resolve, invoke, builtin, Sem.run_bind, Sem.run_pure, Result.andThen_ok, List.map_toArray, List.map_cons, List.map_nil, hs, hx, hr]
  exact hK _ _ (h v' w' (.inr h2) h3)

theorem Tryz.infoS : (Tryz.prog.info? 9).map (fun i => (i.zero, i.size, i.bytes)) = some (some (.string ByteArray.empty), 1, 16) := by kernel_rfl
theorem Tryz.infoI : (Tryz.prog.info? 3).map (fun i => (i.zero, i.size, i.bytes)) = some (some (.int .i64 0), 1, 8) := by kernel_rfl

/-- One string is appended. -/
theorem wp_acc_str {w : World} {ops : Array Oper} {rest : List Oper} {o : Oper} {a : Act} {Q : Exit → Act → World → Prop} (hgd : o.guard = none) (s x : Operand)
    (ho : o.op = .call { callee := .builtin .append, args := #[s, x], argTypes := #[28, 28] })
    (F : Nat) (v : Value) (n : Nat) (xs : List ByteArray) (hs : a.eval s = v) (hacc : Acc w F 9 1 v n (sv xs))
    (ad : Addr) (c : Nat) (str : ByteArray) (hx : a.eval x = .slice (some ad) 1 c) (hc : w.cell? ad = some (.string str))
    (hn : n ≤ 1099511627776) (hF : F ≤ w.heap.size)
    (h : ∀ v' w', Acc w' F 9 1 v' (n + 1) (sv (xs ++ [str])) → Below F w w' → wpList Tryz.prog ops Q rest (a.put o.dst v') w') : wpList Tryz.prog ops Q (o :: rest) a w := by
  refine wp_acc hgd s x 28 ho F 9 _ 1 16 Tryz.underlying28 Tryz.infoS rfl (by decide) v n (sv xs) hs hacc ad 1 c [.string str] hx (by decide) rfl ?_ ?_ (by unfold maxLen; omega) (by omega) hF ?_
  · intro j u hj
    match j, hj with
    | 0, hj => simp at hj; subst hj; simpa [Addr.add] using hc
  · intro u hu; simp at hu; subst hu; rfl
  · intro v' w' h1 h2
    exact h v' w' (by rw [sv_app]; exact h1) h2
end Go.Proofs.YtdanfekodmncmaaGreatDoor
