/- Plain: what the program reads words as; an entry's own words are read as it. -/
import Derived.Shelf.Strconv.AtoiAll
import Derived.Test.YtbngjpnbjknliaaGreatDoorProg
import Derived.Test.YtbngjpnbjknliaaGreatDoorJ1
import Derived.WalkKit
import Derived.BigCall
import Derived.Shelf.Strconv.ErrVarAll
import Derived.Shelf.Slices.Turned
import Derived.Test.YtbngjpnbjknliaaGreatDoorJ6
namespace Go.Proofs.YtbngjpnbjknliaaGreatDoor
set_option linter.unusedVariables false
set_option linter.unusedSimpArgs false
open Go.Shelf Go
def laysC172_ren : Go.Shelf.Ren := ⟨fun | 172 => 46 | 244 => 61 | 245 => 62 | 247 => 76 | 279 => 77 | 280 => 78 | 281 => 79 | 282 => 80 | 287 => 90 | 316 => 91 | 171 => 55 | 205 => 92 | 321 => 106 | 322 => 107 | 243 => 75 | 246 => 89 | 283 => 102 | 284 => 103 | 285 => 104 | 286 => 105 | 129 => 112 | 317 => 111 | 318 => 113 | 319 => 114 | 320 => 115 | 337 => 118 | 338 => 119 | n => n, fun | 9 => 9 | 3 => 3 | 75 => 54 | 76 => 55 | 4 => 4 | 5 => 5 | 167 => 107 | 37 => 50 | 0 => 0 | 85 => 108 | 2 => 2 | 168 => 110 | 53 => 117 | 175 => 118 | 46 => 106 | 210 => 121 | 127 => 74 | 145 => 144 | 143 => 142 | 21 => 21 | 171 => 136 | 173 => 139 | 212 => 148 | 51 => 98 | 20 => 20 | 213 => 149 | 232 => 154 | 233 => 155 | 80 => 57 | n => n, fun | 15 => 1 | 16 => 2 | 17 => 5 | 18 => 6 | 19 => 7 | n => n⟩
theorem laysC172 : Go.Proofs.LaysC.n172 Tryz.prog laysC172_ren := {
  mixed := by kernel_rfl
  f129 := Tryz.func112.trans (congrArg some (by kernel_rfl))
  f171 := Tryz.func55.trans (congrArg some (by kernel_rfl))
  f172 := Tryz.func46.trans (congrArg some (by kernel_rfl))
  f205 := Tryz.func92.trans (congrArg some (by kernel_rfl))
  f243 := Tryz.func75.trans (congrArg some (by kernel_rfl))
  f244 := Tryz.func61.trans (congrArg some (by kernel_rfl))
  f245 := Tryz.func62.trans (congrArg some (by kernel_rfl))
  f246 := Tryz.func89.trans (congrArg some (by kernel_rfl))
  f247 := Tryz.func76.trans (congrArg some (by kernel_rfl))
  f279 := Tryz.func77.trans (congrArg some (by kernel_rfl))
  f280 := Tryz.func78.trans (congrArg some (by kernel_rfl))
  f281 := Tryz.func79.trans (congrArg some (by kernel_rfl))
  f282 := Tryz.func80.trans (congrArg some (by kernel_rfl))
  f283 := Tryz.func102.trans (congrArg some (by kernel_rfl))
  f284 := Tryz.func103.trans (congrArg some (by kernel_rfl))
  f285 := Tryz.func104.trans (congrArg some (by kernel_rfl))
  f286 := Tryz.func105.trans (congrArg some (by kernel_rfl))
  f287 := Tryz.func90.trans (congrArg some (by kernel_rfl))
  f316 := Tryz.func91.trans (congrArg some (by kernel_rfl))
  f317 := Tryz.func111.trans (congrArg some (by kernel_rfl))
  f318 := Tryz.func113.trans (congrArg some (by kernel_rfl))
  f319 := Tryz.func114.trans (congrArg some (by kernel_rfl))
  f320 := Tryz.func115.trans (congrArg some (by kernel_rfl))
  f321 := Tryz.func106.trans (congrArg some (by kernel_rfl))
  f322 := Tryz.func107.trans (congrArg some (by kernel_rfl))
  f337 := Tryz.func118.trans (congrArg some (by kernel_rfl))
  f338 := Tryz.func119.trans (congrArg some (by kernel_rfl))
  t0 := Tryz.underlying0
  a0 := Tryz.isAgg0
  z0 := Tryz.sizeOf0
  v0 := Tryz.zeroValue0
  t2 := Tryz.underlying2
  a2 := Tryz.isAgg2
  z2 := Tryz.sizeOf2
  v2 := Tryz.zeroValue2
  t3 := Tryz.underlying3
  a3 := Tryz.isAgg3
  z3 := Tryz.sizeOf3
  v3 := Tryz.zeroValue3
  t4 := Tryz.underlying4
  a4 := Tryz.isAgg4
  z4 := Tryz.sizeOf4
  v4 := Tryz.zeroValue4
  t5 := Tryz.underlying5
  a5 := Tryz.isAgg5
  z5 := Tryz.sizeOf5
  v5 := Tryz.zeroValue5
  t9 := Tryz.underlying9
  a9 := Tryz.isAgg9
  z9 := Tryz.sizeOf9
  v9 := Tryz.zeroValue9
  t20 := Tryz.underlying20
  a20 := Tryz.isAgg20
  z20 := Tryz.sizeOf20
  v20 := Tryz.zeroValue20
  t21 := Tryz.underlying21
  a21 := Tryz.isAgg21
  z21 := Tryz.sizeOf21
  v21 := Tryz.zeroValue21
  t37 := Tryz.underlying50
  a37 := Tryz.isAgg50
  z37 := Tryz.sizeOf50
  v37 := Tryz.zeroValue50
  t46 := Tryz.underlying106
  a46 := Tryz.isAgg106
  z46 := Tryz.sizeOf106
  v46 := Tryz.zeroValue106
  t51 := Tryz.underlying98
  a51 := Tryz.isAgg98
  z51 := Tryz.sizeOf98
  v51 := Tryz.zeroValue98
  t53 := Tryz.underlying117
  a53 := Tryz.isAgg117
  z53 := Tryz.sizeOf117
  v53 := Tryz.zeroValue117
  t75 := Tryz.underlying54
  a75 := Tryz.isAgg54
  z75 := Tryz.sizeOf54
  v75 := Tryz.zeroValue54
  t76 := Tryz.underlying55
  a76 := Tryz.isAgg55
  z76 := Tryz.sizeOf55
  v76 := Tryz.zeroValue55
  t85 := Tryz.underlying108
  a85 := Tryz.isAgg108
  z85 := Tryz.sizeOf108
  v85 := Tryz.zeroValue108
  t127 := Tryz.underlying74
  a127 := Tryz.isAgg74
  z127 := Tryz.sizeOf74
  v127 := Tryz.zeroValue74
  t143 := Tryz.underlying142
  a143 := Tryz.isAgg142
  z143 := Tryz.sizeOf142
  v143 := Tryz.zeroValue142
  t145 := Tryz.underlying144
  a145 := Tryz.isAgg144
  z145 := Tryz.sizeOf144
  v145 := Tryz.zeroValue144
  t167 := Tryz.underlying107
  a167 := Tryz.isAgg107
  z167 := Tryz.sizeOf107
  v167 := Tryz.zeroValue107
  t168 := Tryz.underlying110
  a168 := Tryz.isAgg110
  z168 := Tryz.sizeOf110
  v168 := Tryz.zeroValue110
  t171 := Tryz.underlying136
  a171 := Tryz.isAgg136
  z171 := Tryz.sizeOf136
  v171 := Tryz.zeroValue136
  t173 := Tryz.underlying139
  a173 := Tryz.isAgg139
  z173 := Tryz.sizeOf139
  v173 := Tryz.zeroValue139
  t175 := Tryz.underlying118
  a175 := Tryz.isAgg118
  z175 := Tryz.sizeOf118
  v175 := Tryz.zeroValue118
  t210 := Tryz.underlying121
  a210 := Tryz.isAgg121
  z210 := Tryz.sizeOf121
  v210 := Tryz.zeroValue121
  t212 := Tryz.underlying148
  a212 := Tryz.isAgg148
  z212 := Tryz.sizeOf148
  v212 := Tryz.zeroValue148
  t213 := Tryz.underlying149
  a213 := Tryz.isAgg149
  z213 := Tryz.sizeOf149
  t232 := Tryz.underlying154
  a232 := Tryz.isAgg154
  z232 := Tryz.sizeOf154
  v232 := Tryz.zeroValue154
  t233 := Tryz.underlying155
  a233 := Tryz.isAgg155
  z233 := Tryz.sizeOf155
  v233 := Tryz.zeroValue155
  g15 := by kernel_rfl
  g16 := by kernel_rfl
  g17 := by kernel_rfl
  g18 := by kernel_rfl
  g19 := by kernel_rfl
  t80 := Tryz.underlying57
  a80 := Tryz.isAgg57
  z80 := Tryz.sizeOf57
  v80 := Tryz.zeroValue57
  i0 := by kernel_rfl
  i2 := by kernel_rfl
  i3 := by kernel_rfl
  i4 := by kernel_rfl
  i5 := by kernel_rfl
  i9 := by kernel_rfl
  i20 := by kernel_rfl
  i21 := by kernel_rfl
  i37 := by kernel_rfl
  i46 := by kernel_rfl
  i51 := by kernel_rfl
  i53 := by kernel_rfl
  i75 := by kernel_rfl
  i76 := by kernel_rfl
  i80 := by kernel_rfl
  i85 := by kernel_rfl
  i127 := by kernel_rfl
  i143 := by kernel_rfl
  i145 := by kernel_rfl
  i167 := by kernel_rfl
  i168 := by kernel_rfl
  i171 := by kernel_rfl
  i173 := by kernel_rfl
  i175 := by kernel_rfl
  i210 := by kernel_rfl
  i212 := by kernel_rfl
  i232 := by kernel_rfl
  i233 := by kernel_rfl
  m15 := by kernel_rfl
  m16 := by kernel_rfl
  m17 := by kernel_rfl
  m18 := by kernel_rfl
  m19 := by kernel_rfl
  c0 := by kernel_rfl
  c2 := by kernel_rfl
  c3 := by kernel_rfl
  c4 := by kernel_rfl
  c5 := by kernel_rfl
  c9 := by kernel_rfl
  c20 := by kernel_rfl
  c21 := by kernel_rfl
  c37 := by kernel_rfl
  c46 := by kernel_rfl
  c51 := by kernel_rfl
  c53 := by kernel_rfl
  c75 := by kernel_rfl
  c76 := by kernel_rfl
  c80 := by kernel_rfl
  c85 := by kernel_rfl
  c127 := by kernel_rfl
  c143 := by kernel_rfl
  c145 := by kernel_rfl
  c167 := by kernel_rfl
  c168 := by kernel_rfl
  c171 := by kernel_rfl
  c173 := by kernel_rfl
  c175 := by kernel_rfl
  c210 := by kernel_rfl
  c212 := by kernel_rfl
  c213 := by kernel_rfl
  c232 := by kernel_rfl
  c233 := by kernel_rfl }
open Go.RowKit in
theorem strconv_Atoi_ok (s : ByteArray) (hmax : s.size ≤ 9223372036854775806) (v : Int) (h : Lib.atoiAll s.data.toList = .ok v) (w : World) :
    Calls Tryz.prog 46 #[.string s] w fun e w' => e = .returned (.tuple #[.int .i64 v, .nilIface]) ∧ (w' = w ∨ ∃ t, w' = Lib.bytesWorld w 5 t) := Any.strconv_Atoi_ok laysC172 s hmax v h w
end Go.Proofs.YtbngjpnbjknliaaGreatDoor

namespace Go.Proofs.YtbngjpnbjknliaaGreatDoor
set_option linter.unusedVariables false
set_option linter.unusedSimpArgs false
open Go.RowKit Go

/-- What is left of the words, in block N. -/
abbrev Rest (w : World) (N : Nat) (v : Value) (f : Bool) : Prop := Holds w N 62 #[v, .bool f]
set_option maxHeartbeats 1000000 in
theorem word_none (N : Nat) (a : Option Addr) (c : Nat) (f : Bool) (w : World) (hH : Rest w N (.slice a 0 c) f) :
    Calls Tryz.prog 29 #[.pointer (some ⟨N, 0, none⟩)] w fun e w' => e = .returned (.string ⟨#[]⟩) ∧ w' = w.setCell ⟨N, 1, none⟩ (.bool true) := by
  have c0 := hH.cell 0
  have c1 := hH.cell 1
  have f1 := hH.frozen 1
  simp at c0 c1
  have HH : Hid _ := hH
  clear hH
  go_enter Tryz.func29, Tryz.ntmps29
  go_wp2
  go_ret
  exact ⟨rfl, rfl⟩

set_option maxHeartbeats 1000000 in
theorem word_cons (N : Nat) (a : Option Addr) (n c : Nat) (f : Bool) (x : ByteArray) (t : List ByteArray) (w0 w : World) (hH : Rest w N (.slice a n c) f) (hb0 : Below w0.heap.size w0 w) (hr : Row w0 (.slice a n c) (sv (x :: t))) :
    Calls Tryz.prog 29 #[.pointer (some ⟨N, 0, none⟩)] w fun e w' => e = .returned (.string x) ∧ ∃ a' n' c', w' = w.setCell ⟨N, 0, none⟩ (.slice a' n' c') ∧ Row w0 (.slice a' n' c') (sv t) := by
  obtain ⟨b, off, rfl, hle, hbl, hc⟩ := hr.at (k := 0) (by simp [sv])
  obtain ⟨a1, cap1, hform⟩ := hr.form
  simp only [Value.slice.injEq] at hform
  have hn : n = t.length + 1 := by rw [hform.2.1, sv_len]; rfl
  have hmax : c ≤ maxLen := by
    rcases hr with ⟨h, _⟩ | ⟨_, _, _, h, _, h2, _⟩
    · cases h
    · simp only [Value.slice.injEq] at h; rw [h.2.2]; exact h2
  have hcells : ∀ i (hi : i < t.length), w0.cell? ⟨b, off + 1 + i, none⟩ = some (.string t[i]) := fun i hi => by
    obtain ⟨b', off', e', _, _, h'⟩ := hr.at (k := i + 1) (by simp [sv]; omega)
    simp only [Option.some.injEq, Addr.mk.injEq, and_true] at e'
    obtain ⟨rfl, rfl⟩ := e'
    rw [show off + 1 + i = off + (i + 1) by omega, h', sv_at]; rfl
  have HC : Hid _ := hcells
  clear hcells hform hr
  unfold maxLen at hmax
  have hc : w.cell? ⟨b, off, none⟩ = some (.string x) := (hb0.cell (p := ⟨b, off, none⟩) hbl).trans (by simpa [sv] using hc)
  have HB0 : Hid _ := hb0
  clear hb0
  have c0 := hH.cell 0
  have c1 := hH.cell 1
  have f0 := hH.frozen 0
  simp at c0 c1
  have HH : Hid _ := hH
  clear hH
  subst hn
  by_cases h1 : c = 1
  · subst h1
    have ht : t = [] := List.length_eq_zero_iff.1 (by omega)
    subst ht
    go_enter Tryz.func29, Tryz.ntmps29
    go_wp2
    go_ret
    exact ⟨rfl, _, _, _, rfl, .inr ⟨b, off, 0, rfl, Nat.le_refl _, Nat.zero_le _, hbl, fun i y hy => by simp [sv] at hy⟩⟩
  · go_enter Tryz.func29, Tryz.ntmps29
    go_wp2
    go_ret
    refine ⟨rfl, _, _, _, rfl, .inr ⟨b, off + 1, c - 1, ?_, by rw [sv_len]; omega, by unfold maxLen; omega, hbl, fun i y hy => ?_⟩⟩
    · rw [sv_len]
    · have hi : i < t.length := by rw [← sv_len t]; exact (List.getElem?_eq_some_iff.1 hy).1
      rw [HC.out i hi]
      unfold sv at hy
      rw [List.getElem?_map, List.getElem?_eq_getElem hi] at hy
      simpa using hy

/-- The library's two errors stand. -/
def Errs (w : World) : Prop :=
  (∃ tp p, w.var? Tryz.prog "strconv.ErrSyntax" = some #[.iface tp p]) ∧ ∃ tp p, w.var? Tryz.prog "strconv.ErrRange" = some #[.iface tp p]
theorem var_later {w w' : World} {n : String} {g : Nat} {x : Value} (hg : Tryz.prog.globalNamed n = some g) (h : w.var? Tryz.prog n = some #[x]) (hk : g < w.heap.size → w'.heap[g]? = w.heap[g]?) : w'.var? Tryz.prog n = some #[x] := by
  have hc := World.var?_cell hg h 0
  have hlt := World.block_lt_of_cell? w ⟨g, 0, none⟩ hc
  rw [← h]
  simp only [World.var?, hg, Option.bind_some, hk hlt]
theorem Errs.later {w w' : World} (h : Errs w) (hk : ∀ k, k < w.heap.size → (k = 1 ∨ k = 2) → w'.heap[k]? = w.heap[k]?) : Errs w' := by
  obtain ⟨⟨t1, p1, h1⟩, ⟨t2, p2, h2⟩⟩ := h
  exact ⟨⟨t1, p1, var_later (g := 1) (by kernel_rfl) h1 (fun hl => hk _ hl (.inl rfl))⟩, ⟨t2, p2, var_later (g := 2) (by kernel_rfl) h2 (fun hl => hk _ hl (.inr rfl))⟩⟩
theorem Errs.below {w w' : World} (h : Errs w) (hb : Below w.heap.size w w') : Errs w' := h.later (fun k hk _ => hb.block k hk)

theorem grown_trans {a b c : World} {row : Option Nat} (h : a.grownBy b row) (k : b.grownBy c row) : a.grownBy c row :=
  ⟨k.os.trans h.os, k.tape.trans h.tape, k.output.trans h.output, Nat.le_trans h.size k.size, fun i hi hr => (k.block i (Nat.lt_of_lt_of_le hi h.size) hr).trans (h.block i hi hr)⟩
theorem grown_below {w w' : World} (row : Option Nat) (h : Below w.heap.size w w') : w.grownBy w' row := ⟨h.os, h.tape, h.output, h.size, fun k hk _ => h.block k hk⟩
theorem grown_set (w : World) (N i : Nat) (u : Value) : w.grownBy (w.setCell ⟨N, i, none⟩ u) (some N) := by
  have hb : Below 0 w (w.setCell ⟨N, i, none⟩ u) := (Below.refl 0 w).setCell (p := ⟨N, i, none⟩) (Nat.zero_le _) u
  exact ⟨hb.os, hb.tape, hb.output, hb.size, fun k _ hr => Below.heap_setCell w ⟨N, i, none⟩ u k (fun e => hr (by rw [e]))⟩

/-- The number that a word spells, if it spells one. -/
def atoiO (x : ByteArray) : Option Int := match Lib.atoiAll x.data.toList with
  | .ok v => some v
  | _ => none
def numA : List ByteArray → Option Int
  | [] => none
  | x :: _ => atoiO x
theorem atoiO_wf {x : ByteArray} {z : Int} (h : atoiO x = some z) : (Lit.int .i64 z).wf = true := by
  unfold atoiO at h
  split at h
  · rename_i v hv
    cases h
    have := Lib.atoiAll_bounds hv
    have e1 : IntKind.i64.min = -9223372036854775808 := by decide
    have e2 : IntKind.i64.max = 9223372036854775807 := by decide
    simp only [Lit.wf, e1, e2, Bool.and_eq_true, decide_eq_true_eq]; omega
  · cases h

/-- What Atoi answers: a number and no error, or an error. -/
theorem atoi (x : ByteArray) (w : World) (hx : x.size ≤ 16777216) (he : Errs w) :
    (∃ z, atoiO x = some z ∧ Calls Tryz.prog 46 #[.string x] w fun e w' => e = .returned (.tuple #[.int .i64 z, .nilIface]) ∧ Below w.heap.size w w') ∨
    (atoiO x = none ∧ ∃ z, Calls Tryz.prog 46 #[.string x] w fun e w' => ∃ M, e = .returned (.tuple #[.int .i64 z, .iface 110 (.pointer (some ⟨M, 0, none⟩))]) ∧ Below w.heap.size w w') := by
  obtain ⟨⟨t1, p1, h1⟩, ⟨t3, p3, h3⟩⟩ := he
  unfold atoiO
  cases h : Lib.atoiAll x.data.toList
  · rename_i v
    refine .inl ⟨v, rfl, (strconv_Atoi_ok x (by omega) v h w).mono ?_⟩
    rintro e w' ⟨rfl, rfl | ⟨t, rfl⟩⟩
    · exact ⟨rfl, Below.refl _ _⟩
    · exact ⟨rfl, Lib.bytesWorld_below _ _ _⟩
  · refine .inr ⟨rfl, 0, (Any.strconv_Atoi_syntax_var laysC172 x (by omega) h t1 p1 w h1).mono ?_⟩
    rintro e w' ⟨M, rfl, _, _, hb⟩
    exact ⟨M, rfl, hb⟩
  · refine .inr ⟨rfl, Lib.atoiSat x.data.toList, (Any.strconv_Atoi_range_var laysC172 x (by omega) h t3 p3 w h3).mono ?_⟩
    rintro e w' ⟨M, rfl, _, _, hb⟩
    exact ⟨M, rfl, hb⟩

/-- What num leaves: the words behind it; it has failed where it spelt none. -/
def NumPost (N : Nat) (ws : List ByteArray) (f : Bool) (w0 w : World) (e : Ending) (w' : World) : Prop :=
  ∃ z f' a n c, e = .returned (.int .i64 z) ∧ Rest w' N (.slice a n c) f' ∧ Row w0 (.slice a n c) (sv ws.tail) ∧ w.grownBy w' (some N) ∧ ((f' = f ∧ numA ws = some z) ∨ (f' = true ∧ numA ws = none))
/-- What word leaves. -/
def WordPost (N : Nat) (ws : List ByteArray) (f : Bool) (w0 w : World) (e : Ending) (w' : World) : Prop :=
  ∃ x f' a n c, e = .returned (.string x) ∧ Rest w' N (.slice a n c) f' ∧ Row w0 (.slice a n c) (sv ws.tail) ∧ w.grownBy w' (some N) ∧ ((f' = f ∧ ws = x :: ws.tail) ∨ (f' = true ∧ ws = []))

theorem word (N : Nat) (a : Option Addr) (n c : Nat) (f : Bool) (ws : List ByteArray) (w0 w : World) (hH : Rest w N (.slice a n c) f) (hb0 : Below w0.heap.size w0 w) (hr : Row w0 (.slice a n c) (sv ws)) :
    Calls Tryz.prog 29 #[.pointer (some ⟨N, 0, none⟩)] w fun e w' => WordPost N ws f w0 w e w' := by
  cases ws with
  | nil =>
    obtain ⟨a1, cap1, hform⟩ := hr.form
    simp only [Value.slice.injEq] at hform
    have hn : n = 0 := by rw [hform.2.1]; rfl
    subst hn
    refine (word_none N a c f w hH).mono ?_
    rintro e w' ⟨rfl, rfl⟩
    exact ⟨_, true, a, 0, c, rfl, Holds.set hH 1 (.bool true), hr, grown_set _ _ _ _, .inr ⟨rfl, rfl⟩⟩
  | cons x t =>
    refine (word_cons N a n c f x t w0 w hH hb0 hr).mono ?_
    rintro e w' ⟨rfl, a', n', c', rfl, hr'⟩
    exact ⟨x, f, a', n', c', rfl, Holds.set hH 0 _, hr', grown_set _ _ _ _, .inl ⟨rfl, rfl⟩⟩

set_option maxHeartbeats 2000000 in
theorem num (N : Nat) (a : Option Addr) (n c : Nat) (f : Bool) (ws : List ByteArray) (w0 w : World) (hH : Rest w N (.slice a n c) f) (hb0 : Below w0.heap.size w0 w) (hr : Row w0 (.slice a n c) (sv ws)) (he : Errs w0) (hz : ∀ x ∈ ws, x.size ≤ 16777216) (hN : w0.heap.size ≤ N) :
    Calls Tryz.prog 30 #[.pointer (some ⟨N, 0, none⟩)] w fun e w' => NumPost N ws f w0 w e w' := by
  have hel : ∀ i u, Errs (w.setCell ⟨N, i, none⟩ u) := fun i u => he.below (hb0.setCell (p := ⟨N, i, none⟩) hN u)
  cases ws with
  | nil =>
    obtain ⟨a1, cap1, hform⟩ := hr.form
    simp only [Value.slice.injEq] at hform
    have hn : n = 0 := by rw [hform.2.1]; rfl
    subst hn
    have HW : Hid _ := word_none N a c f w hH
    have HH1 : Hid (Rest (w.setCell ⟨N, 1, none⟩ (.bool true)) N (.slice a 0 c) true) := hH.set 1 (.bool true)
    have HR1 : Hid _ := hr
    rcases atoi ⟨#[]⟩ (w.setCell ⟨N, 1, none⟩ (.bool true)) (by decide) (hel _ _) with ⟨z, hz, _⟩ | ⟨_, z, hA⟩
    · rw [show atoiO ⟨#[]⟩ = none by decide] at hz; cases hz
    · have HA : Hid _ := hA
      clear hA hr hform he hel hz hb0
      have HG : Hid _ := grown_set w N 1 (.bool true)
      clear hH
      go_enter Tryz.func30, Tryz.ntmps30
      go_wp2_with first
        | (go_at_call 29; refine Calls.mono HW.out ?_; rintro e w1 ⟨rfl, rfl⟩)
        | (go_at_call 46; refine Calls.mono HA.out ?_; rintro e w2 ⟨M, rfl, hb⟩; have hH2 := Holds.below HH1.out hb; have c0 := hH2.cell 0; have c1 := hH2.cell 1; have f1 := hH2.frozen 1; simp at c0 c1; have HH2 : Hid _ := hH2; clear hH2)
      go_ret
      exact ⟨z, true, a, 0, c, rfl, Holds.set HH2.out 1 (.bool true), HR1.out, grown_trans (grown_trans HG.out (grown_below _ hb)) (grown_set _ _ _ _), .inr ⟨rfl, rfl⟩⟩
  | cons x t =>
    have HW : Hid _ := word_cons N a n c f x t w0 w hH hb0 hr
    have hAT : ∀ v, _ := fun v => atoi x (w.setCell ⟨N, 0, none⟩ v) (hz x (by simp)) (hel _ _)
    cases hx : atoiO x with
    | some z =>
      have HA : Hid (∀ v, Calls Tryz.prog 46 #[.string x] (w.setCell ⟨N, 0, none⟩ v) fun e w' => e = .returned (.tuple #[.int .i64 z, .nilIface]) ∧ Below (w.setCell ⟨N, 0, none⟩ v).heap.size (w.setCell ⟨N, 0, none⟩ v) w') := fun v => by
        rcases hAT v with ⟨z', h1, h2⟩ | ⟨h1, _⟩
        · rw [hx] at h1; cases h1; exact h2
        · rw [hx] at h1; cases h1
      have HH : Hid _ := hH
      clear hAT hr he hel hz hH hb0
      go_enter Tryz.func30, Tryz.ntmps30
      go_wp2_with first
        | (go_at_call 29; refine Calls.mono HW.out ?_; rintro e w1 ⟨rfl, a1, n1, c1, rfl, hr1⟩; have HR1 : Hid _ := hr1; clear hr1)
        | (go_at_call 46; refine (HA.out _).mono ?_; rintro e w2 ⟨rfl, hb⟩; have HB : Hid _ := hb; clear hb)
      go_ret
      have hb := HB.out
      exact ⟨z, f, a1, n1, c1, rfl, Holds.below (Holds.set HH.out 0 (.slice a1 n1 c1)) hb, HR1.out, grown_trans (grown_set _ _ _ _) (grown_below _ hb), .inl ⟨rfl, hx⟩⟩
    | none =>
      have HA : Hid (∀ v, ∃ z, Calls Tryz.prog 46 #[.string x] (w.setCell ⟨N, 0, none⟩ v) fun e w' => ∃ M, e = .returned (.tuple #[.int .i64 z, .iface 110 (.pointer (some ⟨M, 0, none⟩))]) ∧ Below (w.setCell ⟨N, 0, none⟩ v).heap.size (w.setCell ⟨N, 0, none⟩ v) w') := fun v => by
        rcases hAT v with ⟨z', h1, h2⟩ | ⟨_, h1⟩
        · rw [hx] at h1; cases h1
        · exact h1
      have HH : Hid _ := hH
      clear hAT hr he hel hz hH hb0
      go_enter Tryz.func30, Tryz.ntmps30
      go_wp2_with first
        | (go_at_call 29; refine Calls.mono HW.out ?_; rintro e w1 ⟨rfl, a1, n1, c1, rfl, hr1⟩; have HR1 : Hid _ := hr1; clear hr1; obtain ⟨z, hz1⟩ := HA.out (.slice a1 n1 c1); have HZ : Hid _ := hz1; clear hz1)
        | (go_at_call 46; refine Calls.mono HZ.out ?_; rintro e w2 ⟨M, rfl, hb⟩; have hH2 : Rest w2 N (.slice a1 n1 c1) f := Holds.below (Holds.set HH.out 0 (.slice a1 n1 c1)) hb; have c0 := hH2.cell 0; have c1 := hH2.cell 1; have f1 := hH2.frozen 1; simp at c0 c1; have HH2 : Hid _ := hH2; have HB : Hid _ := hb; clear hH2 hb)
      go_ret
      have hb := HB.out
      exact ⟨z, true, a1, n1, _, rfl, Holds.set HH2.out 1 (.bool true), HR1.out, grown_trans (grown_trans (grown_set _ _ _ _) (grown_below _ hb)) (grown_set _ _ _ _), .inr ⟨rfl, hx⟩⟩
end Go.Proofs.YtbngjpnbjknliaaGreatDoor

namespace Go.Proofs.YtbngjpnbjknliaaGreatDoor
set_option linter.unusedVariables false
set_option linter.unusedSimpArgs false
open Go.Shelf Go
def lays109_ren : Go.Shelf.Ren := ⟨fun | 109 => 28 | n => n, fun | 31 => 28 | 9 => 9 | 3 => 3 | 0 => 0 | 4 => 4 | n => n, fun | n => n⟩
theorem lays109 : Go.Proofs.Lays.n109 Tryz.prog lays109_ren := {
  mixed := by kernel_rfl
  f109 := Tryz.func28.trans (congrArg some (by kernel_rfl))
  t0 := Tryz.underlying0
  a0 := Tryz.isAgg0
  z0 := Tryz.sizeOf0
  v0 := Tryz.zeroValue0
  t3 := Tryz.underlying3
  a3 := Tryz.isAgg3
  z3 := Tryz.sizeOf3
  v3 := Tryz.zeroValue3
  t4 := Tryz.underlying4
  a4 := Tryz.isAgg4
  z4 := Tryz.sizeOf4
  v4 := Tryz.zeroValue4
  t9 := Tryz.underlying9
  a9 := Tryz.isAgg9
  z9 := Tryz.sizeOf9
  v9 := Tryz.zeroValue9
  t31 := Tryz.underlying28
  a31 := Tryz.isAgg28
  z31 := Tryz.sizeOf28
  v31 := Tryz.zeroValue28 }
open Go.Lib in
theorem slices_Index_string (b off n c : Nat) (zs : List ByteArray) (x : ByteArray) (w : World) (hz : n ≤ zs.length) (hbig : n ≤ 9223372036854775807) (hc : ∀ j, j < zs.length → w.cell? ⟨b, off + j, none⟩ = some (.string (zs.getD j ByteArray.empty))) :
    Calls Tryz.prog 28 #[.slice (some ⟨b, off, none⟩) n c, .string x] w fun e w' => e = .returned (.int .i64 (Lib.idxOfS (zs.take n) x)) ∧ w' = w := Any.slices_Index_string lays109 b off n c zs x w hz hbig hc
end Go.Proofs.YtbngjpnbjknliaaGreatDoor

namespace Go.Proofs.YtbngjpnbjknliaaGreatDoor
set_option linter.unusedVariables false
set_option linter.unusedSimpArgs false
open Go

theorem parseUint10_app : ∀ (a b : List UInt8) (acc v : Nat), Lib.parseUint10 acc a = .ok v → Lib.parseUint10 acc (a ++ b) = Lib.parseUint10 v b := by
  intro a
  induction a with
  | nil => intro b acc v h; simp [Lib.parseUint10] at h; subst h; rfl
  | cons c a ih =>
    intro b acc v h
    rw [List.cons_append, Lib.parseUint10]
    rw [Lib.parseUint10] at h
    split
    · rename_i h1
      rw [if_pos h1] at h
      split
      · rename_i h2; rw [if_pos h2] at h; cases h
      · rename_i h2
        rw [if_neg h2] at h
        split
        · rename_i h3; rw [if_pos h3] at h; cases h
        · rename_i h3; rw [if_neg h3] at h; exact ih b _ v h
    · rename_i h1; rw [if_neg h1] at h; cases h
theorem parse_digit (acc d : Nat) (hd : d < 10) (ha : acc < 1000000) : Lib.parseUint10 acc [UInt8.ofNat (48 + d)] = .ok (acc * 10 + d) := by
  have h1 : ∀ d : Nat, d < 10 → (UInt8.ofNat (48 + d)).toNat = 48 + d := by decide
  rw [Lib.parseUint10, if_pos (by rw [h1 d hd]; omega), if_neg (by omega), if_neg (by rw [h1 d hd]; omega), Lib.parseUint10, h1 d hd]
  congr 1; omega
theorem parse_dec (u : Nat) (hu : u < 1000000) : Lib.parseUint10 0 (Lib.decDigits u) = .ok u := by
  induction u using Nat.strongRecOn with
  | _ u ih =>
    rw [Lib.decDigits]
    split
    · rename_i h; rw [parse_digit 0 u h (by omega)]; congr 1; omega
    · rw [parseUint10_app _ _ 0 (u / 10) (ih (u / 10) (by omega) (by omega)), parse_digit (u / 10) (u % 10) (by omega) (by omega)]; congr 1; omega
theorem parseMag_dec (u : Nat) (hu : u < 1000000) : Lib.parseMag (Lib.decDigits u) = .ok u := by
  have h := parse_dec u hu
  have hl := decDigits_len u
  unfold Lib.parseMag
  cases hx : Lib.decDigits u with
  | nil => rw [hx] at hl; simp at hl
  | cons c l => rw [hx] at h; simpa using h
theorem atoi_itoa (n : Int) (h0 : -9999 ≤ n) (h1 : n ≤ 9999) : atoiO (itoB n) = some n := by
  have e : (itoB n).data.toList = Lib.itoa n := by simp [itoB]
  have key : Lib.atoiAll (Lib.itoa n) = .ok n := by
    by_cases h : n < 0
    · obtain ⟨u, rfl⟩ : ∃ u : Nat, n = -(u : Int) := ⟨n.natAbs, by omega⟩
      have e2 : Lib.itoa (-(u : Int)) = 45 :: Lib.decDigits u := by unfold Lib.itoa; rw [if_pos h]; simp
      rw [e2]
      show (match Lib.parseMag (if (45 : UInt8).toNat = 43 ∨ (45 : UInt8).toNat = 45 then Lib.decDigits u else _) with | .syntax => _ | .range => _ | .ok u => _) = _
      rw [if_pos (by decide), parseMag_dec u (by omega)]
      simp
      omega
    · obtain ⟨u, rfl⟩ : ∃ u : Nat, n = (u : Int) := ⟨n.toNat, by omega⟩
      have e2 : Lib.itoa (u : Int) = Lib.decDigits u := by unfold Lib.itoa; rw [if_neg h]; simp
      rw [e2]
      have hm := parseMag_dec u (by omega)
      have hd := decDigits_dig u
      have hl := decDigits_len u
      cases hx : Lib.decDigits u with
      | nil => rw [hx] at hl; simp at hl
      | cons c l =>
        rw [hx] at hm hd
        have hc := isDig_bd (hd c (by simp))
        have n1 : ¬ (c.toNat = 43 ∨ c.toNat = 45) := by omega
        have n2 : ¬ c.toNat = 45 := by omega
        show (match Lib.parseMag (if c.toNat = 43 ∨ c.toNat = 45 then l else c :: l) with | .syntax => _ | .range => _ | .ok u => _) = _
        rw [if_neg n1, hm]
        simp [n2]
        omega
  unfold atoiO
  rw [e, key]

def numsA : List ByteArray → Option (List Int)
  | [] => some []
  | x :: t => (atoiO x).bind fun z => (numsA t).map (z :: ·)
theorem numsA_own : ∀ (l : List Int), numsIn l = true → numsA (l.map itoB) = some l := by
  intro l
  induction l with
  | nil => intro _; rfl
  | cons n l ih =>
    intro h
    rw [numsIn, List.all_cons, Bool.and_eq_true] at h
    have hb := numIn_bd h.1
    rw [List.map_cons, numsA, atoi_itoa n hb.1 hb.2, ih h.2]
    rfl

def kindA (x : ByteArray) : Int := Lib.idxOfS entW x
theorem kindA_word (k : Nat) (h1 : 1 ≤ k) (h9 : k ≤ 9) : kindA (entW.getD k eZ) = k := by
  have : ∀ k, k < 10 → 1 ≤ k → kindA (entW.getD k eZ) = k := by decide
  exact this k (by omega) h1
/-- What the program reads words as. -/
def readP : List ByteArray → Option Ent
  | [] => none
  | x :: r =>
    if kindA x = 2 ∨ kindA x = 7 then match r with
      | n :: t => (numsA t).map fun l => ⟨kindA x, 0, eZ, n, l⟩
      | [] => none
    else if kindA x = 3 then match r with
      | i :: y :: n :: t => (atoiO i).bind fun z => (numsA t).map fun l => ⟨kindA x, z, y, unNm n, l⟩
      | _ => none
    else if kindA x = 4 ∨ kindA x = 5 ∨ kindA x = 6 ∨ kindA x = 9 then match r with
      | i :: t => (atoiO i).bind fun z => (numsA t).map fun l => ⟨kindA x, z, eZ, eZ, l⟩
      | [] => none
    else (numsA r).map fun l => ⟨kindA x, 0, eZ, eZ, l⟩

theorem readP_own {e : Ent} (h : entOk e = true) : readP (entWs e) = some e := by
  obtain ⟨hk, hi, hn, h4, hs, hz⟩ := entOk_bd h
  obtain ⟨kind, id, key, name, nums⟩ := e
  simp only [entOk, entBody, Bool.and_eq_true, Bool.or_eq_true, decide_eq_true_eq] at h
  have hb := h.2
  have hkey := h.1.2
  dsimp only at hk hi hn h4 hs hz
  have hid := atoi_itoa id (by omega) (by omega)
  have hkw := kindA_word kind.toNat (by omega) (by omega)
  have hnm := numsA_own nums hn
  have hkn : ((kind.toNat : Nat) : Int) = kind := by omega
  rw [hkn] at hkw
  unfold entWs readP
  dsimp only
  rw [hkw]
  by_cases h3 : kind = 3
  · subst h3
    rw [if_neg (by omega), if_pos rfl, if_pos rfl]
    rw [if_neg (by omega), if_neg (by omega), if_pos rfl] at hb
    simp only [Bool.and_eq_true, Bool.or_eq_true] at hb
    show (atoiO (itoB id)).bind _ = _
    rw [hid]
    show Option.map _ (numsA (nums.map itoB)) = _
    rw [hnm, Option.map_some, unNm_nmT hb.1.2]
  · have hke : key = eZ := emp_eq (by rcases hkey with h | h
                                      · exact h
                                      · exact absurd h h3)
    subst hke
    rw [if_neg h3]
    by_cases h2 : kind = 2 ∨ kind = 7
    · have hid0 : id = 0 := by
        rcases h2 with rfl | rfl
        · rw [if_neg (by omega), if_pos rfl] at hb
          simp only [Bool.and_eq_true, decide_eq_true_eq] at hb
          exact hb.1.1
        · rw [if_neg (by omega), if_neg (by omega), if_neg (by omega), if_neg (by omega), if_neg (by omega), if_pos rfl] at hb
          simp only [Bool.and_eq_true, decide_eq_true_eq] at hb
          exact hb.1.1
      rw [if_pos h2, if_pos h2]
      show Option.map _ (numsA (nums.map itoB)) = _
      rw [hnm, Option.map_some, hid0]
    · rw [if_neg h2, if_neg h2, if_neg h3]
      by_cases h1 : kind = 1 ∨ kind = 8
      · have hx : id = 0 ∧ emp name = true := by
          rcases h1 with rfl | rfl
          · rw [if_pos rfl] at hb
            simp only [Bool.and_eq_true, decide_eq_true_eq] at hb
            exact hb.1
          · rw [if_neg (by omega), if_neg (by omega), if_neg (by omega), if_neg (by omega), if_neg (by omega), if_neg (by omega), if_pos rfl] at hb
            simp only [Bool.and_eq_true, decide_eq_true_eq] at hb
            exact hb.1
        rw [if_neg (by omega), if_pos h1, List.nil_append, hnm, Option.map_some, hx.1, emp_eq hx.2]
      · have hx : emp name = true := by
          rcases (by omega : kind = 4 ∨ kind = 5 ∨ kind = 6 ∨ kind = 9) with rfl | rfl | rfl | rfl
          · rw [if_neg (by omega), if_neg (by omega), if_neg (by omega), if_pos (by omega)] at hb
            simp only [Bool.and_eq_true] at hb; exact hb.1.2
          · rw [if_neg (by omega), if_neg (by omega), if_neg (by omega), if_pos (by omega)] at hb
            simp only [Bool.and_eq_true] at hb; exact hb.1.2
          · rw [if_neg (by omega), if_neg (by omega), if_neg (by omega), if_neg (by omega), if_pos rfl] at hb
            simp only [Bool.and_eq_true] at hb; exact hb.1.2
          · rw [if_neg (by omega), if_neg (by omega), if_neg (by omega), if_neg (by omega), if_neg (by omega), if_neg (by omega), if_neg (by omega), if_pos rfl] at hb
            simp only [Bool.and_eq_true] at hb; exact hb.1.2
        rw [if_pos (by omega), if_neg h1]
        show (atoiO (itoB id)).bind _ = _
        rw [hid]
        show Option.map _ (numsA (nums.map itoB)) = _
        rw [hnm, Option.map_some, emp_eq hx]

/-- Where the reading stands, ws being left: what is read in the end. -/
def Mid (all : List ByteArray) (k id : Int) (key name : ByteArray) (nums : List Int) (ws : List ByteArray) (f : Bool) : Prop :=
  readP all = if f then none else (numsA ws).map fun l => ⟨k, id, key, name, nums ++ l⟩
theorem Mid.step {all : List ByteArray} {k id : Int} {key name : ByteArray} {nums : List Int} {ws : List ByteArray} {f f' : Bool} {z : Int} (h : Mid all k id key name nums ws f) (hw : 0 < ws.length) (hf : (f' = f ∧ numA ws = some z) ∨ (f' = true ∧ numA ws = none)) : Mid all k id key name (nums ++ [z]) ws.tail f' := by
  cases ws with
  | nil => simp at hw
  | cons x t =>
    unfold Mid at h ⊢
    rw [h]
    rcases hf with ⟨rfl, hz⟩ | ⟨rfl, hz⟩
    · cases f'
      · simp only [numA] at hz
        simp only [numsA, hz, List.tail_cons, Option.bind_some, Option.map_map]
        simp only [Bool.false_eq_true, if_false]
        congr 1
        funext l; simp
      · rfl
    · simp only [numA] at hz
      cases f
      · simp [numsA, hz]
      · rfl
theorem Mid.done {all : List ByteArray} {k id : Int} {key name : ByteArray} {nums : List Int} (h : Mid all k id key name nums [] false) : readP all = some ⟨k, id, key, name, nums⟩ := by
  unfold Mid at h; rw [h]; simp [numsA]
theorem Mid.bad {all : List ByteArray} {k id : Int} {key name : ByteArray} {nums : List Int} {ws : List ByteArray} (h : Mid all k id key name nums ws true) : readP all = none := by
  unfold Mid at h; rw [h]; rfl
end Go.Proofs.YtbngjpnbjknliaaGreatDoor
