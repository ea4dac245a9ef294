/- (*strings.Builder).WriteRune: the library's own contract, laid for this program. -/
import Derived.Test.YtdanfekodmncmaaGreatDoorJ1
import Derived.Lib.OthersKept
import Derived.Lib.RuneBytes
import Derived.Shelf.Strings.OnBuilder
import Derived.Shelf.Strings.BuilderK
import Derived.Test.YtdanfekodmncmaaGreatDoorProg
import Derived.Shelf.Strings.BuilderRune
namespace Go.Proofs.YtdanfekodmncmaaGreatDoor
set_option linter.unusedVariables false
set_option linter.unusedSimpArgs false
open Go.RowKit Go

/-- What is the iterator's own: ways through texts and maps, Builders, rows of bytes. -/
def Mine (o : Obj) : Prop := o.isWalk = true ∨ (∃ c fz, o = .cells c 71 fz) ∨ ∃ c fz, o = .cells c 5 fz
/-- What the iterator did: below B nothing turned, and above it only its own. -/
structure Did (B : Nat) (X Y : World) : Prop where
  os : Y.os = X.os
  tape : Y.tape = X.tape
  output : Y.output = X.output
  size : X.heap.size ≤ Y.heap.size
  low : ∀ k : Nat, k < B → Y.heap[k]? = X.heap[k]?
  same : ∀ (k : Nat) (o : Obj), X.heap[k]? = some o → ¬ Mine o → Y.heap[k]? = some o
/-- What a round kept: all that is the iterator's own. -/
structure Kept (X Y : World) : Prop where
  size : X.heap.size ≤ Y.heap.size
  same : ∀ (k : Nat) (o : Obj), X.heap[k]? = some o → Mine o → Y.heap[k]? = some o

theorem Did.trans {B : Nat} {X Y Z : World} (h : Did B X Y) (k : Did B Y Z) : Did B X Z :=
  ⟨k.os.trans h.os, k.tape.trans h.tape, k.output.trans h.output, Nat.le_trans h.size k.size, fun i hi => (k.low i hi).trans (h.low i hi), fun i o hi ho => k.same i o (h.same i o hi ho) ho⟩
theorem Did.below {B : Nat} {X Y : World} (h : Did B X Y) : Below B X Y := ⟨h.os, h.tape, h.output, h.size, h.low⟩
theorem Did.alloc {B : Nat} (X : World) (o : Obj) (hB : B ≤ X.heap.size) : Did B X (X.alloc o) := by
  have hb : Below X.heap.size X (X.alloc o) := (Below.refl _ X).alloc (Nat.le_refl _) o
  exact ⟨hb.os, hb.tape, hb.output, hb.size, fun k hk => hb.block k (by omega), fun k x hk _ => (hb.block k (Array.getElem?_eq_some_iff.1 hk).1).trans hk⟩
theorem Did.iter {B : Nat} (X : World) (k : Nat) (s : ByteArray) (p q : Nat) (hk : X.heap[k]? = some (.stringIter s p)) (hB : B ≤ k) : Did B X (X.iterAt k s q) := by
  refine ⟨rfl, rfl, rfl, by rw [Lib.iterAt_size]; exact Nat.le_refl _, fun i hi => Lib.iterAt_other X k i s q (by omega), fun i o hi ho => ?_⟩
  rw [Lib.iterAt_other X k i s q ?_]; · exact hi
  rintro rfl
  rw [hk] at hi; cases hi
  exact ho (.inl rfl)
theorem Did.wrote {B N : Nat} {X Y : World} (hN : B ≤ N) (hb : Below N X Y) (hk : Lib.OthersKept 5 (some N) X Y) (hm : ∃ c fz, X.heap[N]? = some (.cells c 71 fz)) : Did B X Y := by
  refine ⟨hb.os, hb.tape, hb.output, hb.size, fun k hkB => hb.block k (by omega), fun k o hko ho => hk k o hko ?_ ?_⟩
  · intro e
    cases e
    obtain ⟨c, fz, hc⟩ := hm
    rw [hko] at hc; cases hc
    exact ho (.inr (.inl ⟨_, _, rfl⟩))
  · rintro c fz rfl
    exact ho (.inr (.inr ⟨_, _, rfl⟩))
theorem Did.set {B N : Nat} (X : World) (i : Nat) (v : Value) (hN : B ≤ N) (hm : ∃ c fz, X.heap[N]? = some (.cells c 71 fz)) : Did B X (X.setCell ⟨N, i, none⟩ v) := by
  have hb : Below N X (X.setCell ⟨N, i, none⟩ v) := (Below.refl _ X).setCell (p := ⟨N, i, none⟩) (Nat.le_refl _) v
  refine ⟨hb.os, hb.tape, hb.output, hb.size, fun k hk => hb.block k (by omega), fun k o hko ho => ?_⟩
  rw [Below.heap_setCell X ⟨N, i, none⟩ v k ?_]; · exact hko
  rintro rfl
  obtain ⟨c, fz, hc⟩ := hm
  rw [hko] at hc; cases hc
  exact ho (.inr (.inl ⟨_, _, rfl⟩))
theorem Kept.trans {X Y Z : World} (h : Kept X Y) (k : Kept Y Z) : Kept X Z := ⟨Nat.le_trans h.size k.size, fun i o hi ho => k.same i o (h.same i o hi ho) ho⟩
theorem Kept.below {X Y : World} (h : Below X.heap.size X Y) : Kept X Y := ⟨h.size, fun k o hk _ => (h.block k (Array.getElem?_eq_some_iff.1 hk).1).trans hk⟩
theorem Kept.put (W : World) (l : Nat) (r r' : Loop) (h : W.heap[l]? = some (.loop r)) : Kept W (W.putObj l (.loop r')) := by
  refine ⟨by simp [World.putObj], fun k o hk ho => ?_⟩
  rw [World.putObj_heap_other ?_]; · exact hk
  rintro rfl
  rw [h] at hk; cases hk
  rcases ho with ho | ⟨_, _, ho⟩ | ⟨_, _, ho⟩ <;> cases ho
theorem Did.keeps {B : Nat} (X Y : World) (h : Did B X Y) (k : Nat) (o : Obj) (hk : X.heap[k]? = some o) (h1 : o.isCells = false) (h2 : o.isWalk = false) : Y.heap[k]? = some o := by
  refine h.same k o hk ?_
  rintro (ho | ⟨_, _, rfl⟩ | ⟨_, _, rfl⟩)
  · rw [h2] at ho; cases ho
  · cases h1
  · cases h1

abbrev BF (N : Nat) (bs : List Value) (W : World) : Prop := Lib.IsBuilderF 71 5 N N bs W
theorem BF.kind {N : Nat} {bs : List Value} {W : World} (h : BF N bs W) : ∃ c fz, W.heap[N]? = some (.cells c 71 fz) := by
  rcases h with ⟨_, v, hb, _⟩ | ⟨_, v, hb, _⟩ <;> exact ⟨_, _, hb⟩
theorem BF.kept {N : Nat} {bs : List Value} {W W' : World} (h : BF N bs W) (hk : Kept W W') : BF N bs W' := by
  have one : ∀ p, Lib.BuilderAtF 71 5 N N p bs W → Lib.BuilderAtF 71 5 N N p bs W' := by
    rintro p ⟨hB, v, hb, hown, hne⟩
    refine ⟨hB, v, hk.same _ _ hb (.inr (.inl ⟨_, _, rfl⟩)), ⟨hown.1, ?_⟩, hne⟩
    rcases hown.2 with hn | ⟨g, cap, cur, fz, hv, hbg, hg, rest⟩
    · exact .inl hn
    · exact .inr ⟨g, cap, cur, fz, hv, hbg, hk.same _ _ hg (.inr (.inr ⟨_, _, rfl⟩)), rest⟩
  exact h.imp (one _) (one _)
theorem BF.reset {N : Nat} {bs : List Value} {W : World} (h : BF N bs W) : BF N [] ((W.setCell ⟨N, 0, none⟩ (.pointer none)).setCell ⟨N, 1, none⟩ (.slice none 0 0)) := by
  have : ∃ p v, W.heap[N]? = some (.cells #[p, v] 71 (0, 0)) := by
    rcases h with ⟨_, v, hb, _⟩ | ⟨_, v, hb, _⟩ <;> exact ⟨_, _, hb⟩
  obtain ⟨p, v, hb⟩ := this
  refine .inl ⟨Nat.le_refl _, .slice none 0 0, ?_, World.ownsRowF_nil _ _ _ _, by simp [Value.ownBlock]⟩
  simp [World.setCell, Array.getElem?_modify, hb]
theorem BF.cells {N : Nat} {bs : List Value} {W : World} (h : BF N bs W) : ∃ p v, W.cell? ⟨N, 0, none⟩ = some p ∧ W.cell? ⟨N, 1, none⟩ = some v ∧ W.frozen? ⟨N, 0, none⟩ = false ∧ W.frozen? ⟨N, 1, none⟩ = false := by
  have : ∃ p v, W.heap[N]? = some (.cells #[p, v] 71 (0, 0)) := by
    rcases h with ⟨_, v, hb, _⟩ | ⟨_, v, hb, _⟩ <;> exact ⟨_, _, hb⟩
  obtain ⟨p, v, hb⟩ := this
  exact ⟨p, v, by simp [World.cell?, hb], by simp [World.cell?, hb], by simp [World.frozen?, hb], by simp [World.frozen?, hb]⟩

/-- The lines of a text, from a place on, acc of the line being there. -/
def linesFrom (s : ByteArray) : Nat → Nat → List UInt8 → List ByteArray
  | 0, _, _ => []
  | f + 1, pos, acc => if pos < s.size then
      (if (Utf8.decode s pos).1 = 10 then ⟨acc.toArray⟩ :: linesFrom s f (pos + (Utf8.decode s pos).2) [] else linesFrom s f (pos + (Utf8.decode s pos).2) (acc ++ Lib.encodeRune (Utf8.decode s pos).1))
    else []
def linesOf (s : ByteArray) : List ByteArray := linesFrom s s.size 0 []
theorem linesFrom_end (s : ByteArray) (f pos : Nat) (acc : List UInt8) (h : ¬ pos < s.size) : linesFrom s f pos acc = [] := by
  cases f with
  | zero => rfl
  | succ f => simp [linesFrom, h]
theorem width_pos (s : ByteArray) (pos : Nat) (h : pos < s.size) : 1 ≤ (Utf8.decode s pos).2 := by
  by_cases ha : (s[pos]'h).toNat < 128
  · rw [decode_ascii s pos h ha]; exact Nat.le_refl _
  · exact (decode_high s pos h (by omega)).2
end Go.Proofs.YtdanfekodmncmaaGreatDoor

namespace Go.Proofs.YtdanfekodmncmaaGreatDoor
set_option linter.unusedVariables false
set_option linter.unusedSimpArgs false
open Go.Shelf Go
def lays169_ren : Go.Shelf.Ren := ⟨fun | 169 => 31 | n => n, fun | 70 => 68 | 9 => 9 | 0 => 0 | 72 => 71 | 37 => 69 | 127 => 98 | 3 => 3 | 5 => 5 | n => n, fun | n => n⟩
theorem lays169 : Go.Proofs.Lays.n169 Tryz.prog lays169_ren := {
  mixed := by kernel_rfl
  f169 := Tryz.func31.trans (congrArg some (by kernel_rfl))
  t0 := Tryz.underlying0
  a0 := Tryz.isAgg0
  z0 := Tryz.sizeOf0
  v0 := Tryz.zeroValue0
  t3 := Tryz.underlying3
  a3 := Tryz.isAgg3
  z3 := Tryz.sizeOf3
  v3 := Tryz.zeroValue3
  t9 := Tryz.underlying9
  a9 := Tryz.isAgg9
  z9 := Tryz.sizeOf9
  v9 := Tryz.zeroValue9
  t37 := Tryz.underlying69
  a37 := Tryz.isAgg69
  z37 := Tryz.sizeOf69
  v37 := Tryz.zeroValue69
  t70 := Tryz.underlying68
  a70 := Tryz.isAgg68
  z70 := Tryz.sizeOf68
  v70 := Tryz.zeroValue68
  t72 := Tryz.underlying71
  a72 := Tryz.isAgg71
  z72 := Tryz.sizeOf71
  v72 := Tryz.zeroValue71
  t127 := Tryz.underlying98
  a127 := Tryz.isAgg98
  z127 := Tryz.sizeOf98
  v127 := Tryz.zeroValue98 }
theorem Builder_Extra_169 : Builder.Extra Tryz.prog lays169_ren := {
  sizeBuilder := by kernel_rfl
  liesBuilder := by kernel_rfl
  t5 := Tryz.underlying5
  a5 := Tryz.isAgg5
  z5 := Tryz.sizeOf5
  v5 := Tryz.zeroValue5
  infoByte := by kernel_rfl
  cellsByte := by kernel_rfl
  sizeByte := by kernel_rfl
  neB5 := by decide }
def lays156_ren : Go.Shelf.Ren := ⟨fun | 156 => 36 | 165 => 48 | 166 => 49 | 169 => 31 | 240 => 44 | 241 => 63 | 276 => 56 | 277 => 74 | n => n, fun | 31 => 28 | 9 => 9 | 3 => 3 | 4 => 4 | 0 => 0 | 20 => 20 | 72 => 71 | 76 => 72 | 70 => 68 | 37 => 69 | 75 => 39 | 127 => 98 | 164 => 54 | 5 => 5 | 80 => 74 | n => n, fun | n => n⟩
theorem lays156 : Go.Proofs.Lays.n156 Tryz.prog lays156_ren := {
  mixed := by kernel_rfl
  f156 := Tryz.func36.trans (congrArg some (by kernel_rfl))
  f165 := Tryz.func48.trans (congrArg some (by kernel_rfl))
  f166 := Tryz.func49.trans (congrArg some (by kernel_rfl))
  f169 := Tryz.func31.trans (congrArg some (by kernel_rfl))
  f240 := Tryz.func44.trans (congrArg some (by kernel_rfl))
  f241 := Tryz.func63.trans (congrArg some (by kernel_rfl))
  f276 := Tryz.func56.trans (congrArg some (by kernel_rfl))
  f277 := Tryz.func74.trans (congrArg some (by kernel_rfl))
  t0 := Tryz.underlying0
  a0 := Tryz.isAgg0
  z0 := Tryz.sizeOf0
  v0 := Tryz.zeroValue0
  t3 := Tryz.underlying3
  a3 := Tryz.isAgg3
  z3 := Tryz.sizeOf3
  v3 := Tryz.zeroValue3
  t4 := Tryz.underlying4
  a4 := Tryz.isAgg4
  z4 := Tryz.sizeOf4
  v4 := Tryz.zeroValue4
  t9 := Tryz.underlying9
  a9 := Tryz.isAgg9
  z9 := Tryz.sizeOf9
  v9 := Tryz.zeroValue9
  t20 := Tryz.underlying20
  a20 := Tryz.isAgg20
  z20 := Tryz.sizeOf20
  v20 := Tryz.zeroValue20
  t31 := Tryz.underlying28
  a31 := Tryz.isAgg28
  z31 := Tryz.sizeOf28
  v31 := Tryz.zeroValue28
  t37 := Tryz.underlying69
  a37 := Tryz.isAgg69
  z37 := Tryz.sizeOf69
  v37 := Tryz.zeroValue69
  t70 := Tryz.underlying68
  a70 := Tryz.isAgg68
  z70 := Tryz.sizeOf68
  v70 := Tryz.zeroValue68
  t72 := Tryz.underlying71
  a72 := Tryz.isAgg71
  z72 := Tryz.sizeOf71
  v72 := Tryz.zeroValue71
  t75 := Tryz.underlying39
  a75 := Tryz.isAgg39
  z75 := Tryz.sizeOf39
  v75 := Tryz.zeroValue39
  t76 := Tryz.underlying72
  a76 := Tryz.isAgg72
  z76 := Tryz.sizeOf72
  v76 := Tryz.zeroValue72
  t127 := Tryz.underlying98
  a127 := Tryz.isAgg98
  z127 := Tryz.sizeOf98
  v127 := Tryz.zeroValue98
  t164 := Tryz.underlying54
  a164 := Tryz.isAgg54
  z164 := Tryz.sizeOf54
  v164 := Tryz.zeroValue54 }
theorem Builder_Extra_156 : Builder.Extra Tryz.prog lays156_ren := {
  sizeBuilder := by kernel_rfl
  liesBuilder := by kernel_rfl
  t5 := Tryz.underlying5
  a5 := Tryz.isAgg5
  z5 := Tryz.sizeOf5
  v5 := Tryz.zeroValue5
  infoByte := by kernel_rfl
  cellsByte := by kernel_rfl
  sizeByte := by kernel_rfl
  neB5 := by decide }
open Go.RowKit in
theorem strings_Join_none (a : Option Addr) (c : Nat) (sep : ByteArray) (w : World) :
    Calls Tryz.prog 36 #[.slice a 0 c, .string sep] w fun e w' => e = .returned (.string ⟨#[]⟩) ∧ w' = w := Any.strings_Join_none lays156 Builder_Extra_156 a c sep w
open Go.RowKit in
theorem strings_Join (bk o c : Nat) (xs : List ByteArray) (sep : ByteArray) (w : World) (hcells : ∀ (j : Nat) x, xs[j]? = some x → w.cell? ⟨bk, o + j, none⟩ = some (.string x)) (hbk : bk < w.heap.size) (hN : xs.length ≤ 140737488355328) (hcap : xs.length ≤ c) (hlen : (Lib.join (xs.map (·.data.toList)) sep.data.toList).length ≤ 140737488355328) :
    Calls Tryz.prog 36 #[.slice (some ⟨bk, o, none⟩) xs.length c, .string sep] w fun e w' => e = .returned (.string ⟨(Lib.join (xs.map (·.data.toList)) sep.data.toList).toArray⟩) ∧ Below w.heap.size w w' := Any.strings_Join lays156 Builder_Extra_156 bk o c xs sep w hcells hbk hN hcap hlen
open Go.RowKit in
theorem Builder_String_any_k (B b : Nat) (l : List UInt8) (w : World) (h : Lib.IsBuilderF 71 5 B b (Lib.byteCells l) w) (hBw : B ≤ w.heap.size) :
    Calls Tryz.prog 31 #[.pointer (some ⟨b, 0, none⟩)] w fun e w' => e = .returned (.string ⟨l.toArray⟩) ∧ (Lib.IsBuilderF 71 5 B b (Lib.byteCells l) w' ∧ Below B w w' ∧ Lib.OthersKept 5 (some b) w w') := Any.Builder_String_any_k lays169 Builder_Extra_169 B b l w h hBw
theorem lays166 : Go.Proofs.Lays.n166 Tryz.prog lays156_ren := { lays156 with }
theorem Builder_WriteString_k (B b : Nat) (bs : List Value) (s : ByteArray) (w : World) (h : Lib.IsBuilderF 71 5 B b bs w) (hlen : bs.length + s.size ≤ 140737488355328) (hBw : B ≤ w.heap.size) :
    Calls Tryz.prog 49 #[.pointer (some ⟨b, 0, none⟩), .string s] w fun e w' => e = .returned (.tuple #[.int .i64 s.size, .nilIface]) ∧ (Lib.BuilderAtF 71 5 B b (.pointer (some ⟨b, 0, none⟩)) (bs ++ Lib.strCells s) w' ∧ RowKit.Below B w w' ∧ Lib.OthersKept 5 (some b) w w') := Any.Builder_WriteString_k lays166 Builder_Extra_156 B b bs s w h hlen hBw
end Go.Proofs.YtdanfekodmncmaaGreatDoor

namespace Go.Proofs.YtdanfekodmncmaaGreatDoor
set_option linter.unusedVariables false
set_option linter.unusedSimpArgs false
open Go.Shelf Go Go.RowKit
def lays168_ren : Go.Shelf.Ren := ⟨fun | 168 => 30 | 240 => 44 | 242 => 45 | 276 => 56 | 278 => 57 | n => n, fun | 0 => 0 | 3 => 3 | 4 => 4 | 5 => 5 | 9 => 9 | 20 => 20 | 21 => 21 | 37 => 69 | 46 => 114 | 51 => 110 | 70 => 68 | 72 => 71 | 75 => 39 | 76 => 72 | 80 => 74 | 164 => 54 | n => n, fun | n => n⟩
theorem lays168 : Go.Proofs.Lays.n168 Tryz.prog lays168_ren := {
  mixed := by kernel_rfl
  f168 := Tryz.func30.trans (congrArg some (by kernel_rfl))
  f240 := Tryz.func44.trans (congrArg some (by kernel_rfl))
  f242 := Tryz.func45.trans (congrArg some (by kernel_rfl))
  f276 := Tryz.func56.trans (congrArg some (by kernel_rfl))
  f278 := Tryz.func57.trans (congrArg some (by kernel_rfl))
  t0 := Tryz.underlying0
  a0 := Tryz.isAgg0
  z0 := Tryz.sizeOf0
  v0 := Tryz.zeroValue0
  t3 := Tryz.underlying3
  a3 := Tryz.isAgg3
  z3 := Tryz.sizeOf3
  v3 := Tryz.zeroValue3
  t4 := Tryz.underlying4
  a4 := Tryz.isAgg4
  z4 := Tryz.sizeOf4
  v4 := Tryz.zeroValue4
  t5 := Tryz.underlying5
  a5 := Tryz.isAgg5
  z5 := Tryz.sizeOf5
  v5 := Tryz.zeroValue5
  t9 := Tryz.underlying9
  a9 := Tryz.isAgg9
  z9 := Tryz.sizeOf9
  v9 := Tryz.zeroValue9
  t20 := Tryz.underlying20
  a20 := Tryz.isAgg20
  z20 := Tryz.sizeOf20
  v20 := Tryz.zeroValue20
  t21 := Tryz.underlying21
  a21 := Tryz.isAgg21
  z21 := Tryz.sizeOf21
  v21 := Tryz.zeroValue21
  t37 := Tryz.underlying69
  a37 := Tryz.isAgg69
  z37 := Tryz.sizeOf69
  v37 := Tryz.zeroValue69
  t46 := Tryz.underlying114
  a46 := Tryz.isAgg114
  z46 := Tryz.sizeOf114
  v46 := Tryz.zeroValue114
  t51 := Tryz.underlying110
  a51 := Tryz.isAgg110
  z51 := Tryz.sizeOf110
  v51 := Tryz.zeroValue110
  t70 := Tryz.underlying68
  a70 := Tryz.isAgg68
  z70 := Tryz.sizeOf68
  v70 := Tryz.zeroValue68
  t72 := Tryz.underlying71
  a72 := Tryz.isAgg71
  z72 := Tryz.sizeOf71
  v72 := Tryz.zeroValue71
  t75 := Tryz.underlying39
  a75 := Tryz.isAgg39
  z75 := Tryz.sizeOf39
  v75 := Tryz.zeroValue39
  t164 := Tryz.underlying54
  a164 := Tryz.isAgg54
  z164 := Tryz.sizeOf54
  v164 := Tryz.zeroValue54 }
theorem Builder_Extra_168 : Builder.Extra Tryz.prog lays168_ren := {
  sizeBuilder := by kernel_rfl
  liesBuilder := by kernel_rfl
  t5 := Tryz.underlying5
  a5 := Tryz.isAgg5
  z5 := Tryz.sizeOf5
  v5 := Tryz.zeroValue5
  infoByte := by kernel_rfl
  cellsByte := by kernel_rfl
  sizeByte := by kernel_rfl
  neB5 := by decide }
theorem Builder_WriteRune_k (B b : Nat) (bs : List Value) (r : Int) (hr0 : -2147483648 ≤ r) (hr1 : r ≤ 2147483647) (w : World) (h : Lib.IsBuilderF 71 5 B b bs w) (hlen : bs.length + 4 ≤ 140737488355328) (hBw : B ≤ w.heap.size) :
    Calls Tryz.prog 30 #[.pointer (some ⟨b, 0, none⟩), .int .i32 r] w fun e w' => e = .returned (.tuple #[.int .i64 (Lib.runeCells r).length, .nilIface]) ∧ (Lib.BuilderAtF 71 5 B b (.pointer (some ⟨b, 0, none⟩)) (bs ++ Lib.runeCells r) w' ∧ Below B w w' ∧ Lib.OthersKept 5 (some b) w w') :=
  Any.Builder_WriteRune_k lays168 Builder_Extra_168 B b bs r hr0 hr1 w h hlen hBw
end Go.Proofs.YtdanfekodmncmaaGreatDoor
