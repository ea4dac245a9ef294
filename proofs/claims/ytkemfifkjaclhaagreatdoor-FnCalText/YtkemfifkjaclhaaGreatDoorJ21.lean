/- append of a whole list of strings onto a slice that is empty and without room: a copy. -/
import Derived.Shelf.Strings.OnBuilder
import Derived.Shelf.Strings.BuilderK
import Derived.Test.YtkemfifkjaclhaaGreatDoorProg
import Derived.Shelf.Strings.BuilderRune
import Derived.Test.YtkemfifkjaclhaaGreatDoorJ20
import Derived.Test.YtkemfifkjaclhaaGreatDoorJ14
namespace Go.Proofs.YtkemfifkjaclhaaGreatDoor
set_option linter.unusedVariables false
set_option linter.unusedSimpArgs false
open Go.Shelf Go
def lays169_ren : Go.Shelf.Ren := ⟨fun | 169 => 44 | n => n, fun | 70 => 84 | 9 => 9 | 0 => 0 | 72 => 86 | 37 => 22 | 127 => 116 | 3 => 3 | 5 => 5 | n => n, fun | n => n⟩
theorem lays169 : Go.Proofs.Lays.n169 Tryz.prog lays169_ren := {
  mixed := by kernel_rfl
  f169 := Tryz.func44.trans (congrArg some (by kernel_rfl))
  t0 := Tryz.underlying0
  a0 := Tryz.isAgg0
  z0 := Tryz.sizeOf0
  v0 := Tryz.zeroValue0
  t3 := Tryz.underlying3
  a3 := Tryz.isAgg3
  z3 := Tryz.sizeOf3
  v3 := Tryz.zeroValue3
  t9 := Tryz.underlying9
  a9 := Tryz.isAgg9
  z9 := Tryz.sizeOf9
  v9 := Tryz.zeroValue9
  t37 := Tryz.underlying22
  a37 := Tryz.isAgg22
  z37 := Tryz.sizeOf22
  v37 := Tryz.zeroValue22
  t70 := Tryz.underlying84
  a70 := Tryz.isAgg84
  z70 := Tryz.sizeOf84
  v70 := Tryz.zeroValue84
  t72 := Tryz.underlying86
  a72 := Tryz.isAgg86
  z72 := Tryz.sizeOf86
  v72 := Tryz.zeroValue86
  t127 := Tryz.underlying116
  a127 := Tryz.isAgg116
  z127 := Tryz.sizeOf116
  v127 := Tryz.zeroValue116 }
theorem Builder_Extra_169 : Builder.Extra Tryz.prog lays169_ren := {
  sizeBuilder := by kernel_rfl
  liesBuilder := by kernel_rfl
  t5 := Tryz.underlying5
  a5 := Tryz.isAgg5
  z5 := Tryz.sizeOf5
  v5 := Tryz.zeroValue5
  infoByte := by kernel_rfl
  cellsByte := by kernel_rfl
  sizeByte := by kernel_rfl
  neB5 := by decide }
def lays156_ren : Go.Shelf.Ren := ⟨fun | 156 => 42 | 165 => 61 | 166 => 41 | 169 => 44 | 240 => 60 | 241 => 71 | 276 => 70 | 277 => 82 | n => n, fun | 31 => 37 | 9 => 9 | 3 => 3 | 4 => 4 | 0 => 0 | 20 => 20 | 72 => 86 | 76 => 87 | 70 => 84 | 37 => 22 | 75 => 42 | 127 => 116 | 164 => 68 | 5 => 5 | 80 => 91 | n => n, fun | n => n⟩
theorem lays156 : Go.Proofs.Lays.n156 Tryz.prog lays156_ren := {
  mixed := by kernel_rfl
  f156 := Tryz.func42.trans (congrArg some (by kernel_rfl))
  f165 := Tryz.func61.trans (congrArg some (by kernel_rfl))
  f166 := Tryz.func41.trans (congrArg some (by kernel_rfl))
  f169 := Tryz.func44.trans (congrArg some (by kernel_rfl))
  f240 := Tryz.func60.trans (congrArg some (by kernel_rfl))
  f241 := Tryz.func71.trans (congrArg some (by kernel_rfl))
  f276 := Tryz.func70.trans (congrArg some (by kernel_rfl))
  f277 := Tryz.func82.trans (congrArg some (by kernel_rfl))
  t0 := Tryz.underlying0
  a0 := Tryz.isAgg0
  z0 := Tryz.sizeOf0
  v0 := Tryz.zeroValue0
  t3 := Tryz.underlying3
  a3 := Tryz.isAgg3
  z3 := Tryz.sizeOf3
  v3 := Tryz.zeroValue3
  t4 := Tryz.underlying4
  a4 := Tryz.isAgg4
  z4 := Tryz.sizeOf4
  v4 := Tryz.zeroValue4
  t9 := Tryz.underlying9
  a9 := Tryz.isAgg9
  z9 := Tryz.sizeOf9
  v9 := Tryz.zeroValue9
  t20 := Tryz.underlying20
  a20 := Tryz.isAgg20
  z20 := Tryz.sizeOf20
  v20 := Tryz.zeroValue20
  t31 := Tryz.underlying37
  a31 := Tryz.isAgg37
  z31 := Tryz.sizeOf37
  v31 := Tryz.zeroValue37
  t37 := Tryz.underlying22
  a37 := Tryz.isAgg22
  z37 := Tryz.sizeOf22
  v37 := Tryz.zeroValue22
  t70 := Tryz.underlying84
  a70 := Tryz.isAgg84
  z70 := Tryz.sizeOf84
  v70 := Tryz.zeroValue84
  t72 := Tryz.underlying86
  a72 := Tryz.isAgg86
  z72 := Tryz.sizeOf86
  v72 := Tryz.zeroValue86
  t75 := Tryz.underlying42
  a75 := Tryz.isAgg42
  z75 := Tryz.sizeOf42
  v75 := Tryz.zeroValue42
  t76 := Tryz.underlying87
  a76 := Tryz.isAgg87
  z76 := Tryz.sizeOf87
  v76 := Tryz.zeroValue87
  t127 := Tryz.underlying116
  a127 := Tryz.isAgg116
  z127 := Tryz.sizeOf116
  v127 := Tryz.zeroValue116
  t164 := Tryz.underlying68
  a164 := Tryz.isAgg68
  z164 := Tryz.sizeOf68
  v164 := Tryz.zeroValue68 }
theorem Builder_Extra_156 : Builder.Extra Tryz.prog lays156_ren := {
  sizeBuilder := by kernel_rfl
  liesBuilder := by kernel_rfl
  t5 := Tryz.underlying5
  a5 := Tryz.isAgg5
  z5 := Tryz.sizeOf5
  v5 := Tryz.zeroValue5
  infoByte := by kernel_rfl
  cellsByte := by kernel_rfl
  sizeByte := by kernel_rfl
  neB5 := by decide }
open Go.RowKit in
theorem strings_Join_none (a : Option Addr) (c : Nat) (sep : ByteArray) (w : World) :
    Calls Tryz.prog 42 #[.slice a 0 c, .string sep] w fun e w' => e = .returned (.string ⟨#[]⟩) ∧ w' = w := Any.strings_Join_none lays156 Builder_Extra_156 a c sep w
open Go.RowKit in
theorem strings_Join (bk o c : Nat) (xs : List ByteArray) (sep : ByteArray) (w : World) (hcells : ∀ (j : Nat) x, xs[j]? = some x → w.cell? ⟨bk, o + j, none⟩ = some (.string x)) (hbk : bk < w.heap.size) (hN : xs.length ≤ 140737488355328) (hcap : xs.length ≤ c) (hlen : (Lib.join (xs.map (·.data.toList)) sep.data.toList).length ≤ 140737488355328) :
    Calls Tryz.prog 42 #[.slice (some ⟨bk, o, none⟩) xs.length c, .string sep] w fun e w' => e = .returned (.string ⟨(Lib.join (xs.map (·.data.toList)) sep.data.toList).toArray⟩) ∧ Below w.heap.size w w' := Any.strings_Join lays156 Builder_Extra_156 bk o c xs sep w hcells hbk hN hcap hlen
open Go.RowKit in
theorem Builder_String_any_k (B b : Nat) (l : List UInt8) (w : World) (h : Lib.IsBuilderF 86 5 B b (Lib.byteCells l) w) (hBw : B ≤ w.heap.size) :
    Calls Tryz.prog 44 #[.pointer (some ⟨b, 0, none⟩)] w fun e w' => e = .returned (.string ⟨l.toArray⟩) ∧ (Lib.IsBuilderF 86 5 B b (Lib.byteCells l) w' ∧ Below B w w' ∧ Lib.OthersKept 5 (some b) w w') := Any.Builder_String_any_k lays169 Builder_Extra_169 B b l w h hBw
theorem lays166 : Go.Proofs.Lays.n166 Tryz.prog lays156_ren := { lays156 with }
theorem Builder_WriteString_k (B b : Nat) (bs : List Value) (s : ByteArray) (w : World) (h : Lib.IsBuilderF 86 5 B b bs w) (hlen : bs.length + s.size ≤ 140737488355328) (hBw : B ≤ w.heap.size) :
    Calls Tryz.prog 41 #[.pointer (some ⟨b, 0, none⟩), .string s] w fun e w' => e = .returned (.tuple #[.int .i64 s.size, .nilIface]) ∧ (Lib.BuilderAtF 86 5 B b (.pointer (some ⟨b, 0, none⟩)) (bs ++ Lib.strCells s) w' ∧ RowKit.Below B w w' ∧ Lib.OthersKept 5 (some b) w w') := Any.Builder_WriteString_k lays166 Builder_Extra_156 B b bs s w h hlen hBw
end Go.Proofs.YtkemfifkjaclhaaGreatDoor

namespace Go.Proofs.YtkemfifkjaclhaaGreatDoor
set_option linter.unusedVariables false
set_option linter.unusedSimpArgs false
open Go.Shelf Go Go.RowKit
def lays168_ren : Go.Shelf.Ren := ⟨fun | 168 => 50 | 240 => 60 | 242 => 66 | 276 => 70 | 278 => 72 | n => n, fun | 0 => 0 | 3 => 3 | 4 => 4 | 5 => 5 | 9 => 9 | 20 => 20 | 21 => 21 | 37 => 22 | 46 => 136 | 51 => 125 | 70 => 84 | 72 => 86 | 75 => 42 | 76 => 87 | 80 => 91 | 164 => 68 | n => n, fun | n => n⟩
theorem lays168 : Go.Proofs.Lays.n168 Tryz.prog lays168_ren := {
  mixed := by kernel_rfl
  f168 := Tryz.func50.trans (congrArg some (by kernel_rfl))
  f240 := Tryz.func60.trans (congrArg some (by kernel_rfl))
  f242 := Tryz.func66.trans (congrArg some (by kernel_rfl))
  f276 := Tryz.func70.trans (congrArg some (by kernel_rfl))
  f278 := Tryz.func72.trans (congrArg some (by kernel_rfl))
  t0 := Tryz.underlying0
  a0 := Tryz.isAgg0
  z0 := Tryz.sizeOf0
  v0 := Tryz.zeroValue0
  t3 := Tryz.underlying3
  a3 := Tryz.isAgg3
  z3 := Tryz.sizeOf3
  v3 := Tryz.zeroValue3
  t4 := Tryz.underlying4
  a4 := Tryz.isAgg4
  z4 := Tryz.sizeOf4
  v4 := Tryz.zeroValue4
  t5 := Tryz.underlying5
  a5 := Tryz.isAgg5
  z5 := Tryz.sizeOf5
  v5 := Tryz.zeroValue5
  t9 := Tryz.underlying9
  a9 := Tryz.isAgg9
  z9 := Tryz.sizeOf9
  v9 := Tryz.zeroValue9
  t20 := Tryz.underlying20
  a20 := Tryz.isAgg20
  z20 := Tryz.sizeOf20
  v20 := Tryz.zeroValue20
  t21 := Tryz.underlying21
  a21 := Tryz.isAgg21
  z21 := Tryz.sizeOf21
  v21 := Tryz.zeroValue21
  t37 := Tryz.underlying22
  a37 := Tryz.isAgg22
  z37 := Tryz.sizeOf22
  v37 := Tryz.zeroValue22
  t46 := Tryz.underlying136
  a46 := Tryz.isAgg136
  z46 := Tryz.sizeOf136
  v46 := Tryz.zeroValue136
  t51 := Tryz.underlying125
  a51 := Tryz.isAgg125
  z51 := Tryz.sizeOf125
  v51 := Tryz.zeroValue125
  t70 := Tryz.underlying84
  a70 := Tryz.isAgg84
  z70 := Tryz.sizeOf84
  v70 := Tryz.zeroValue84
  t72 := Tryz.underlying86
  a72 := Tryz.isAgg86
  z72 := Tryz.sizeOf86
  v72 := Tryz.zeroValue86
  t75 := Tryz.underlying42
  a75 := Tryz.isAgg42
  z75 := Tryz.sizeOf42
  v75 := Tryz.zeroValue42
  t164 := Tryz.underlying68
  a164 := Tryz.isAgg68
  z164 := Tryz.sizeOf68
  v164 := Tryz.zeroValue68 }
theorem Builder_Extra_168 : Builder.Extra Tryz.prog lays168_ren := {
  sizeBuilder := by kernel_rfl
  liesBuilder := by kernel_rfl
  t5 := Tryz.underlying5
  a5 := Tryz.isAgg5
  z5 := Tryz.sizeOf5
  v5 := Tryz.zeroValue5
  infoByte := by kernel_rfl
  cellsByte := by kernel_rfl
  sizeByte := by kernel_rfl
  neB5 := by decide }
theorem Builder_WriteRune_k (B b : Nat) (bs : List Value) (r : Int) (hr0 : -2147483648 ≤ r) (hr1 : r ≤ 2147483647) (w : World) (h : Lib.IsBuilderF 86 5 B b bs w) (hlen : bs.length + 4 ≤ 140737488355328) (hBw : B ≤ w.heap.size) :
    Calls Tryz.prog 50 #[.pointer (some ⟨b, 0, none⟩), .int .i32 r] w fun e w' => e = .returned (.tuple #[.int .i64 (Lib.runeCells r).length, .nilIface]) ∧ (Lib.BuilderAtF 86 5 B b (.pointer (some ⟨b, 0, none⟩)) (bs ++ Lib.runeCells r) w' ∧ Below B w w' ∧ Lib.OthersKept 5 (some b) w w') :=
  Any.Builder_WriteRune_k lays168 Builder_Extra_168 B b bs r hr0 hr1 w h hlen hBw
end Go.Proofs.YtkemfifkjaclhaaGreatDoor

namespace Go.Proofs.YtkemfifkjaclhaaGreatDoor
set_option linter.unusedVariables false
set_option linter.unusedSimpArgs false
open Go.RowKit Go
attribute [local go_sem] Oper.semAt_some

theorem reset (N : Nat) (bs : List Value) (w : World) (h : BF N bs w) :
    Calls Tryz.prog 51 #[.pointer (some ⟨N, 0, none⟩)] w fun e w' => e = .returned (.tuple #[]) ∧ w' = (w.setCell ⟨N, 0, none⟩ (.pointer none)).setCell ⟨N, 1, none⟩ (.slice none 0 0) := by
  obtain ⟨p, v, c0, c1, f0, f1⟩ := h.cells
  go_enter Tryz.func51, Tryz.ntmps51
  go_wp2
  go_end0
  exact ⟨rfl, rfl⟩

set_option maxRecDepth 100000 in
set_option maxHeartbeats 4000000 in
theorem textLines1 (s : ByteArray) (hs : s.size ≤ 16777216) (n B Bt : Nat) (hn : 1 ≤ n) :
    Iters Fence.wide n Tryz.prog 49 #[.pointer (some ⟨Bt, 0, none⟩)] (fun x : ByteArray => #[.string x]) (Did B) Kept (linesOf s) (fun W => B ≤ W.heap.size ∧ W.cell? ⟨Bt, 0, none⟩ = some (.string s)) := by
  intro l J Jx W hst hJ hJx hY h0
  obtain ⟨hBW, hct⟩ := hst
  have hbt : Bt < W.heap.size := World.block_lt_of_cell? _ _ hct
  refine callsIn_of_wp Tryz.func49 rfl trivial ?_ rfl
  simp only [Tryz.ntmps49, List.size_toArray, List.length_cons, List.length_nil, Nat.reduceAdd, Nat.reduceSub, Array.replicate_succ, Array.replicate_zero, List.push_toArray, List.append_toArray, List.nil_append, List.cons_append]
  gi_wp2
  gi_loopw [] (fun wr => ∃ (pos fuel : Nat) (acc : List UInt8) (pre : List ByteArray), BF W.heap.size (Lib.byteCells acc) wr ∧ wr.heap[W.heap.size + 1]? = some (.stringIter s pos) ∧ J pre wr ∧ linesOf s = pre ++ linesFrom s fuel pos acc ∧ s.size ≤ pos + fuel ∧ acc.length ≤ 4 * pos) (fun wr => s.size - wr.iterPos (W.heap.size + 1))
  case atStart =>
    refine ⟨0, s.size, [], [], (Lib.IsBuilderF.of (Lib.fresh_isBuilder 86 5 W)).alloc _, ?_, hJ _ _ _ h0 ((Did.alloc W _ hBW).trans (Did.alloc _ _ (by simp; omega))), rfl, by omega, by simp⟩
    have := World.iter_heap (W.alloc (.cells #[.pointer none, .slice none 0 0] 86)) s 0
    simpa using this
  case round =>
    obtain ⟨pos, fuel, acc, pre, hI, hit, hj, hacc, hfu, hal⟩ := hrel
    have hsz : W.heap.size + 1 < wr.heap.size := (Array.getElem?_eq_some_iff.1 hit).1
    by_cases hp : pos < s.size
    · have hnx : ∀ ty, (Instr.next (.pointer (some ⟨W.heap.size + 1, 0, none⟩)) true ty).run Tryz.prog wr = _ := fun ty => Lib.run_next_any_at wr (W.heap.size + 1) s pos ty hit hp
      have hwd := width_pos s pos hp
      have hd1 := decode_le s pos
      have hI2 := hI.iterAt hit (pos + (Utf8.decode s pos).2)
      have hit2 := Lib.iterAt_heap wr (W.heap.size + 1) s pos (pos + (Utf8.decode s pos).2) hit
      have hj2 := hJ _ _ _ hj (Did.iter (B := B) wr _ s pos (pos + (Utf8.decode s pos).2) hit (by omega))
      have hsz2 : W.heap.size ≤ (wr.iterAt (W.heap.size + 1) s (pos + (Utf8.decode s pos).2)).heap.size := by rw [Lib.iterAt_size]; omega
      obtain ⟨f, rfl⟩ : ∃ f, fuel = f + 1 := ⟨fuel - 1, by omega⟩
      by_cases h10 : (Utf8.decode s pos).1 = 10
      · have hlf : linesFrom s (f + 1) pos acc = ⟨acc.toArray⟩ :: linesFrom s f (pos + (Utf8.decode s pos).2) [] := by simp [linesFrom, hp, h10]
        rw [hlf] at hacc
        gi_wp2_with fail
        refine ⟨trivial, (callsIn_wide.2 (Builder_String_any_k W.heap.size W.heap.size acc _ hI2 hsz2)).mono ?_⟩
        rintro e W1 ⟨rfl, hI3, hb3, hk3⟩
        have hit3 := hk3.iter hit2 (by omega)
        have hj3 := hJ _ _ _ hj2 (Did.wrote hBW hb3 hk3 (BF.kind hI2))
        obtain ⟨fn, tmps, assign, body, hy, hR⟩ := hY pre ⟨acc.toArray⟩ W1 hj3 ⟨linesFrom s f (pos + (Utf8.decode s pos).2) [], by rw [hacc]; simp⟩
        gi_wp2_with fail
        refine hR.mono ?_
        rintro e W2 (⟨rfl, hj4, hkp⟩ | ⟨rfl, hx⟩)
        · have hI4 := BF.kept hI3 hkp
          have hit4 := hkp.same _ _ hit3 (.inl rfl)
          gi_wp2_with fail
          refine ⟨trivial, (callsIn_wide.2 (reset W.heap.size _ W2 hI4)).mono ?_⟩
          rintro e W3 ⟨rfl, hW3⟩
          have hI5 := BF.reset hI4
          have hj5 := hJ _ _ _ hj4 ((Did.set W2 0 (.pointer none) hBW (BF.kind hI4)).trans (Did.set _ 1 (.slice none 0 0) hBW (by obtain ⟨c, fz, hc⟩ := BF.kind hI4; exact ⟨c.setIfInBounds 0 (.pointer none), fz, by simp [World.setCell, Array.getElem?_modify, hc]⟩)))
          have hit5 : ((W2.setCell ⟨W.heap.size, 0, none⟩ (.pointer none)).setCell ⟨W.heap.size, 1, none⟩ (.slice none 0 0)).heap[W.heap.size + 1]? = some (.stringIter s (pos + (Utf8.decode s pos).2)) := by
            rw [Below.heap_setCell _ _ _ _ (by simp), Below.heap_setCell _ _ _ _ (by simp)]; exact hit4
          rw [← hW3] at hI5 hj5 hit5
          clear hW3
          gi_wp2_with fail
          go_roundw
          case rel => exact ⟨pos + (Utf8.decode s pos).2, f, [], pre ++ [⟨acc.toArray⟩], hI5, hit5, hj5, by rw [hacc]; simp, by omega, by simp⟩
          case measure =>
            simp only [World.iterPos, hit5, hit]
            omega
        · gi_wp2_with fail
          refine bodyPost_ret (results_none rfl _ _ _) rfl ?_
          exact ⟨⟨_, rfl⟩, .inr ⟨_, hx⟩⟩
      · have hlf : linesFrom s (f + 1) pos acc = linesFrom s f (pos + (Utf8.decode s pos).2) (acc ++ Lib.encodeRune (Utf8.decode s pos).1) := by simp [linesFrom, hp, h10]
        rw [hlf] at hacc
        gi_wp2_with fail
        refine ⟨trivial, (callsIn_wide.2 (Builder_WriteRune_k W.heap.size W.heap.size _ _ (by omega) (by omega) _ hI2 (by rw [Lib.byteCells_length]; omega) hsz2)).mono ?_⟩
        rintro e W1 ⟨rfl, hI3, hb3, hk3⟩
        have hit3 := hk3.iter hit2 (by omega)
        have hj3 := hJ _ _ _ hj2 (Did.wrote hBW hb3 hk3 (BF.kind hI2))
        gi_wp2_with fail
        go_roundw
        case rel =>
          have hl4 := Lib.runeCells_le ((Utf8.decode s pos).1 : Int)
          rw [Lib.runeCells_length] at hl4
          refine ⟨pos + (Utf8.decode s pos).2, f, acc ++ Lib.encodeRune (Utf8.decode s pos).1, pre, ?_, hit3, hj3, hacc, by omega, by simp; omega⟩
          rw [Lib.byteCells_append, Lib.byteCells_encodeRune]; exact Or.inr hI3
        case measure =>
          simp only [World.iterPos, hit3, hit]
          omega
    · have hnx : ∀ ty, (Instr.next (.pointer (some ⟨W.heap.size + 1, 0, none⟩)) true ty).run Tryz.prog wr = _ := fun ty => Lib.run_next_end_at wr (W.heap.size + 1) s pos ty hit hp
      gi_wp2_with fail
      go_end0
      rw [linesFrom_end s fuel pos acc hp, List.append_nil] at hacc
      exact ⟨⟨_, rfl⟩, .inl (by rw [hacc]; exact hj)⟩
end Go.Proofs.YtkemfifkjaclhaaGreatDoor

namespace Go.Proofs.YtkemfifkjaclhaaGreatDoor
set_option linter.unusedVariables false
set_option linter.unusedSimpArgs false
open Go.RowKit

/-- A whole list is appended onto an empty slice without room. -/
theorem wp_copy_str {w : World} {ops : Array Oper} {rest : List Oper} {o : Oper} {a : Act} {Q : Exit → Act → World → Prop} (hgd : o.guard = none) (s x : Operand)
    (ho : o.op = .call { callee := .builtin .append, args := #[s, x], argTypes := #[37, 37] })
    (F : Nat) (v vx : Value) (xs : List ByteArray) (hs : a.eval s = v) (hacc : Acc w F 9 1 v 0 []) (hv : ∃ b, v = .slice b 0 0)
    (hx : a.eval x = vx) (hr : Row w vx (sv xs)) (hn : xs.length ≤ 1099511627776) (hF : F ≤ w.heap.size)
    (h : ∀ v' w', Acc w' F 9 1 v' xs.length (sv xs) → Below F w w' → wpList Tryz.prog ops Q rest (a.put o.dst v') w') : wpList Tryz.prog ops Q (o :: rest) a w := by
  by_cases h0 : xs.length = 0
  · have hxs : xs = [] := List.length_eq_zero_iff.1 h0
    subst hxs
    obtain ⟨b, rfl⟩ := hv
    obtain ⟨a1, c1, hvx⟩ := hr.form
    simp only [sv, List.map_nil, List.length_nil] at hvx
    subst hvx
    obtain ⟨i, hi, _⟩ := Option.map_eq_some_iff.1 Tryz.infoS
    refine wpList_plain hgd fun K hK => ?_
    have hrun := append_none (P := Tryz.prog) w 37 o.type 9 i Tryz.underlying37 hi b a1 c1
    unfold Oper.wp execOp
    simp only [ho, resolve, invoke, builtin, Sem.run_bind, Sem.run_pure, Result.andThen_ok, List.map_toArray, List.map_cons, List.map_nil, hs, hx, hrun]
    exact hK _ _ (h _ w hacc (Below.refl _ _))
  · obtain ⟨b1, off1, cap1, rfl⟩ : ∃ b1 off1 cap1, vx = .slice (some ⟨b1, off1, none⟩) xs.length cap1 := by
      rcases hr with ⟨_, h'⟩ | ⟨b1, off1, cap1, h', _⟩
      · exact absurd (by simpa [sv] using congrArg List.length h') h0
      · exact ⟨b1, off1, cap1, by rw [h', sv_len]⟩
    have hcell : ∀ j u, (sv xs)[j]? = some u → w.cell? ((⟨b1, off1, none⟩ : Addr).add j) = some u := by
      rcases hr with ⟨h', _⟩ | ⟨b2, off2, cap2, h', _, _, _, hc⟩
      · simp at h'
      · simp only [Value.slice.injEq, Option.some.injEq, Addr.mk.injEq] at h'
        obtain ⟨⟨rfl, rfl, _⟩, _, _⟩ := h'
        intro j u hj
        rw [Addr.add_lit]; exact hc j u hj
    refine wp_acc hgd s x 37 ho F 9 _ 1 16 Tryz.underlying37 Tryz.infoS rfl (by decide) v 0 [] hs hacc ⟨b1, off1, none⟩ xs.length cap1 (sv xs) hx (by omega) (by rw [sv_len, Nat.mul_one]) hcell ?_ (by unfold maxLen; omega) (by omega) hF ?_
    · intro u hu
      simp only [sv, List.mem_map] at hu
      obtain ⟨q, _, rfl⟩ := hu
      rfl
    · intro v' w' h1 h2
      exact h v' w' (by simpa using h1) h2
end Go.Proofs.YtkemfifkjaclhaaGreatDoor
