/- The program's own board of rows of words, whatever the words. -/
import Derived.Test.YtnieaeakaajleaaGreatDoorJ4
import Derived.Test.YtnieaeakaajleaaGreatDoorJ10
import Derived.Deep.CutBlock
import Derived.Deep.DeepCutAuto
import Derived.Deep.RegionHeld3
import Derived.OrdersHeld
import Derived.Shelf.Strings.OnBuilder
import Derived.Shelf.Strings.BuilderK
import Derived.Test.YtnieaeakaajleaaGreatDoorProg
namespace Go.Proofs.YtnieaeakaajleaaGreatDoor
set_option linter.unusedVariables false
set_option linter.unusedSimpArgs false
open Go.RowKit Go

def evB : ByteArray := ⟨#[101, 118, 101, 114, 121]⟩
def atB : ByteArray := ⟨#[97, 116]⟩
def frB : ByteArray := ⟨#[102, 114, 111, 109]⟩
def toB : ByteArray := ⟨#[116, 111]⟩
def butB : ByteArray := ⟨#[98, 117, 116]⟩
/-- The words of a rule behind the first. -/
def headW (r : Rul) : List ByteArray := [itoB r.ev, atB, itoB r.at_, frB, itoB r.fr, toB, itoB r.to_]
def butWs (r : Rul) : List ByteArray := if r.but = [] then [] else [butB]
def rwW (r : Rul) : List ByteArray := headW r ++ butWs r ++ numS r.but
def joinB (x : ByteArray) (ys : List ByteArray) : ByteArray := ys.foldl (fun o y => o ++ spB ++ y) x
theorem joinB_app (x : ByteArray) (ys zs : List ByteArray) : joinB x (ys ++ zs) = joinB (joinB x ys) zs := by simp [joinB]
theorem joinB_nums (x : ByteArray) (zs : List Int) : joinB x (numS zs) = numsT x zs := by simp [joinB, numsT, numS, List.foldl_map]
theorem joinB_rule (r : Rul) : joinB evB (rwW r) = rulT r := by
  have e1 : w1B = evB ++ spB := rfl
  have e2 : w2B = spB ++ atB ++ spB := rfl
  have e3 : w3B = spB ++ frB ++ spB := rfl
  have e4 : w4B = spB ++ toB ++ spB := rfl
  have e5 : w5B = spB ++ butB := rfl
  have hh : joinB evB (headW r) = headT r := by
    unfold joinB headW headT
    rw [e1, e2, e3, e4]
    simp only [List.foldl_cons, List.foldl_nil, ByteArray.append_assoc]
  unfold rwW rulT
  rw [joinB_app, joinB_app, hh, joinB_nums]
  congr 1
  unfold butWs
  split
  · rfl
  · rw [e5]; simp only [joinB, List.foldl_cons, List.foldl_nil, ByteArray.append_assoc]

theorem own_less {w : World} {base base' : Nat} {e : TypeId} {size : Nat} {v : Value} {n : Nat} {xs : List Value} (h : w.ownsRow base e size v n xs) (hb : base' ≤ base) : w.ownsRow base' e size v n xs := by
  refine ⟨h.1, ?_⟩
  rcases h.2 with h | ⟨g, cap, cur, h1, h2, h3⟩
  · exact .inl h
  · exact .inr ⟨g, cap, cur, h1, Nat.le_trans hb h2, h3⟩
end Go.Proofs.YtnieaeakaajleaaGreatDoor

namespace Go.Proofs.YtnieaeakaajleaaGreatDoor
set_option linter.unusedVariables false
set_option linter.unusedSimpArgs false
open Go.Shelf Go
def lays169_ren : Go.Shelf.Ren := ⟨fun | 169 => 83 | n => n, fun | 70 => 108 | 9 => 9 | 0 => 0 | 72 => 110 | 37 => 102 | 127 => 149 | 3 => 3 | 5 => 5 | n => n, fun | n => n⟩
theorem lays169 : Go.Proofs.Lays.n169 Tryz.prog lays169_ren := {
  mixed := by kernel_rfl
  f169 := Tryz.func83.trans (congrArg some (by kernel_rfl))
  t0 := Tryz.underlying0
  a0 := Tryz.isAgg0
  z0 := Tryz.sizeOf0
  v0 := Tryz.zeroValue0
  t3 := Tryz.underlying3
  a3 := Tryz.isAgg3
  z3 := Tryz.sizeOf3
  v3 := Tryz.zeroValue3
  t9 := Tryz.underlying9
  a9 := Tryz.isAgg9
  z9 := Tryz.sizeOf9
  v9 := Tryz.zeroValue9
  t37 := Tryz.underlying102
  a37 := Tryz.isAgg102
  z37 := Tryz.sizeOf102
  v37 := Tryz.zeroValue102
  t70 := Tryz.underlying108
  a70 := Tryz.isAgg108
  z70 := Tryz.sizeOf108
  v70 := Tryz.zeroValue108
  t72 := Tryz.underlying110
  a72 := Tryz.isAgg110
  z72 := Tryz.sizeOf110
  v72 := Tryz.zeroValue110
  t127 := Tryz.underlying149
  a127 := Tryz.isAgg149
  z127 := Tryz.sizeOf149
  v127 := Tryz.zeroValue149 }
theorem Builder_Extra_169 : Builder.Extra Tryz.prog lays169_ren := {
  sizeBuilder := by kernel_rfl
  liesBuilder := by kernel_rfl
  t5 := Tryz.underlying5
  a5 := Tryz.isAgg5
  z5 := Tryz.sizeOf5
  v5 := Tryz.zeroValue5
  infoByte := by kernel_rfl
  cellsByte := by kernel_rfl
  sizeByte := by kernel_rfl
  neB5 := by decide }
def lays156_ren : Go.Shelf.Ren := ⟨fun | 156 => 81 | 165 => 108 | 166 => 80 | 169 => 83 | 240 => 107 | 241 => 125 | 276 => 124 | 277 => 137 | n => n, fun | 31 => 67 | 9 => 9 | 3 => 3 | 4 => 4 | 0 => 0 | 20 => 20 | 72 => 110 | 76 => 113 | 70 => 108 | 37 => 102 | 75 => 112 | 127 => 149 | 164 => 154 | 5 => 5 | 80 => 117 | n => n, fun | n => n⟩
theorem lays156 : Go.Proofs.Lays.n156 Tryz.prog lays156_ren := {
  mixed := by kernel_rfl
  f156 := Tryz.func81.trans (congrArg some (by kernel_rfl))
  f165 := Tryz.func108.trans (congrArg some (by kernel_rfl))
  f166 := Tryz.func80.trans (congrArg some (by kernel_rfl))
  f169 := Tryz.func83.trans (congrArg some (by kernel_rfl))
  f240 := Tryz.func107.trans (congrArg some (by kernel_rfl))
  f241 := Tryz.func125.trans (congrArg some (by kernel_rfl))
  f276 := Tryz.func124.trans (congrArg some (by kernel_rfl))
  f277 := Tryz.func137.trans (congrArg some (by kernel_rfl))
  t0 := Tryz.underlying0
  a0 := Tryz.isAgg0
  z0 := Tryz.sizeOf0
  v0 := Tryz.zeroValue0
  t3 := Tryz.underlying3
  a3 := Tryz.isAgg3
  z3 := Tryz.sizeOf3
  v3 := Tryz.zeroValue3
  t4 := Tryz.underlying4
  a4 := Tryz.isAgg4
  z4 := Tryz.sizeOf4
  v4 := Tryz.zeroValue4
  t9 := Tryz.underlying9
  a9 := Tryz.isAgg9
  z9 := Tryz.sizeOf9
  v9 := Tryz.zeroValue9
  t20 := Tryz.underlying20
  a20 := Tryz.isAgg20
  z20 := Tryz.sizeOf20
  v20 := Tryz.zeroValue20
  t31 := Tryz.underlying67
  a31 := Tryz.isAgg67
  z31 := Tryz.sizeOf67
  v31 := Tryz.zeroValue67
  t37 := Tryz.underlying102
  a37 := Tryz.isAgg102
  z37 := Tryz.sizeOf102
  v37 := Tryz.zeroValue102
  t70 := Tryz.underlying108
  a70 := Tryz.isAgg108
  z70 := Tryz.sizeOf108
  v70 := Tryz.zeroValue108
  t72 := Tryz.underlying110
  a72 := Tryz.isAgg110
  z72 := Tryz.sizeOf110
  v72 := Tryz.zeroValue110
  t75 := Tryz.underlying112
  a75 := Tryz.isAgg112
  z75 := Tryz.sizeOf112
  v75 := Tryz.zeroValue112
  t76 := Tryz.underlying113
  a76 := Tryz.isAgg113
  z76 := Tryz.sizeOf113
  v76 := Tryz.zeroValue113
  t127 := Tryz.underlying149
  a127 := Tryz.isAgg149
  z127 := Tryz.sizeOf149
  v127 := Tryz.zeroValue149
  t164 := Tryz.underlying154
  a164 := Tryz.isAgg154
  z164 := Tryz.sizeOf154
  v164 := Tryz.zeroValue154 }
theorem Builder_Extra_156 : Builder.Extra Tryz.prog lays156_ren := {
  sizeBuilder := by kernel_rfl
  liesBuilder := by kernel_rfl
  t5 := Tryz.underlying5
  a5 := Tryz.isAgg5
  z5 := Tryz.sizeOf5
  v5 := Tryz.zeroValue5
  infoByte := by kernel_rfl
  cellsByte := by kernel_rfl
  sizeByte := by kernel_rfl
  neB5 := by decide }
open Go.RowKit in
theorem strings_Join_none (a : Option Addr) (c : Nat) (sep : ByteArray) (w : World) :
    Calls Tryz.prog 81 #[.slice a 0 c, .string sep] w fun e w' => e = .returned (.string ⟨#[]⟩) ∧ w' = w := Any.strings_Join_none lays156 Builder_Extra_156 a c sep w
open Go.RowKit in
theorem strings_Join (bk o c : Nat) (xs : List ByteArray) (sep : ByteArray) (w : World) (hcells : ∀ (j : Nat) x, xs[j]? = some x → w.cell? ⟨bk, o + j, none⟩ = some (.string x)) (hbk : bk < w.heap.size) (hN : xs.length ≤ 140737488355328) (hcap : xs.length ≤ c) (hlen : (Lib.join (xs.map (·.data.toList)) sep.data.toList).length ≤ 140737488355328) :
    Calls Tryz.prog 81 #[.slice (some ⟨bk, o, none⟩) xs.length c, .string sep] w fun e w' => e = .returned (.string ⟨(Lib.join (xs.map (·.data.toList)) sep.data.toList).toArray⟩) ∧ Below w.heap.size w w' := Any.strings_Join lays156 Builder_Extra_156 bk o c xs sep w hcells hbk hN hcap hlen
open Go.RowKit in
theorem Builder_String_any_k (B b : Nat) (l : List UInt8) (w : World) (h : Lib.IsBuilderF 110 5 B b (Lib.byteCells l) w) (hBw : B ≤ w.heap.size) :
    Calls Tryz.prog 83 #[.pointer (some ⟨b, 0, none⟩)] w fun e w' => e = .returned (.string ⟨l.toArray⟩) ∧ (Lib.IsBuilderF 110 5 B b (Lib.byteCells l) w' ∧ Below B w w' ∧ Lib.OthersKept 5 (some b) w w') := Any.Builder_String_any_k lays169 Builder_Extra_169 B b l w h hBw
theorem lays166 : Go.Proofs.Lays.n166 Tryz.prog lays156_ren := { lays156 with }
theorem Builder_WriteString_k (B b : Nat) (bs : List Value) (s : ByteArray) (w : World) (h : Lib.IsBuilderF 110 5 B b bs w) (hlen : bs.length + s.size ≤ 140737488355328) (hBw : B ≤ w.heap.size) :
    Calls Tryz.prog 80 #[.pointer (some ⟨b, 0, none⟩), .string s] w fun e w' => e = .returned (.tuple #[.int .i64 s.size, .nilIface]) ∧ (Lib.BuilderAtF 110 5 B b (.pointer (some ⟨b, 0, none⟩)) (bs ++ Lib.strCells s) w' ∧ RowKit.Below B w w' ∧ Lib.OthersKept 5 (some b) w w') := Any.Builder_WriteString_k lays166 Builder_Extra_156 B b bs s w h hlen hBw
end Go.Proofs.YtnieaeakaajleaaGreatDoor

namespace Go.Proofs.YtnieaeakaajleaaGreatDoor
set_option linter.unusedVariables false
set_option linter.unusedSimpArgs false
open Go.RowKit Go

theorem joinB_join (x : ByteArray) (ys : List ByteArray) : (⟨(Lib.join ((x :: ys).map (·.data.toList)) spB.data.toList).toArray⟩ : ByteArray) = joinB x ys := by
  have key : ∀ (ys : List ByteArray) (x : ByteArray), (joinB x ys).data.toList = x.data.toList ++ Lib.joinTail spB.data.toList (ys.map (·.data.toList)) := by
    intro ys
    induction ys with
    | nil => intro x; simp [joinB, Lib.joinTail]
    | cons y r ih =>
      intro x
      have h := ih (x ++ spB ++ y)
      simp only [joinB, List.foldl_cons] at h ⊢
      rw [h]
      simp [Lib.joinTail]
  rw [List.map_cons, Lib.join_cons, ← key]
theorem joinWords (v : Value) (x : ByteArray) (ys : List ByteArray) (t : ByteArray) (w : World) (hr : Row w v (sv (x :: ys))) (hy : ys.length ≤ 1000000000) (hj : joinB x ys = t) (ht : t.size ≤ 100000000000) :
    Calls Tryz.prog 81 #[v, .string ⟨#[32]⟩] w fun e w' => e = .returned (.string t) ∧ Below w.heap.size w w' := by
  rcases hr with ⟨_, h⟩ | ⟨b, off, cap, rfl, h1, h2, hb, hc⟩
  · simp [sv] at h
  · have hjj := joinB_join x ys
    have h3 : Lib.join ((x :: ys).map (·.data.toList)) spB.data.toList = t.data.toList := by rw [← hj, ← hjj]
    have hlen : (Lib.join ((x :: ys).map (·.data.toList)) spB.data.toList).length ≤ 140737488355328 := by
      rw [h3, Array.length_toList]; exact Nat.le_trans ht (by decide)
    have h := strings_Join b off cap (x :: ys) spB w (fun j u hu => hc j _ (by unfold sv; rw [List.getElem?_map, hu]; rfl)) hb (by simp; omega) (by rw [sv_len] at h1; exact h1) hlen
    rw [hjj, hj] at h
    rw [sv_len]
    exact h
theorem rwW_len {r : Rul} (h : RuleOk r) : (rwW r).length ≤ 1000000000 := by
  have h8 := h.2.2.2.2.1
  unfold rwW headW butWs
  split <;> simp [numS_len] <;> omega
theorem Row.below' {w w' : World} {v : Value} {xs : List Value} (h : Row w v xs) (hb : Below w.heap.size w w') : Row w' v xs := by
  rcases h with h | ⟨b, off, cap, h1, h2, h3, h4, h5⟩
  · exact .inl h
  · exact .inr ⟨b, off, cap, h1, h2, h3, Nat.lt_of_lt_of_le h4 hb.size, fun i x hx => (hb.cell (p := ⟨b, off + i, none⟩) h4).trans (h5 i x hx)⟩
end Go.Proofs.YtnieaeakaajleaaGreatDoor

namespace Go.Proofs.YtnieaeakaajleaaGreatDoor
set_option linter.unusedVariables false
set_option linter.unusedSimpArgs false
open Go.Shelf Go
def lays167_ren : Go.Shelf.Ren := ⟨fun | 167 => 82 | 166 => 80 | 240 => 107 | 276 => 124 | n => n, fun | 31 => 67 | 9 => 9 | 3 => 3 | 4 => 4 | 0 => 0 | 20 => 20 | 72 => 110 | 76 => 113 | 70 => 108 | 37 => 102 | 75 => 112 | 127 => 149 | 164 => 154 | 5 => 5 | 80 => 117 | n => n, fun | n => n⟩
theorem lays167 : Go.Proofs.Lays.n167 Tryz.prog lays167_ren := { lays156 with
  f167 := Tryz.func82.trans (congrArg some (by kernel_rfl))
  t5 := Tryz.underlying5
  a5 := Tryz.isAgg5
  z5 := Tryz.sizeOf5
  v5 := Tryz.zeroValue5 }
theorem Builder_Extra_167 : Builder.Extra Tryz.prog lays167_ren := {
  sizeBuilder := by kernel_rfl
  liesBuilder := by kernel_rfl
  t5 := Tryz.underlying5
  a5 := Tryz.isAgg5
  z5 := Tryz.sizeOf5
  v5 := Tryz.zeroValue5
  infoByte := by kernel_rfl
  cellsByte := by kernel_rfl
  sizeByte := by kernel_rfl
  neB5 := by decide }
theorem Builder_WriteByte_k (B b : Nat) (bs : List Value) (c : Int) (w : World) (h : Lib.IsBuilderF 110 5 B b bs w) (hlen : bs.length + 1 ≤ 140737488355328) (hBw : B ≤ w.heap.size) :
    Calls Tryz.prog 82 #[.pointer (some ⟨b, 0, none⟩), .int .u8 c] w fun e w' => e = .returned .nilIface ∧ (Lib.BuilderAtF 110 5 B b (.pointer (some ⟨b, 0, none⟩)) (bs ++ [.int .u8 c]) w' ∧ RowKit.Below B w w' ∧ Lib.OthersKept 5 (some b) w w') := Any.Builder_WriteByte_k lays167 Builder_Extra_167 B b bs c w h hlen hBw
end Go.Proofs.YtnieaeakaajleaaGreatDoor

namespace Go.Proofs.YtnieaeakaajleaaGreatDoor
set_option linter.unusedVariables false
set_option linter.unusedSimpArgs false
open Go.RowKit Go
namespace Pl

theorem bld_below {T e : TypeId} {B b : Nat} {bs : List Value} {w w' : World} (h : Lib.IsBuilderF T e B b bs w) (hb : Below w.heap.size w w') : Lib.IsBuilderF T e B b bs w' := by
  have key : ∀ p, Lib.BuilderAtF T e B b p bs w → Lib.BuilderAtF T e B b p bs w' := fun p h => by
    have hlt := h.lt
    obtain ⟨hB, v, hbk, hown, hne⟩ := h
    exact ⟨hB, v, (hb.block b hlt).trans hbk, hown.kept (row := none) ⟨hb.os, hb.tape, hb.output, hb.size, fun k hk _ => hb.block k hk⟩ (by cases hv : v.ownBlock <;> simp), hne⟩
  exact h.elim (fun x => .inl (key _ x)) (fun x => .inr (key _ x))
theorem cells_app (a b : ByteArray) : Lib.strCells (a ++ b) = Lib.strCells a ++ Lib.strCells b := by simp [Lib.strCells]
theorem cells_nl : Lib.strCells nlB = [.int .u8 10] := rfl
/-- Words that are joined, row by row. -/
def wT (r : ByteArray × List ByteArray) : ByteArray := joinB r.1 r.2
def rowsT (rs : List (ByteArray × List ByteArray)) : ByteArray := rs.foldl (fun o r => o ++ wT r ++ nlB) ⟨#[]⟩
theorem rowsT_snoc (rs : List (ByteArray × List ByteArray)) (r : ByteArray × List ByteArray) : rowsT (rs ++ [r]) = rowsT rs ++ wT r ++ nlB := by simp [rowsT]
theorem rowsT_take {rs : List (ByteArray × List ByteArray)} {q : Nat} (h : q < rs.length) : Lib.strCells (rowsT (rs.take (q + 1))) = Lib.strCells (rowsT (rs.take q)) ++ Lib.strCells (wT rs[q]) ++ [.int .u8 10] := by
  rw [List.take_succ_eq_append_getElem h, rowsT_snoc, cells_app, cells_app, cells_nl]
/-- No row is great. -/
def RowsSm (rs : List (ByteArray × List ByteArray)) : Prop := rs.length ≤ 1000 ∧ ∀ i (h : i < rs.length), rs[i].2.length ≤ 1000 ∧ (wT rs[i]).size ≤ 1000
theorem rowsT_size {rs : List (ByteArray × List ByteArray)} (h : ∀ i (h : i < rs.length), (wT rs[i]).size ≤ 1000) : ∀ q, q ≤ rs.length → (rowsT (rs.take q)).size ≤ 1001 * q := by
  intro q
  induction q with
  | zero => intro _; simp only [List.take_zero, rowsT, List.foldl_nil]; decide
  | succ q ih =>
    intro hq
    have h1 := ih (by omega)
    have h2 := h q (by omega)
    have z := nlB_size
    rw [List.take_succ_eq_append_getElem (by omega), rowsT_snoc, ByteArray.size_append, ByteArray.size_append]
    omega
/-- Rows of words. -/
def RowsW (w : World) (v : Value) (rs : List (ByteArray × List ByteArray)) : Prop := ∃ vs : List Value, ∃ hv : vs.length = rs.length, Row w v vs ∧ ∀ i (h : i < rs.length), Row w (vs[i]'(by omega)) (sv (rs[i].1 :: rs[i].2))
set_option maxRecDepth 100000 in
set_option maxHeartbeats 2000000 in
theorem boardOfW (v : Value) (rs : List (ByteArray × List ByteArray)) (w : World) (hr : RowsW w v rs) (hsm : RowsSm rs) :
    Calls Tryz.prog 50 #[v] w fun e w' => e = .returned (.string (rowsT rs)) ∧ Below w.heap.size w w' := by
  obtain ⟨vs, hvs, hrow, hrows⟩ := hr
  obtain ⟨a, cap, rfl⟩ := hrow.form
  rw [hvs] at hrow ⊢
  have HRW : Hid (Row w (.slice a rs.length cap) vs) := hrow
  have HRS : Hid (∀ i (h : i < rs.length), Row w (vs[i]'(by omega)) (sv (rs[i].1 :: rs[i].2))) := hrows
  obtain ⟨hn, hok⟩ := hsm
  have HOK : Hid (∀ i (hi : i < rs.length), rs[i].2.length ≤ 1000 ∧ (wT rs[i]).size ≤ 1000) := hok
  clear hrow hrows hok
  go_enter Tryz.func50, Tryz.ntmps50
  go_wp2_with fail
  go_loopw [8] (fun i wr => ∃ q : Nat, i = .int .i64 q ∧ q ≤ rs.length ∧ Lib.IsBuilderF 110 5 w.heap.size w.heap.size (Lib.strCells (rowsT (rs.take q))) wr ∧ Below w.heap.size w wr) (fun i _ => rs.length - (intOf i).toNat)
  case atStart =>
    exact ⟨0, rfl, Nat.zero_le _, Lib.IsBuilderF.of (.inl ⟨Nat.le_refl _, _, heap_alloc_new w _, World.ownsRow_nil _ _ _ _, by simp [Value.ownBlock]⟩), (Below.refl _ _).alloc (Nat.le_refl _) _⟩
  case round =>
    obtain ⟨q, rfl, hq, hbu, hb⟩ := hrel
    have HBU : Hid (Lib.IsBuilderF 110 5 w.heap.size w.heap.size (Lib.strCells (rowsT (rs.take q))) wr) := hbu
    clear hbu
    have hs0 := hb.size
    by_cases hlt : q < rs.length
    · obtain ⟨hyl, hts⟩ := HOK.out q hlt
      have hhs : (Lib.strCells (rowsT (rs.take q))).length ≤ 1001000 := by
        rw [Lib.strCells_length]
        exact Nat.le_trans (rowsT_size (fun i h => (HOK.out i h).2) q hq) (by omega)
      have HTK : Hid (Lib.strCells (rowsT (rs.take (q + 1))) = Lib.strCells (rowsT (rs.take q)) ++ Lib.strCells (wT rs[q]) ++ [.int .u8 10]) := rowsT_take hlt
      have hcell : ∃ b off, a = some ⟨b, off, none⟩ ∧ rs.length ≤ cap ∧ wr.cell? ⟨b, off + q, none⟩ = some (vs[q]'(by omega)) := by
        rcases HRW.out.below' hb with ⟨h1, h2⟩ | ⟨b, off, cp, h1, h2, h3, h4, h5⟩
        · rw [h2] at hvs; simp at hvs; omega
        · simp only [Value.slice.injEq] at h1
          obtain ⟨rfl, h6, rfl⟩ := h1
          exact ⟨b, off, rfl, by omega, h5 q _ (List.getElem?_eq_getElem _)⟩
      obtain ⟨b, off, rfl, hcap, hc⟩ := hcell
      have hJ := joinWords (vs[q]'(by omega)) rs[q].1 rs[q].2 (wT rs[q]) wr ((HRS.out q hlt).below' hb) (by omega) rfl (by omega)
      generalize vs[q]'(by omega) = vq at hc hJ
      have HJ : Hid _ := hJ
      clear hJ
      generalize wT rs[q] = t at HJ hts HTK
      clear hyl
      generalize Lib.strCells (rowsT (rs.take q)) = bs at HBU hhs HTK
      go_wp2_with first
        | (go_at_call 81; refine Calls.mono HJ.out ?_; rintro e w3 ⟨rfl, hw3⟩; have HB3 := bld_below HBU.out hw3; have hb3 := bcall hb hs0 hw3; have hs3 := hb3.size)
        | (go_at_call 80; refine (Builder_WriteString_k w.heap.size w.heap.size bs t w3 HB3 (by omega) hs3).mono ?_; rintro e w4 ⟨rfl, HB4, hw4, _⟩; have hb4 := hb3.trans hw4; have hs4 := hb4.size)
        | (go_at_call 82; refine (Builder_WriteByte_k w.heap.size w.heap.size (bs ++ Lib.strCells t) 10 w4 (.inr HB4) (by simp [Lib.strCells_length]; omega) hs4).mono ?_; rintro e w5 ⟨rfl, HB5, hw5, _⟩)
      go_roundw
      case rel => exact ⟨q + 1, by go_num, by omega, by rw [HTK.out]; exact .inr HB5, hb4.trans hw5⟩
      case measure => simp [intOf]; omega
    · have he : rs.take q = rs := List.take_of_length_le (by omega)
      rw [he] at HBU
      have HS : Hid (Calls Tryz.prog 83 #[.pointer (some ⟨w.heap.size, 0, none⟩)] wr fun e w' => e = .returned (.string ⟨(rowsT rs).data.toList.toArray⟩) ∧ (Lib.IsBuilderF 110 5 w.heap.size w.heap.size (Lib.byteCells (rowsT rs).data.toList) w' ∧ Below w.heap.size wr w' ∧ Lib.OthersKept 5 (some w.heap.size) wr w')) := Builder_String_any_k w.heap.size w.heap.size (rowsT rs).data.toList wr HBU.out hb.size
      go_wp2_with (go_at_call 83; refine HS.out.mono ?_; rintro e w2 ⟨rfl, _, hw2, _⟩)
      go_ret
      exact ⟨rfl, hb.trans hw2⟩
end Pl
end Go.Proofs.YtnieaeakaajleaaGreatDoor
