/- The reader of drawn inputs: pick. -/
import Derived.Test.YtkemfifkjaclhaaGreatDoorJ1
import Derived.WalkKit
import Derived.WalkSpells
import Derived.WalkLawsBesides
import Derived.Deep.OwnRows
import Derived.Deep.QuietTactic
import Derived.Deep.RegionWith
import Derived.WalkSmall
import Derived.BigQuiet
namespace Go.Proofs.YtkemfifkjaclhaaGreatDoor
set_option linter.unusedVariables false
set_option linter.unusedSimpArgs false
open Go.RowKit Go

/-- The slice reads, in w, as the numbers zs (of kind k). -/
def IsRow (k : IntKind) (w : World) (a : Option Addr) (len cap : Nat) (zs : List Int) : Prop :=
  zs.length = len ∧ len ≤ cap ∧ cap ≤ maxLen ∧ (0 < len → ∃ b off, a = some ⟨b, off, none⟩ ∧ b < w.heap.size ∧ ∀ i, i < len → w.cell? ⟨b, off + i, none⟩ = some (.int k (zs.getD i 0))) ∧ ∀ n ∈ zs, (Lit.int k n).wf = true
theorem IsRow.len {k : IntKind} {w : World} {a : Option Addr} {len cap : Nat} {zs : List Int} (h : IsRow k w a len cap zs) : zs.length = len ∧ len ≤ maxLen := ⟨h.1, Nat.le_trans h.2.1 h.2.2.1⟩
theorem IsRow.wf {k : IntKind} {w : World} {a : Option Addr} {len cap : Nat} {zs : List Int} (h : IsRow k w a len cap zs) : ∀ n ∈ zs, (Lit.int k n).wf = true := h.2.2.2.2
theorem IsRow.at {k : IntKind} {w : World} {a : Option Addr} {len cap : Nat} {zs : List Int} (h : IsRow k w a len cap zs) {i : Nat} (hi : i < len) : ∃ b off, a = some ⟨b, off, none⟩ ∧ len ≤ cap ∧ b < w.heap.size ∧ w.cell? ⟨b, off + i, none⟩ = some (.int k (zs.getD i 0)) := by
  obtain ⟨b, off, rfl, hb, hc⟩ := h.2.2.2.1 (by omega)
  exact ⟨b, off, rfl, h.2.1, hb, hc i hi⟩
theorem IsRow.below {k : IntKind} {w w' : World} {a : Option Addr} {len cap : Nat} {zs : List Int} (h : IsRow k w a len cap zs) (hb : Below w.heap.size w w') : IsRow k w' a len cap zs := by
  obtain ⟨h1, h2, h3, h4, h5⟩ := h
  refine ⟨h1, h2, h3, fun h => ?_, h5⟩
  obtain ⟨b, off, rfl, hb1, hc⟩ := h4 h
  exact ⟨b, off, rfl, Nat.lt_of_lt_of_le hb1 hb.size, fun i hi => (hb.cell (p := ⟨b, off + i, none⟩) hb1).trans (hc i hi)⟩
theorem IsRow.alloc {k : IntKind} {w : World} {a : Option Addr} {len cap : Nat} {zs : List Int} (h : IsRow k w a len cap zs) (o : Obj) : IsRow k (w.alloc o) a len cap zs := h.below ((Below.refl _ _).alloc (Nat.le_refl _) _)
theorem IsRow.setElse {k : IntKind} {w : World} {B : Nat} {len cap : Nat} {zs : List Int} (h : IsRow k w (some ⟨B, 0, none⟩) len cap zs) {p : Addr} (hp : p.block ≠ B) (u : Value) : IsRow k (w.setCell p u) (some ⟨B, 0, none⟩) len cap zs := by
  obtain ⟨h1, h2, h3, h4, h5⟩ := h
  refine ⟨h1, h2, h3, fun h => ?_, h5⟩
  obtain ⟨b, off, e, hb1, hc⟩ := h4 h
  cases e
  refine ⟨B, 0, rfl, by simpa using hb1, fun i hi => ?_⟩
  rw [← hc i hi]
  exact World.cell?_of_block (w := w) (a := ⟨B, 0 + i, none⟩) (Below.heap_setCell w p u B (fun e => hp e.symm))
theorem getD_at (zs : List Int) (k : Nat) (h : k < zs.length) : zs.getD k 0 = zs[k] := by simp [h]
theorem takeI_snoc (s : List Int) (k : Nat) (h : k < s.length) : s.take (k + 1) = s.take k ++ [s.getD k 0] := by
  rw [List.take_succ_eq_append_getElem h]; simp [h]
theorem bcall {B : Nat} {a w w' : World} (h : Below B a w) (hB : B ≤ w.heap.size) (k : Below w.heap.size w w') : Below B a w' := h.trans (k.mono hB)

/-- What is left of n behind k more (below 0: -1). -/
def lessBy (left k : Int) : Int := if left - k < 0 then -1 else left - k
theorem lessBy_pos {left k : Int} (h : left - k < 0) : lessBy left k = -1 := by unfold lessBy; rw [if_pos h]
theorem lessBy_neg {left k : Int} (h : ¬ left - k < 0) : lessBy left k = left - k := by unfold lessBy; rw [if_neg h]
theorem lessBy_bd {left k : Int} (hk : 0 ≤ k) (hl : -1 ≤ left ∧ left ≤ 1048576) : -1 ≤ lessBy left k ∧ lessBy left k ≤ 1048576 := by unfold lessBy; split <;> omega

/-- The slice reads, in w, as the records xs, each in K cells; P says what the cells of one hold. -/
def IsRecs {α : Type} (K : Nat) (P : World → List Value → α → Prop) (w : World) (a : Option Addr) (len cap : Nat) (xs : List α) : Prop :=
  xs.length = len ∧ len ≤ cap ∧ cap ≤ maxLen ∧ (0 < len → ∃ b off, a = some ⟨b, off, none⟩ ∧ b < w.heap.size ∧ ∀ i (h : i < xs.length), ∃ vs : List Value, vs.length = K ∧ (∀ j (hj : j < vs.length), w.cell? ⟨b, off + i * K + j, none⟩ = some vs[j]) ∧ P w vs xs[i])
/-- What P says lasts. -/
def Lasts {α : Type} (P : World → List Value → α → Prop) : Prop := ∀ (w w' : World) (vs : List Value) (x : α), Below w.heap.size w w' → P w vs x → P w' vs x
theorem IsRecs.len {α : Type} {K : Nat} {P : World → List Value → α → Prop} {w : World} {a : Option Addr} {len cap : Nat} {xs : List α} (h : IsRecs K P w a len cap xs) : xs.length = len ∧ len ≤ maxLen := ⟨h.1, Nat.le_trans h.2.1 h.2.2.1⟩
theorem IsRecs.at {α : Type} {K : Nat} {P : World → List Value → α → Prop} {w : World} {a : Option Addr} {len cap : Nat} {xs : List α} (h : IsRecs K P w a len cap xs) {i : Nat} (hi : i < xs.length) :
    ∃ b off, a = some ⟨b, off, none⟩ ∧ len ≤ cap ∧ b < w.heap.size ∧ ∃ vs : List Value, vs.length = K ∧ (∀ j (hj : j < vs.length), w.cell? ⟨b, off + i * K + j, none⟩ = some vs[j]) ∧ P w vs xs[i] := by
  obtain ⟨b, off, rfl, hb, hc⟩ := h.2.2.2 (by have := h.1; omega)
  exact ⟨b, off, rfl, h.2.1, hb, hc i hi⟩
theorem IsRecs.below {α : Type} {K : Nat} {P : World → List Value → α → Prop} (hP : Lasts P) {w w' : World} {a : Option Addr} {len cap : Nat} {xs : List α} (h : IsRecs K P w a len cap xs) (hb : Below w.heap.size w w') : IsRecs K P w' a len cap xs := by
  obtain ⟨h1, h2, h3, h4⟩ := h
  refine ⟨h1, h2, h3, fun h => ?_⟩
  obtain ⟨b, off, rfl, hb1, hc⟩ := h4 h
  refine ⟨b, off, rfl, Nat.lt_of_lt_of_le hb1 hb.size, fun i hi => ?_⟩
  obtain ⟨vs, hv, hcs, hp⟩ := hc i hi
  exact ⟨vs, hv, fun j hj => (hb.cell (p := ⟨b, off + i * K + j, none⟩) hb1).trans (hcs j hj), hP _ _ _ _ hb hp⟩
theorem IsRecs.alloc {α : Type} {K : Nat} {P : World → List Value → α → Prop} (hP : Lasts P) {w : World} {a : Option Addr} {len cap : Nat} {xs : List α} (h : IsRecs K P w a len cap xs) (o : Obj) : IsRecs K P (w.alloc o) a len cap xs := h.below hP ((Below.refl _ _).alloc (Nat.le_refl _) _)

/-- make([]T, n), T of several cells: a new row of zero values. -/
theorem run_make_recs {P : Program} (t e : TypeId) (z : Value) (size bytes : Nat) (ht : P.underlying t = some (.slice e)) (hinfo : (P.info? e).map (fun i => (i.zero, i.size, i.bytes)) = some (some z, size, bytes))
    (kl kc : IntKind) (n : Nat) (hbytes : bytes * n ≤ 281474976710656) (h63 : n ≤ 9223372036854775807) (w : World) :
    (Instr.makeSlice t (.int kl (n : Int)) (.int kc (n : Int))).run P w = .ok (.slice (some ⟨w.heap.size, 0, none⟩) n n) (w.alloc (.cells (madeCells z.cells (n * size)) e)) := by
  obtain ⟨i, hi, hzz⟩ := Option.map_eq_some_iff.1 hinfo
  simp only [Prod.mk.injEq] at hzz
  obtain ⟨hz, hs, hb⟩ := hzz
  have hb' : (i.bytes : Int) * (n : Int) ≤ 281474976710656 := by
    have h : ((i.bytes * n : Nat) : Int) ≤ 281474976710656 := by rw [hb]; omega
    rwa [Int.natCast_mul] at h
  have hr := run_make (P := P) w t e i z ht hi hz kl kc n n (by omega) (Int.le_refl _) hb' (by omega)
  simp only [Int.toNat_natCast, hs] at hr
  exact hr
/-- The block N holds these cells. -/
def Holds (w : World) (N : Nat) (t : TypeId) (cur : Array Value) : Prop := w.heap[N]? = some (.cells cur t (0, 0))
theorem Holds.set {w : World} {N : Nat} {t : TypeId} {cur : Array Value} (h : Holds w N t cur) (i : Nat) (v : Value) : Holds (w.setCell ⟨N, i, none⟩ v) N t (cur.setIfInBounds i v) := heap_setCell_same _ _ _ _ _ _ h
theorem Holds.cell {w : World} {N : Nat} {t : TypeId} {cur : Array Value} (h : Holds w N t cur) (i : Nat) : w.cell? ⟨N, i, none⟩ = cur[i]? := cell_of_row _ _ _ _ _ _ h
theorem Holds.frozen {w : World} {N : Nat} {t : TypeId} {cur : Array Value} (h : Holds w N t cur) (i : Nat) : w.frozen? ⟨N, i, none⟩ = false := frozen_of_row _ _ _ _ _ h
theorem Holds.below {w w' : World} {N : Nat} {t : TypeId} {cur : Array Value} (h : Holds w N t cur) (hb : Below w.heap.size w w') : Holds w' N t cur := by
  unfold Holds at h ⊢
  rw [hb.block N (by rw [Array.getElem?_eq_some_iff] at h; exact h.1)]; exact h
theorem Holds.lt {w : World} {N : Nat} {t : TypeId} {cur : Array Value} (h : Holds w N t cur) : N < w.heap.size := by
  unfold Holds at h; rw [Array.getElem?_eq_some_iff] at h; exact h.1
/-- Five cells are set, one behind the other. -/
theorem Holds.set5 {w : World} {N : Nat} {t : TypeId} {cur : Array Value} (h : Holds w N t cur) (k : Nat) (v0 v1 v2 v3 v4 : Value) (hs : k + 4 < cur.size) :
    ∃ cur', Holds (((((w.setCell ⟨N, k, none⟩ v0).setCell ⟨N, k + 1, none⟩ v1).setCell ⟨N, k + 2, none⟩ v2).setCell ⟨N, k + 3, none⟩ v3).setCell ⟨N, k + 4, none⟩ v4) N t cur' ∧ cur'.size = cur.size ∧ (∀ j, j < k ∨ k + 5 ≤ j → cur'[j]? = cur[j]?) ∧ cur'[k]? = some v0 ∧ cur'[k + 1]? = some v1 ∧ cur'[k + 2]? = some v2 ∧ cur'[k + 3]? = some v3 ∧ cur'[k + 4]? = some v4 := by
  refine ⟨_, ((((h.set k v0).set (k + 1) v1).set (k + 2) v2).set (k + 3) v3).set (k + 4) v4, by simp, fun j hj => ?_, ?_, ?_, ?_, ?_, ?_⟩
  · rw [Array.getElem?_setIfInBounds_ne (by omega), Array.getElem?_setIfInBounds_ne (by omega), Array.getElem?_setIfInBounds_ne (by omega), Array.getElem?_setIfInBounds_ne (by omega), Array.getElem?_setIfInBounds_ne (by omega)]
  · rw [Array.getElem?_setIfInBounds_ne (by omega), Array.getElem?_setIfInBounds_ne (by omega), Array.getElem?_setIfInBounds_ne (by omega), Array.getElem?_setIfInBounds_ne (by omega), Array.getElem?_setIfInBounds_self_of_lt (by first | omega | (simp only [Array.size_setIfInBounds]; omega))]
  · rw [Array.getElem?_setIfInBounds_ne (by omega), Array.getElem?_setIfInBounds_ne (by omega), Array.getElem?_setIfInBounds_ne (by omega), Array.getElem?_setIfInBounds_self_of_lt (by first | omega | (simp only [Array.size_setIfInBounds]; omega))]
  · rw [Array.getElem?_setIfInBounds_ne (by omega), Array.getElem?_setIfInBounds_ne (by omega), Array.getElem?_setIfInBounds_self_of_lt (by first | omega | (simp only [Array.size_setIfInBounds]; omega))]
  · rw [Array.getElem?_setIfInBounds_ne (by omega), Array.getElem?_setIfInBounds_self_of_lt (by first | omega | (simp only [Array.size_setIfInBounds]; omega))]
  · rw [Array.getElem?_setIfInBounds_self_of_lt (by first | omega | (simp only [Array.size_setIfInBounds]; omega))]
theorem IsRow.set5 {k : IntKind} {w : World} {B : Nat} {len cap : Nat} {zs : List Int} (h : IsRow k w (some ⟨B, 0, none⟩) len cap zs) {N : Nat} (hp : N ≠ B) (o : Nat) (v0 v1 v2 v3 v4 : Value) : IsRow k (((((w.setCell ⟨N, o, none⟩ v0).setCell ⟨N, o + 1, none⟩ v1).setCell ⟨N, o + 2, none⟩ v2).setCell ⟨N, o + 3, none⟩ v3).setCell ⟨N, o + 4, none⟩ v4) (some ⟨B, 0, none⟩) len cap zs :=
  ((((h.setElse hp _).setElse hp _).setElse hp _).setElse hp _).setElse hp _
theorem below_set5 {B : Nat} {a w : World} (h : Below B a w) {N : Nat} (hN : B ≤ N) (o : Nat) (v0 v1 v2 v3 v4 : Value) : Below B a (((((w.setCell ⟨N, o, none⟩ v0).setCell ⟨N, o + 1, none⟩ v1).setCell ⟨N, o + 2, none⟩ v2).setCell ⟨N, o + 3, none⟩ v3).setCell ⟨N, o + 4, none⟩ v4) :=
  ((((h.setCell hN _).setCell hN _).setCell hN _).setCell hN _).setCell hN _
/-- A record of five that was laid in a block of its own: it is there later, too. -/
theorem box5 {w V : World} {v0 v1 v2 v3 v4 : Value} {t : TypeId} (h : Below (w.heap.size + 1) (w.alloc (.cells #[v0, v1, v2, v3, v4] t)) V) :
    V.cell? ⟨w.heap.size, 0, none⟩ = some v0 ∧ V.cell? ⟨w.heap.size, 1, none⟩ = some v1 ∧ V.cell? ⟨w.heap.size, 2, none⟩ = some v2 ∧ V.cell? ⟨w.heap.size, 3, none⟩ = some v3 ∧ V.cell? ⟨w.heap.size, 4, none⟩ = some v4 :=
  ⟨(h.cell (p := ⟨w.heap.size, 0, none⟩) (Nat.lt_succ_self _)).trans (by rw [World.cell?_alloc_new]; rfl), (h.cell (p := ⟨w.heap.size, 1, none⟩) (Nat.lt_succ_self _)).trans (by rw [World.cell?_alloc_new]; rfl),
   (h.cell (p := ⟨w.heap.size, 2, none⟩) (Nat.lt_succ_self _)).trans (by rw [World.cell?_alloc_new]; rfl), (h.cell (p := ⟨w.heap.size, 3, none⟩) (Nat.lt_succ_self _)).trans (by rw [World.cell?_alloc_new]; rfl),
   (h.cell (p := ⟨w.heap.size, 4, none⟩) (Nat.lt_succ_self _)).trans (by rw [World.cell?_alloc_new]; rfl)⟩
/-- What stood ahead of a box stands behind it, too. -/
theorem unbox {w V : World} {o : Obj} (h : Below (w.heap.size + 1) (w.alloc o) V) : Below w.heap.size w V := ((Below.refl _ _).alloc (Nat.le_refl _) _).trans (h.mono (Nat.le_succ _))
end Go.Proofs.YtkemfifkjaclhaaGreatDoor

namespace Go.Proofs.YtkemfifkjaclhaaGreatDoor
set_option linter.unusedVariables false
set_option linter.unusedSimpArgs false
open Go.RowKit Go
namespace Dr

/-- A reader: where it lies, its bytes, how far it has come. -/
structure Rd (w : World) (R : Nat) (a : Option Addr) (len cap : Nat) (bs : List Int) (p : Int) : Prop where
  own : Holds w R 62 #[.slice a len cap, .int .i64 p]
  row : IsRow .u8 w a len cap bs
  low : 0 < len → ∀ b off, a = some ⟨b, off, none⟩ → b < R
  few : len ≤ 2000
  far : 0 ≤ p ∧ p ≤ 1000000000
/-- All but one block is as it was. -/
structure Keeps (R : Nat) (w w' : World) : Prop where
  os : w'.os = w.os
  tape : w'.tape = w.tape
  output : w'.output = w.output
  size : w.heap.size ≤ w'.heap.size
  block : ∀ k, k < w.heap.size → k ≠ R → w'.heap[k]? = w.heap[k]?
theorem Keeps.refl (R : Nat) (w : World) : Keeps R w w := ⟨rfl, rfl, rfl, Nat.le_refl _, fun _ _ _ => rfl⟩
theorem Keeps.trans {R : Nat} {a b c : World} (h : Keeps R a b) (k : Keeps R b c) : Keeps R a c := ⟨k.os.trans h.os, k.tape.trans h.tape, k.output.trans h.output, Nat.le_trans h.size k.size, fun i h1 h2 => (k.block i (Nat.lt_of_lt_of_le h1 h.size) h2).trans (h.block i h1 h2)⟩
theorem Keeps.of_below {R : Nat} {a b : World} (h : Below a.heap.size a b) : Keeps R a b := ⟨h.os, h.tape, h.output, h.size, fun i h1 _ => h.block i h1⟩
theorem Keeps.below {R B : Nat} {a b : World} (h : Keeps R a b) (hB : B ≤ R) (hs : B ≤ a.heap.size) : Below B a b := ⟨h.os, h.tape, h.output, h.size, fun i hi => h.block i (by omega) (by omega)⟩
theorem Keeps.row {R : Nat} {k : IntKind} {w w' : World} {a : Option Addr} {len cap : Nat} {zs : List Int} (h : IsRow k w a len cap zs) (hk : Keeps R w w') (hf : 0 < len → ∀ b off, a = some ⟨b, off, none⟩ → b ≠ R) : IsRow k w' a len cap zs := by
  obtain ⟨h1, h2, h3, h4, h5⟩ := h
  refine ⟨h1, h2, h3, fun hl => ?_, h5⟩
  obtain ⟨b, off, rfl, hb1, hc⟩ := h4 hl
  refine ⟨b, off, rfl, Nat.lt_of_lt_of_le hb1 hk.size, fun i hi => ?_⟩
  rw [← hc i hi]
  exact World.cell?_of_block (a := ⟨b, off + i, none⟩) (hk.block b hb1 (hf hl b off rfl))
theorem wf_byte {n : Int} (h : (Lit.int .u8 n).wf = true) : 0 ≤ n ∧ n ≤ 255 := by
  have e1 : IntKind.u8.min = 0 := by decide
  have e2 : IntKind.u8.max = 255 := by decide
  simpa only [Lit.wf, e1, e2, Bool.and_eq_true, decide_eq_true_eq] using h
theorem byte_at {w : World} {a : Option Addr} {len cap : Nat} {bs : List Int} (h : IsRow .u8 w a len cap bs) {i : Nat} (hi : i < len) : 0 ≤ bs.getD i 0 ∧ bs.getD i 0 ≤ 255 := by
  have hl := h.len.1
  rw [getD_at bs i (by omega)]
  exact wf_byte (h.wf _ (List.getElem_mem _))

theorem xor_low {x y : Int} (hx : 0 ≤ x ∧ x < 4611686018427387904) (hy : 0 ≤ y ∧ y < 4611686018427387904) : 0 ≤ bits .xor .i64 x y := by
  obtain ⟨a, rfl⟩ := Int.eq_ofNat_of_zero_le hx.1
  obtain ⟨b, rfl⟩ := Int.eq_ofNat_of_zero_le hy.1
  have ha : a < 2 ^ 62 := by have := hx.2; omega
  have hb : b < 2 ^ 62 := by have := hy.2; omega
  have h := Nat.xor_lt_two_pow ha hb
  have e : bits .xor .i64 (a : Int) (b : Int) = IntKind.i64.wrap ((a ^^^ b : Nat) : Int) := by
    unfold bits
    simp only [BitVec.toNat_xor]
    have e64 : IntKind.i64.bits = 64 := rfl
    rw [e64]
    have h1 : (BitVec.ofInt 64 (a : Int)).toNat = a := by rw [BitVec.toNat_ofInt]; omega
    have h2 : (BitVec.ofInt 64 (b : Int)).toNat = b := by rw [BitVec.toNat_ofInt]; omega
    rw [h1, h2]
  rw [e, IntKind.wrap_i64]
  omega
def Picked (n v : Int) : Prop := 0 ≤ v ∧ (1 ≤ n → v < n) ∧ (n < 1 → v = 0)
set_option maxRecDepth 4000 in
set_option maxHeartbeats 2000000 in
theorem pick (R : Nat) (a : Option Addr) (len cap : Nat) (bs : List Int) (p n : Int) (w : World) (h : Rd w R a len cap bs p) (hp : p ≤ 999999999) (hn : n ≤ 1000000000) :
    Calls Tryz.prog 15 #[.pointer (some ⟨R, 0, none⟩), .int .i64 n] w fun e w' => (∃ v : Int, e = .returned (.int .i64 v) ∧ Picked n v) ∧ Rd w' R a len cap bs (p + 1) ∧ Keeps R w w' := by
  obtain ⟨hown, hrow, hlow, hfew, hfar⟩ := h
  have c0 := hown.cell 0
  have c1 := hown.cell 1
  have f1 := hown.frozen 1
  simp at c0 c1
  have HH : Hid _ := hown.set 1 (.int .i64 (p + 1))
  have HK : Hid (Keeps R w (w.setCell ⟨R, 1, none⟩ (.int .i64 (p + 1)))) := by
    have hb := (Below.refl 0 w).setCell (p := ⟨R, 1, none⟩) (Nat.zero_le _) (.int .i64 (p + 1))
    exact ⟨hb.os, hb.tape, hb.output, hb.size, fun k _ hk => Below.heap_setCell w ⟨R, 1, none⟩ _ k hk⟩
  have HR : Hid (IsRow .u8 w a len cap bs) := hrow
  have HLOW : Hid (0 < len → ∀ b off, a = some ⟨b, off, none⟩ → b < R) := hlow
  have HRD : Hid (∀ w', Keeps R (w.setCell ⟨R, 1, none⟩ (.int .i64 (p + 1))) w' → w'.heap[R]? = (w.setCell ⟨R, 1, none⟩ (.int .i64 (p + 1))).heap[R]? → Rd w' R a len cap bs (p + 1) ∧ Keeps R w w') := fun w' hk he => by
    refine ⟨⟨?_, Keeps.row HR.out (HK.out.trans hk) (fun hl b off e => by have := HLOW.out hl b off e; omega), HLOW.out, hfew, by omega⟩, HK.out.trans hk⟩
    have := HH.out
    unfold Holds at this ⊢
    rw [he, this]
    rfl
  clear hown hrow hlow
  by_cases hn1 : n < 1
  · go_enter Tryz.func15, Tryz.ntmps15
    go_wp2_with fail
    go_ret
    exact ⟨⟨0, rfl, Int.le_refl _, fun h => by omega, fun _ => rfl⟩, HRD.out _ (Keeps.refl _ _) rfl⟩
  by_cases hl0 : len = 0
  · subst hl0
    go_enter Tryz.func15, Tryz.ntmps15
    go_wp2_with fail
    go_ret
    exact ⟨⟨0, rfl, Int.le_refl _, fun h => by omega, fun _ => rfl⟩, HRD.out _ (Keeps.refl _ _) rfl⟩
  obtain ⟨k, rfl⟩ : ∃ k : Nat, p = (k : Int) := ⟨p.toNat, by omega⟩
  have hl1 : 0 < len := by omega
  by_cases hk : k < len
  · obtain ⟨b, off, rfl, h1, h2, hc⟩ := IsRow.at HR.out hk
    obtain ⟨z0, z1⟩ := byte_at HR.out hk
    have hbR : b ≠ R := by have := HLOW.out hl1 b off rfl; omega
    have hkl : (k : Int) < (len : Int) := by omega
    generalize bs.getD k 0 = z at hc z0 z1
    have t1 : 0 ≤ z % n := Int.emod_nonneg _ (by omega)
    have t2 : z % n < n := Int.emod_lt_of_pos _ (by omega)
    go_enter Tryz.func15, Tryz.ntmps15
    go_wp2_with fail
    go_ret
    exact ⟨⟨_, rfl, t1, fun _ => t2, fun h => by omega⟩, HRD.out _ (Keeps.refl _ _) rfl⟩
  · have m1 : k % len < len := Nat.mod_lt _ hl1
    have m2 : (k * 7 + 3) % len < len := Nat.mod_lt _ hl1
    obtain ⟨b, off, rfl, h1, h2, hc1⟩ := IsRow.at HR.out m1
    obtain ⟨b', off', e', _, _, hc2⟩ := IsRow.at HR.out m2
    simp only [Option.some.injEq, Addr.mk.injEq, and_true] at e'
    obtain ⟨rfl, rfl⟩ := e'
    obtain ⟨z0, z1⟩ := byte_at HR.out m1
    obtain ⟨y0, y1⟩ := byte_at HR.out m2
    have hbR : b ≠ R := by have := HLOW.out hl1 b off rfl; omega
    have e1 : (k : Int) % (len : Int) = ((k % len : Nat) : Int) := rfl
    have e2 : ((k : Int) * 7 + 3) % (len : Int) = (((k * 7 + 3) % len : Nat) : Int) := rfl
    generalize k % len = i1 at m1 hc1 z0 z1 e1
    generalize (k * 7 + 3) % len = i2 at m2 hc2 y0 y1 e2
    generalize bs.getD i1 0 = z at hc1 z0 z1
    generalize bs.getD i2 0 = y at hc2 y0 y1
    go_enter Tryz.func15, Tryz.ntmps15
    go_wp2_with fail
    go_quiet (fail)
    have w1 : 0 ≤ (k : Int) / (len : Int) ∧ (k : Int) / (len : Int) ≤ 1000000000 := ⟨Int.ediv_nonneg (by omega) (by omega), Int.le_trans (Int.ediv_le_self _ (by omega)) (by omega)⟩
    have w2 : wrap64 ((k : Int) / (len : Int)) = (k : Int) / (len : Int) := wrap64_id _ (by omega) (by omega)
    have HX : Hid (0 ≤ wrap64 (z * 131 + y * 1117 + (k : Int) * 29 + wrap64 (wrap64 ((k : Int) / (len : Int)) * 53)) ∧ wrap64 (z * 131 + y * 1117 + (k : Int) * 29 + wrap64 (wrap64 ((k : Int) / (len : Int)) * 53)) < 4611686018427387904) := by
      show _ ∧ _
      rw [w2]
      generalize (k : Int) / (len : Int) = u at w1
      rw [wrap64_id (u * 53) (by omega) (by omega), wrap64_id _ (by omega) (by omega)]
      omega
    clear w1 w2
    go_wp2_with fail
    generalize wrap64 (z * 131 + y * 1117 + (k : Int) * 29 + wrap64 (wrap64 ((k : Int) / (len : Int)) * 53)) = X at HX ⊢
    have hX := HX.out
    have hD : 0 ≤ X.tdiv 64 ∧ X.tdiv 64 ≤ X := by rw [Int.tdiv_eq_ediv_of_nonneg hX.1]; omega
    rw [wrap64_id (X.tdiv 64) (by omega) (by omega)]
    have hxo := xor_low (x := X) (y := X.tdiv 64) hX (by omega)
    generalize bits BinOp.xor IntKind.i64 X (X.tdiv 64) = Y at hxo ⊢
    have t1 : 0 ≤ Y.tmod n := Int.tmod_nonneg _ hxo
    have t2 : Y.tmod n < n := Int.tmod_lt_of_pos _ (by omega)
    go_ret
    refine ⟨⟨_, rfl, t1, fun _ => t2, fun h => by omega⟩, HRD.out _ ?_ rfl⟩
    have hb := below_drewN (Below.refl (w.setCell ⟨R, 1, none⟩ (.int .i64 ((k : Int) + 1))).heap.size (w.setCell ⟨R, 1, none⟩ (.int .i64 ((k : Int) + 1)))) nq
    exact Keeps.of_below hb
end Dr
end Go.Proofs.YtkemfifkjaclhaaGreatDoor
