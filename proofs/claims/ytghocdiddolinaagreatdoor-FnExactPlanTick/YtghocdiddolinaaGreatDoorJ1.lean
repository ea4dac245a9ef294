/- The law's comparison of numbers. -/
import Derived.Test.YtghocdiddolinaaGreatDoorProg
import Derived.WalkKit
import Derived.WalkSpells
import Derived.WalkLawsBesides
import Derived.Deep.OwnRows
import Derived.Deep.QuietTactic
import Derived.Deep.RegionWith
import Derived.WalkSmall
namespace Go.Proofs.YtghocdiddolinaaGreatDoor
set_option linter.unusedVariables false
set_option linter.unusedSimpArgs false
open Go.RowKit

/-- The slice v reads, in w, as the values xs (one cell an element). -/
def Row (w : World) (v : Value) (xs : List Value) : Prop :=
  (v = .slice none 0 0 ∧ xs = []) ∨
  ∃ b off cap, v = .slice (some ⟨b, off, none⟩) xs.length cap ∧ xs.length ≤ cap ∧ cap ≤ maxLen ∧ b < w.heap.size ∧ ∀ i x, xs[i]? = some x → w.cell? ⟨b, off + i, none⟩ = some x

theorem Row.form {w : World} {v : Value} {xs : List Value} (h : Row w v xs) : ∃ a cap, v = .slice a xs.length cap := by
  rcases h with ⟨rfl, rfl⟩ | ⟨b, off, cap, rfl, _⟩
  · exact ⟨none, 0, rfl⟩
  · exact ⟨_, _, rfl⟩
theorem Row.max {w : World} {v : Value} {xs : List Value} (h : Row w v xs) : xs.length ≤ 9223372036854775807 := by
  rcases h with ⟨rfl, rfl⟩ | ⟨b, off, cap, rfl, h1, h2, _⟩
  · simp
  · unfold maxLen at h2; omega
theorem Row.nil (w : World) : Row w (.slice none 0 0) [] := .inl ⟨rfl, rfl⟩
theorem Row.later {w w' : World} {v : Value} {xs : List Value} (h : Row w v xs) {B : Nat} (hB : w.heap.size ≤ B) (hb : Below B w w') : Row w' v xs := by
  rcases h with h | ⟨b, off, cap, rfl, h1, h2, hbl, hc⟩
  · exact .inl h
  · exact .inr ⟨b, off, cap, rfl, h1, h2, Nat.lt_of_lt_of_le hbl hb.size, fun i x hx => (hb.cell (p := ⟨b, off + i, none⟩) (Nat.lt_of_lt_of_le hbl hB)).trans (hc i x hx)⟩
theorem Row.below {w w' : World} {v : Value} {xs : List Value} (h : Row w v xs) (hb : Below w.heap.size w w') : Row w' v xs := h.later (Nat.le_refl _) hb
theorem Row.alloc {w : World} {v : Value} {xs : List Value} (h : Row w v xs) (o : Obj) : Row (w.alloc o) v xs := h.below ((Below.refl _ _).alloc (Nat.le_refl _) _)
theorem Row.drew {w : World} {v : Value} {xs : List Value} (h : Row w v xs) : Row w.drew v xs := h.below (Below.refl _ _).drew
theorem Row.owned {w : World} {base : Nat} {e : TypeId} {v : Value} {n : Nat} {xs : List Value} (h : w.ownsRow base e 1 v n xs) : Row w v xs := by
  obtain ⟨hl, h⟩ := h
  have hl' : xs.length = n := by omega
  rcases h with ⟨rfl, rfl⟩ | ⟨g, cap, cur, rfl, hb, hg, h1, h2, h3, h4⟩
  · exact .inl ⟨rfl, List.length_eq_zero_iff.1 hl'⟩
  · subst hl'
    refine .inr ⟨g, 0, cap, rfl, h1, h2, ?_, ?_⟩
    · rw [Array.getElem?_eq_some_iff] at hg; exact hg.1
    · intro i x hx
      rw [cell_of_row _ _ _ _ _ _ hg]
      simp only [Nat.mul_one] at h4
      rw [← h4] at hx
      have := List.getElem?_take (l := cur.toList) (i := xs.length) (j := i)
      rw [this] at hx
      split at hx
      · simpa using hx
      · cases hx

theorem Row.made (w : World) (xs : List Value) (t : TypeId) (h : xs.length ≤ maxLen) : Row (w.alloc (.cells xs.toArray t)) (.slice (some ⟨w.heap.size, 0, none⟩) xs.length xs.length) xs :=
  .inr ⟨w.heap.size, 0, xs.length, rfl, Nat.le_refl _, h, by simp, fun i x hx => by rw [Nat.zero_add, World.cell?_alloc_new]; simpa using hx⟩
theorem own_below {w w' : World} {base : Nat} {e : TypeId} {size : Nat} {v : Value} {n : Nat} {xs : List Value} (h : w.ownsRow base e size v n xs) (hb : Below w.heap.size w w') : w'.ownsRow base e size v n xs :=
  h.kept (row := none) ⟨hb.os, hb.tape, hb.output, hb.size, fun k hk _ => hb.block k hk⟩ (by cases hv : v.ownBlock <;> simp)
/-- One element, by its place. -/
theorem Row.at {w : World} {a : Option Addr} {n cap : Nat} {xs : List Value} (h : Row w (.slice a n cap) xs) {k : Nat} (hk : k < xs.length) :
    ∃ b off, a = some ⟨b, off, none⟩ ∧ n ≤ cap ∧ b < w.heap.size ∧ w.cell? ⟨b, off + k, none⟩ = some xs[k] := by
  rcases h with ⟨h, rfl⟩ | ⟨b, off, cap', h, h1, h2, hbl, hc⟩
  · simp at hk
  · simp only [Value.slice.injEq] at h
    obtain ⟨rfl, rfl, rfl⟩ := h
    exact ⟨b, off, rfl, h1, hbl, hc k _ (List.getElem?_eq_getElem hk)⟩

/-- Strings as values. -/
def sv (ss : List ByteArray) : List Value := ss.map Value.string
theorem sv_len (ss : List ByteArray) : (sv ss).length = ss.length := by simp [sv]
theorem sv_at (ss : List ByteArray) (k : Nat) (h : k < (sv ss).length) : (sv ss)[k] = .string (ss[k]'(by simpa [sv] using h)) := by simp [sv]
theorem sv_app (a b : List ByteArray) : sv (a ++ b) = sv a ++ sv b := by simp [sv]

theorem bcell {W w1 : World} (hb : Below W.heap.size W w1) : (∀ b o, b < W.heap.size → w1.cell? ⟨b, o, none⟩ = W.cell? ⟨b, o, none⟩) ∧ (∀ b o, b < W.heap.size → w1.frozen? ⟨b, o, none⟩ = W.frozen? ⟨b, o, none⟩) :=
  ⟨fun b o h => hb.cell (p := ⟨b, o, none⟩) h, fun b o h => hb.frozen (p := ⟨b, o, none⟩) h⟩
theorem ret_bool {a b : Bool} (h : a = b) : Ending.returned (.bool a) = .returned (.bool b) := by rw [h]
theorem ret_int {k : IntKind} {a b : Int} (h : a = b) : Ending.returned (.int k a) = .returned (.int k b) := by rw [h]
theorem take_snoc (s : ByteArray) (k : Nat) (h : k < s.size) : s.data.toList.take (k + 1) = s.data.toList.take k ++ [s[k]] := by
  rw [List.take_succ_eq_append_getElem (by simpa using h)]; rfl
theorem wrap64_id (x : Int) (h0 : -9223372036854775808 ≤ x) (h1 : x ≤ 9223372036854775807) : wrap64 x = x := by unfold wrap64; omega
end Go.Proofs.YtghocdiddolinaaGreatDoor

namespace Go.Proofs.YtghocdiddolinaaGreatDoor
set_option linter.unusedVariables false
set_option linter.unusedSimpArgs false
open Go.RowKit Go

/-- The slice reads, in w, as the numbers zs (of kind k). -/
def IsRow (k : IntKind) (w : World) (a : Option Addr) (len cap : Nat) (zs : List Int) : Prop :=
  zs.length = len ∧ len ≤ cap ∧ cap ≤ maxLen ∧ (0 < len → ∃ b off, a = some ⟨b, off, none⟩ ∧ b < w.heap.size ∧ ∀ i, i < len → w.cell? ⟨b, off + i, none⟩ = some (.int k (zs.getD i 0))) ∧ ∀ n ∈ zs, (Lit.int k n).wf = true
theorem IsRow.len {k : IntKind} {w : World} {a : Option Addr} {len cap : Nat} {zs : List Int} (h : IsRow k w a len cap zs) : zs.length = len ∧ len ≤ maxLen := ⟨h.1, Nat.le_trans h.2.1 h.2.2.1⟩
theorem IsRow.wf {k : IntKind} {w : World} {a : Option Addr} {len cap : Nat} {zs : List Int} (h : IsRow k w a len cap zs) : ∀ n ∈ zs, (Lit.int k n).wf = true := h.2.2.2.2
theorem IsRow.at {k : IntKind} {w : World} {a : Option Addr} {len cap : Nat} {zs : List Int} (h : IsRow k w a len cap zs) {i : Nat} (hi : i < len) : ∃ b off, a = some ⟨b, off, none⟩ ∧ len ≤ cap ∧ b < w.heap.size ∧ w.cell? ⟨b, off + i, none⟩ = some (.int k (zs.getD i 0)) := by
  obtain ⟨b, off, rfl, hb, hc⟩ := h.2.2.2.1 (by omega)
  exact ⟨b, off, rfl, h.2.1, hb, hc i hi⟩
theorem IsRow.below {k : IntKind} {w w' : World} {a : Option Addr} {len cap : Nat} {zs : List Int} (h : IsRow k w a len cap zs) (hb : Below w.heap.size w w') : IsRow k w' a len cap zs := by
  obtain ⟨h1, h2, h3, h4, h5⟩ := h
  refine ⟨h1, h2, h3, fun h => ?_, h5⟩
  obtain ⟨b, off, rfl, hb1, hc⟩ := h4 h
  exact ⟨b, off, rfl, Nat.lt_of_lt_of_le hb1 hb.size, fun i hi => (hb.cell (p := ⟨b, off + i, none⟩) hb1).trans (hc i hi)⟩
theorem IsRow.alloc {k : IntKind} {w : World} {a : Option Addr} {len cap : Nat} {zs : List Int} (h : IsRow k w a len cap zs) (o : Obj) : IsRow k (w.alloc o) a len cap zs := h.below ((Below.refl _ _).alloc (Nat.le_refl _) _)
theorem IsRow.setElse {k : IntKind} {w : World} {B : Nat} {len cap : Nat} {zs : List Int} (h : IsRow k w (some ⟨B, 0, none⟩) len cap zs) {p : Addr} (hp : p.block ≠ B) (u : Value) : IsRow k (w.setCell p u) (some ⟨B, 0, none⟩) len cap zs := by
  obtain ⟨h1, h2, h3, h4, h5⟩ := h
  refine ⟨h1, h2, h3, fun h => ?_, h5⟩
  obtain ⟨b, off, e, hb1, hc⟩ := h4 h
  cases e
  refine ⟨B, 0, rfl, by simpa using hb1, fun i hi => ?_⟩
  rw [← hc i hi]
  exact World.cell?_of_block (w := w) (a := ⟨B, 0 + i, none⟩) (Below.heap_setCell w p u B (fun e => hp e.symm))
theorem getD_at (zs : List Int) (k : Nat) (h : k < zs.length) : zs.getD k 0 = zs[k] := by simp [h]
theorem takeI_snoc (s : List Int) (k : Nat) (h : k < s.length) : s.take (k + 1) = s.take k ++ [s.getD k 0] := by
  rw [List.take_succ_eq_append_getElem h]; simp [h]
theorem bcall {B : Nat} {a w w' : World} (h : Below B a w) (hB : B ≤ w.heap.size) (k : Below w.heap.size w w') : Below B a w' := h.trans (k.mono hB)

/-- What is left of n behind k more (below 0: -1). -/
def lessBy (left k : Int) : Int := if left - k < 0 then -1 else left - k
theorem lessBy_pos {left k : Int} (h : left - k < 0) : lessBy left k = -1 := by unfold lessBy; rw [if_pos h]
theorem lessBy_neg {left k : Int} (h : ¬ left - k < 0) : lessBy left k = left - k := by unfold lessBy; rw [if_neg h]
theorem lessBy_bd {left k : Int} (hk : 0 ≤ k) (hl : -1 ≤ left ∧ left ≤ 1048576) : -1 ≤ lessBy left k ∧ lessBy left k ≤ 1048576 := by unfold lessBy; split <;> omega

/-- The slice reads, in w, as the records xs, each in K cells; P says what the cells of one hold. -/
def IsRecs {α : Type} (K : Nat) (P : World → List Value → α → Prop) (w : World) (a : Option Addr) (len cap : Nat) (xs : List α) : Prop :=
  xs.length = len ∧ len ≤ cap ∧ cap ≤ maxLen ∧ (0 < len → ∃ b off, a = some ⟨b, off, none⟩ ∧ b < w.heap.size ∧ ∀ i (h : i < xs.length), ∃ vs : List Value, vs.length = K ∧ (∀ j (hj : j < vs.length), w.cell? ⟨b, off + i * K + j, none⟩ = some vs[j]) ∧ P w vs xs[i])
/-- What P says lasts. -/
def Lasts {α : Type} (P : World → List Value → α → Prop) : Prop := ∀ (w w' : World) (vs : List Value) (x : α), Below w.heap.size w w' → P w vs x → P w' vs x
theorem IsRecs.len {α : Type} {K : Nat} {P : World → List Value → α → Prop} {w : World} {a : Option Addr} {len cap : Nat} {xs : List α} (h : IsRecs K P w a len cap xs) : xs.length = len ∧ len ≤ maxLen := ⟨h.1, Nat.le_trans h.2.1 h.2.2.1⟩
theorem IsRecs.at {α : Type} {K : Nat} {P : World → List Value → α → Prop} {w : World} {a : Option Addr} {len cap : Nat} {xs : List α} (h : IsRecs K P w a len cap xs) {i : Nat} (hi : i < xs.length) :
    ∃ b off, a = some ⟨b, off, none⟩ ∧ len ≤ cap ∧ b < w.heap.size ∧ ∃ vs : List Value, vs.length = K ∧ (∀ j (hj : j < vs.length), w.cell? ⟨b, off + i * K + j, none⟩ = some vs[j]) ∧ P w vs xs[i] := by
  obtain ⟨b, off, rfl, hb, hc⟩ := h.2.2.2 (by have := h.1; omega)
  exact ⟨b, off, rfl, h.2.1, hb, hc i hi⟩
theorem IsRecs.below {α : Type} {K : Nat} {P : World → List Value → α → Prop} (hP : Lasts P) {w w' : World} {a : Option Addr} {len cap : Nat} {xs : List α} (h : IsRecs K P w a len cap xs) (hb : Below w.heap.size w w') : IsRecs K P w' a len cap xs := by
  obtain ⟨h1, h2, h3, h4⟩ := h
  refine ⟨h1, h2, h3, fun h => ?_⟩
  obtain ⟨b, off, rfl, hb1, hc⟩ := h4 h
  refine ⟨b, off, rfl, Nat.lt_of_lt_of_le hb1 hb.size, fun i hi => ?_⟩
  obtain ⟨vs, hv, hcs, hp⟩ := hc i hi
  exact ⟨vs, hv, fun j hj => (hb.cell (p := ⟨b, off + i * K + j, none⟩) hb1).trans (hcs j hj), hP _ _ _ _ hb hp⟩
theorem IsRecs.alloc {α : Type} {K : Nat} {P : World → List Value → α → Prop} (hP : Lasts P) {w : World} {a : Option Addr} {len cap : Nat} {xs : List α} (h : IsRecs K P w a len cap xs) (o : Obj) : IsRecs K P (w.alloc o) a len cap xs := h.below hP ((Below.refl _ _).alloc (Nat.le_refl _) _)

/-- make([]T, n), T of several cells: a new row of zero values. -/
theorem run_make_recs {P : Program} (t e : TypeId) (z : Value) (size bytes : Nat) (ht : P.underlying t = some (.slice e)) (hinfo : (P.info? e).map (fun i => (i.zero, i.size, i.bytes)) = some (some z, size, bytes))
    (kl kc : IntKind) (n : Nat) (hbytes : bytes * n ≤ 281474976710656) (h63 : n ≤ 9223372036854775807) (w : World) :
    (Instr.makeSlice t (.int kl (n : Int)) (.int kc (n : Int))).run P w = .ok (.slice (some ⟨w.heap.size, 0, none⟩) n n) (w.alloc (.cells (madeCells z.cells (n * size)) e)) := by
  obtain ⟨i, hi, hzz⟩ := Option.map_eq_some_iff.1 hinfo
  simp only [Prod.mk.injEq] at hzz
  obtain ⟨hz, hs, hb⟩ := hzz
  have hb' : (i.bytes : Int) * (n : Int) ≤ 281474976710656 := by
    have h : ((i.bytes * n : Nat) : Int) ≤ 281474976710656 := by rw [hb]; omega
    rwa [Int.natCast_mul] at h
  have hr := run_make (P := P) w t e i z ht hi hz kl kc n n (by omega) (Int.le_refl _) hb' (by omega)
  simp only [Int.toNat_natCast, hs] at hr
  exact hr
/-- The block N holds these cells. -/
def Holds (w : World) (N : Nat) (t : TypeId) (cur : Array Value) : Prop := w.heap[N]? = some (.cells cur t (0, 0))
theorem Holds.set {w : World} {N : Nat} {t : TypeId} {cur : Array Value} (h : Holds w N t cur) (i : Nat) (v : Value) : Holds (w.setCell ⟨N, i, none⟩ v) N t (cur.setIfInBounds i v) := heap_setCell_same _ _ _ _ _ _ h
theorem Holds.cell {w : World} {N : Nat} {t : TypeId} {cur : Array Value} (h : Holds w N t cur) (i : Nat) : w.cell? ⟨N, i, none⟩ = cur[i]? := cell_of_row _ _ _ _ _ _ h
theorem Holds.frozen {w : World} {N : Nat} {t : TypeId} {cur : Array Value} (h : Holds w N t cur) (i : Nat) : w.frozen? ⟨N, i, none⟩ = false := frozen_of_row _ _ _ _ _ h
theorem Holds.below {w w' : World} {N : Nat} {t : TypeId} {cur : Array Value} (h : Holds w N t cur) (hb : Below w.heap.size w w') : Holds w' N t cur := by
  unfold Holds at h ⊢
  rw [hb.block N (by rw [Array.getElem?_eq_some_iff] at h; exact h.1)]; exact h
theorem Holds.lt {w : World} {N : Nat} {t : TypeId} {cur : Array Value} (h : Holds w N t cur) : N < w.heap.size := by
  unfold Holds at h; rw [Array.getElem?_eq_some_iff] at h; exact h.1
/-- Five cells are set, one behind the other. -/
theorem Holds.set5 {w : World} {N : Nat} {t : TypeId} {cur : Array Value} (h : Holds w N t cur) (k : Nat) (v0 v1 v2 v3 v4 : Value) (hs : k + 4 < cur.size) :
    ∃ cur', Holds (((((w.setCell ⟨N, k, none⟩ v0).setCell ⟨N, k + 1, none⟩ v1).setCell ⟨N, k + 2, none⟩ v2).setCell ⟨N, k + 3, none⟩ v3).setCell ⟨N, k + 4, none⟩ v4) N t cur' ∧ cur'.size = cur.size ∧ (∀ j, j < k ∨ k + 5 ≤ j → cur'[j]? = cur[j]?) ∧ cur'[k]? = some v0 ∧ cur'[k + 1]? = some v1 ∧ cur'[k + 2]? = some v2 ∧ cur'[k + 3]? = some v3 ∧ cur'[k + 4]? = some v4 := by
  refine ⟨_, ((((h.set k v0).set (k + 1) v1).set (k + 2) v2).set (k + 3) v3).set (k + 4) v4, by simp, fun j hj => ?_, ?_, ?_, ?_, ?_, ?_⟩
  · rw [Array.getElem?_setIfInBounds_ne (by omega), Array.getElem?_setIfInBounds_ne (by omega), Array.getElem?_setIfInBounds_ne (by omega), Array.getElem?_setIfInBounds_ne (by omega), Array.getElem?_setIfInBounds_ne (by omega)]
  · rw [Array.getElem?_setIfInBounds_ne (by omega), Array.getElem?_setIfInBounds_ne (by omega), Array.getElem?_setIfInBounds_ne (by omega), Array.getElem?_setIfInBounds_ne (by omega), Array.getElem?_setIfInBounds_self_of_lt (by first | omega | (simp only [Array.size_setIfInBounds]; omega))]
  · rw [Array.getElem?_setIfInBounds_ne (by omega), Array.getElem?_setIfInBounds_ne (by omega), Array.getElem?_setIfInBounds_ne (by omega), Array.getElem?_setIfInBounds_self_of_lt (by first | omega | (simp only [Array.size_setIfInBounds]; omega))]
  · rw [Array.getElem?_setIfInBounds_ne (by omega), Array.getElem?_setIfInBounds_ne (by omega), Array.getElem?_setIfInBounds_self_of_lt (by first | omega | (simp only [Array.size_setIfInBounds]; omega))]
  · rw [Array.getElem?_setIfInBounds_ne (by omega), Array.getElem?_setIfInBounds_self_of_lt (by first | omega | (simp only [Array.size_setIfInBounds]; omega))]
  · rw [Array.getElem?_setIfInBounds_self_of_lt (by first | omega | (simp only [Array.size_setIfInBounds]; omega))]
theorem IsRow.set5 {k : IntKind} {w : World} {B : Nat} {len cap : Nat} {zs : List Int} (h : IsRow k w (some ⟨B, 0, none⟩) len cap zs) {N : Nat} (hp : N ≠ B) (o : Nat) (v0 v1 v2 v3 v4 : Value) : IsRow k (((((w.setCell ⟨N, o, none⟩ v0).setCell ⟨N, o + 1, none⟩ v1).setCell ⟨N, o + 2, none⟩ v2).setCell ⟨N, o + 3, none⟩ v3).setCell ⟨N, o + 4, none⟩ v4) (some ⟨B, 0, none⟩) len cap zs :=
  ((((h.setElse hp _).setElse hp _).setElse hp _).setElse hp _).setElse hp _
theorem below_set5 {B : Nat} {a w : World} (h : Below B a w) {N : Nat} (hN : B ≤ N) (o : Nat) (v0 v1 v2 v3 v4 : Value) : Below B a (((((w.setCell ⟨N, o, none⟩ v0).setCell ⟨N, o + 1, none⟩ v1).setCell ⟨N, o + 2, none⟩ v2).setCell ⟨N, o + 3, none⟩ v3).setCell ⟨N, o + 4, none⟩ v4) :=
  ((((h.setCell hN _).setCell hN _).setCell hN _).setCell hN _).setCell hN _
/-- A record of five that was laid in a block of its own: it is there later, too. -/
theorem box5 {w V : World} {v0 v1 v2 v3 v4 : Value} {t : TypeId} (h : Below (w.heap.size + 1) (w.alloc (.cells #[v0, v1, v2, v3, v4] t)) V) :
    V.cell? ⟨w.heap.size, 0, none⟩ = some v0 ∧ V.cell? ⟨w.heap.size, 1, none⟩ = some v1 ∧ V.cell? ⟨w.heap.size, 2, none⟩ = some v2 ∧ V.cell? ⟨w.heap.size, 3, none⟩ = some v3 ∧ V.cell? ⟨w.heap.size, 4, none⟩ = some v4 :=
  ⟨(h.cell (p := ⟨w.heap.size, 0, none⟩) (Nat.lt_succ_self _)).trans (by rw [World.cell?_alloc_new]; rfl), (h.cell (p := ⟨w.heap.size, 1, none⟩) (Nat.lt_succ_self _)).trans (by rw [World.cell?_alloc_new]; rfl),
   (h.cell (p := ⟨w.heap.size, 2, none⟩) (Nat.lt_succ_self _)).trans (by rw [World.cell?_alloc_new]; rfl), (h.cell (p := ⟨w.heap.size, 3, none⟩) (Nat.lt_succ_self _)).trans (by rw [World.cell?_alloc_new]; rfl),
   (h.cell (p := ⟨w.heap.size, 4, none⟩) (Nat.lt_succ_self _)).trans (by rw [World.cell?_alloc_new]; rfl)⟩
/-- What stood ahead of a box stands behind it, too. -/
theorem unbox {w V : World} {o : Obj} (h : Below (w.heap.size + 1) (w.alloc o) V) : Below w.heap.size w V := ((Below.refl _ _).alloc (Nat.le_refl _) _).trans (h.mono (Nat.le_succ _))
end Go.Proofs.YtghocdiddolinaaGreatDoor

namespace Go.Proofs.YtghocdiddolinaaGreatDoor
set_option linter.unusedVariables false
set_option linter.unusedSimpArgs false
open Go.RowKit Go

set_option maxHeartbeats 400000 in
theorem eqIntS (a b : Option Addr) (len cap cap2 : Nat) (zs : List Int) (w : World) (hr : IsRow .i64 w a len cap zs) (hr2 : IsRow .i64 w b len cap2 zs) :
    Calls Tryz.prog 32 #[.slice a len cap, .slice b len cap2] w fun e w' => e = .returned (.bool true) ∧ Below w.heap.size w w' := by
  have hm := hr.len.2
  unfold maxLen at hm
  have HR : Hid (IsRow .i64 w a len cap zs) := hr
  have HR2 : Hid (IsRow .i64 w b len cap2 zs) := hr2
  clear hr hr2
  go_enter Tryz.func32, Tryz.ntmps32
  go_wp2
  go_loopw [5] (fun i wr => ∃ q m : Nat, i = .int .i64 q ∧ q ≤ len ∧ wr = w.drewN m) (fun i _ => len - (intOf i).toNat)
  case atStart => exact ⟨0, 0, rfl, Nat.zero_le _, rfl⟩
  case round =>
    obtain ⟨q, m, rfl, hq, hwr⟩ := hrel
    subst hwr
    by_cases hlt : q < len
    · obtain ⟨b3, off3, rfl, _, _, hc3⟩ := IsRow.at HR.out hlt
      obtain ⟨b4, off4, rfl, _, _, hc4⟩ := IsRow.at HR2.out hlt
      go_wp2_with fail
      go_quiet (fail)
      go_wp2_with fail
      go_roundw
      case rel => exact ⟨q + 1, _, by go_num, by omega, rfl⟩
      case measure => simp [intOf]; omega
    · go_wp2_with fail
      go_ret
      exact ⟨rfl, below_drewN (Below.refl _ _) _⟩
end Go.Proofs.YtghocdiddolinaaGreatDoor
