/- The model's numbers and keys of chapter 11. -/
import Derived.Test.YtbngjpnbjknliaaGreatDoorProg
import Derived.WalkKit
import Derived.WalkSpells
import Derived.WalkLawsBesides
import Derived.Deep.OwnRows
import Derived.Deep.QuietTactic
import Derived.Deep.RegionWith
import Derived.WalkSmall
import Derived.KernelRfl
namespace Go.Proofs.YtbngjpnbjknliaaGreatDoor
set_option linter.unusedVariables false
set_option linter.unusedSimpArgs false
open Go.RowKit

/-- The slice v reads, in w, as the values xs (one cell an element). -/
def Row (w : World) (v : Value) (xs : List Value) : Prop :=
  (v = .slice none 0 0 ∧ xs = []) ∨
  ∃ b off cap, v = .slice (some ⟨b, off, none⟩) xs.length cap ∧ xs.length ≤ cap ∧ cap ≤ maxLen ∧ b < w.heap.size ∧ ∀ i x, xs[i]? = some x → w.cell? ⟨b, off + i, none⟩ = some x

theorem Row.form {w : World} {v : Value} {xs : List Value} (h : Row w v xs) : ∃ a cap, v = .slice a xs.length cap := by
  rcases h with ⟨rfl, rfl⟩ | ⟨b, off, cap, rfl, _⟩
  · exact ⟨none, 0, rfl⟩
  · exact ⟨_, _, rfl⟩
theorem Row.max {w : World} {v : Value} {xs : List Value} (h : Row w v xs) : xs.length ≤ 9223372036854775807 := by
  rcases h with ⟨rfl, rfl⟩ | ⟨b, off, cap, rfl, h1, h2, _⟩
  · simp
  · unfold maxLen at h2; omega
theorem Row.nil (w : World) : Row w (.slice none 0 0) [] := .inl ⟨rfl, rfl⟩
theorem Row.later {w w' : World} {v : Value} {xs : List Value} (h : Row w v xs) {B : Nat} (hB : w.heap.size ≤ B) (hb : Below B w w') : Row w' v xs := by
  rcases h with h | ⟨b, off, cap, rfl, h1, h2, hbl, hc⟩
  · exact .inl h
  · exact .inr ⟨b, off, cap, rfl, h1, h2, Nat.lt_of_lt_of_le hbl hb.size, fun i x hx => (hb.cell (p := ⟨b, off + i, none⟩) (Nat.lt_of_lt_of_le hbl hB)).trans (hc i x hx)⟩
theorem Row.below {w w' : World} {v : Value} {xs : List Value} (h : Row w v xs) (hb : Below w.heap.size w w') : Row w' v xs := h.later (Nat.le_refl _) hb
theorem Row.alloc {w : World} {v : Value} {xs : List Value} (h : Row w v xs) (o : Obj) : Row (w.alloc o) v xs := h.below ((Below.refl _ _).alloc (Nat.le_refl _) _)
theorem Row.drew {w : World} {v : Value} {xs : List Value} (h : Row w v xs) : Row w.drew v xs := h.below (Below.refl _ _).drew
theorem Row.owned {w : World} {base : Nat} {e : TypeId} {v : Value} {n : Nat} {xs : List Value} (h : w.ownsRow base e 1 v n xs) : Row w v xs := by
  obtain ⟨hl, h⟩ := h
  have hl' : xs.length = n := by omega
  rcases h with ⟨rfl, rfl⟩ | ⟨g, cap, cur, rfl, hb, hg, h1, h2, h3, h4⟩
  · exact .inl ⟨rfl, List.length_eq_zero_iff.1 hl'⟩
  · subst hl'
    refine .inr ⟨g, 0, cap, rfl, h1, h2, ?_, ?_⟩
    · rw [Array.getElem?_eq_some_iff] at hg; exact hg.1
    · intro i x hx
      rw [cell_of_row _ _ _ _ _ _ hg]
      simp only [Nat.mul_one] at h4
      rw [← h4] at hx
      have := List.getElem?_take (l := cur.toList) (i := xs.length) (j := i)
      rw [this] at hx
      split at hx
      · simpa using hx
      · cases hx

theorem Row.made (w : World) (xs : List Value) (t : TypeId) (h : xs.length ≤ maxLen) : Row (w.alloc (.cells xs.toArray t)) (.slice (some ⟨w.heap.size, 0, none⟩) xs.length xs.length) xs :=
  .inr ⟨w.heap.size, 0, xs.length, rfl, Nat.le_refl _, h, by simp, fun i x hx => by rw [Nat.zero_add, World.cell?_alloc_new]; simpa using hx⟩
theorem own_below {w w' : World} {base : Nat} {e : TypeId} {size : Nat} {v : Value} {n : Nat} {xs : List Value} (h : w.ownsRow base e size v n xs) (hb : Below w.heap.size w w') : w'.ownsRow base e size v n xs :=
  h.kept (row := none) ⟨hb.os, hb.tape, hb.output, hb.size, fun k hk _ => hb.block k hk⟩ (by cases hv : v.ownBlock <;> simp)
/-- One element, by its place. -/
theorem Row.at {w : World} {a : Option Addr} {n cap : Nat} {xs : List Value} (h : Row w (.slice a n cap) xs) {k : Nat} (hk : k < xs.length) :
    ∃ b off, a = some ⟨b, off, none⟩ ∧ n ≤ cap ∧ b < w.heap.size ∧ w.cell? ⟨b, off + k, none⟩ = some xs[k] := by
  rcases h with ⟨h, rfl⟩ | ⟨b, off, cap', h, h1, h2, hbl, hc⟩
  · simp at hk
  · simp only [Value.slice.injEq] at h
    obtain ⟨rfl, rfl, rfl⟩ := h
    exact ⟨b, off, rfl, h1, hbl, hc k _ (List.getElem?_eq_getElem hk)⟩

/-- Strings as values. -/
def sv (ss : List ByteArray) : List Value := ss.map Value.string
theorem sv_len (ss : List ByteArray) : (sv ss).length = ss.length := by simp [sv]
theorem sv_at (ss : List ByteArray) (k : Nat) (h : k < (sv ss).length) : (sv ss)[k] = .string (ss[k]'(by simpa [sv] using h)) := by simp [sv]
theorem sv_app (a b : List ByteArray) : sv (a ++ b) = sv a ++ sv b := by simp [sv]

theorem bcell {W w1 : World} (hb : Below W.heap.size W w1) : (∀ b o, b < W.heap.size → w1.cell? ⟨b, o, none⟩ = W.cell? ⟨b, o, none⟩) ∧ (∀ b o, b < W.heap.size → w1.frozen? ⟨b, o, none⟩ = W.frozen? ⟨b, o, none⟩) :=
  ⟨fun b o h => hb.cell (p := ⟨b, o, none⟩) h, fun b o h => hb.frozen (p := ⟨b, o, none⟩) h⟩
theorem ret_bool {a b : Bool} (h : a = b) : Ending.returned (.bool a) = .returned (.bool b) := by rw [h]
theorem ret_int {k : IntKind} {a b : Int} (h : a = b) : Ending.returned (.int k a) = .returned (.int k b) := by rw [h]
theorem take_snoc (s : ByteArray) (k : Nat) (h : k < s.size) : s.data.toList.take (k + 1) = s.data.toList.take k ++ [s[k]] := by
  rw [List.take_succ_eq_append_getElem (by simpa using h)]; rfl
theorem wrap64_id (x : Int) (h0 : -9223372036854775808 ≤ x) (h1 : x ≤ 9223372036854775807) : wrap64 x = x := by unfold wrap64; omega
end Go.Proofs.YtbngjpnbjknliaaGreatDoor

namespace Go.Proofs.YtbngjpnbjknliaaGreatDoor
set_option linter.unusedVariables false
set_option linter.unusedSimpArgs false
open Go.RowKit Go

/-- The slice reads, in w, as the numbers zs (of kind k). -/
def IsRow (k : IntKind) (w : World) (a : Option Addr) (len cap : Nat) (zs : List Int) : Prop :=
  zs.length = len ∧ len ≤ cap ∧ cap ≤ maxLen ∧ (0 < len → ∃ b off, a = some ⟨b, off, none⟩ ∧ b < w.heap.size ∧ ∀ i, i < len → w.cell? ⟨b, off + i, none⟩ = some (.int k (zs.getD i 0))) ∧ ∀ n ∈ zs, (Lit.int k n).wf = true
theorem IsRow.len {k : IntKind} {w : World} {a : Option Addr} {len cap : Nat} {zs : List Int} (h : IsRow k w a len cap zs) : zs.length = len ∧ len ≤ maxLen := ⟨h.1, Nat.le_trans h.2.1 h.2.2.1⟩
theorem IsRow.wf {k : IntKind} {w : World} {a : Option Addr} {len cap : Nat} {zs : List Int} (h : IsRow k w a len cap zs) : ∀ n ∈ zs, (Lit.int k n).wf = true := h.2.2.2.2
theorem IsRow.at {k : IntKind} {w : World} {a : Option Addr} {len cap : Nat} {zs : List Int} (h : IsRow k w a len cap zs) {i : Nat} (hi : i < len) : ∃ b off, a = some ⟨b, off, none⟩ ∧ len ≤ cap ∧ b < w.heap.size ∧ w.cell? ⟨b, off + i, none⟩ = some (.int k (zs.getD i 0)) := by
  obtain ⟨b, off, rfl, hb, hc⟩ := h.2.2.2.1 (by omega)
  exact ⟨b, off, rfl, h.2.1, hb, hc i hi⟩
theorem IsRow.below {k : IntKind} {w w' : World} {a : Option Addr} {len cap : Nat} {zs : List Int} (h : IsRow k w a len cap zs) (hb : Below w.heap.size w w') : IsRow k w' a len cap zs := by
  obtain ⟨h1, h2, h3, h4, h5⟩ := h
  refine ⟨h1, h2, h3, fun h => ?_, h5⟩
  obtain ⟨b, off, rfl, hb1, hc⟩ := h4 h
  exact ⟨b, off, rfl, Nat.lt_of_lt_of_le hb1 hb.size, fun i hi => (hb.cell (p := ⟨b, off + i, none⟩) hb1).trans (hc i hi)⟩
theorem IsRow.alloc {k : IntKind} {w : World} {a : Option Addr} {len cap : Nat} {zs : List Int} (h : IsRow k w a len cap zs) (o : Obj) : IsRow k (w.alloc o) a len cap zs := h.below ((Below.refl _ _).alloc (Nat.le_refl _) _)
theorem IsRow.setElse {k : IntKind} {w : World} {B : Nat} {len cap : Nat} {zs : List Int} (h : IsRow k w (some ⟨B, 0, none⟩) len cap zs) {p : Addr} (hp : p.block ≠ B) (u : Value) : IsRow k (w.setCell p u) (some ⟨B, 0, none⟩) len cap zs := by
  obtain ⟨h1, h2, h3, h4, h5⟩ := h
  refine ⟨h1, h2, h3, fun h => ?_, h5⟩
  obtain ⟨b, off, e, hb1, hc⟩ := h4 h
  cases e
  refine ⟨B, 0, rfl, by simpa using hb1, fun i hi => ?_⟩
  rw [← hc i hi]
  exact World.cell?_of_block (w := w) (a := ⟨B, 0 + i, none⟩) (Below.heap_setCell w p u B (fun e => hp e.symm))
theorem getD_at (zs : List Int) (k : Nat) (h : k < zs.length) : zs.getD k 0 = zs[k] := by simp [h]
theorem takeI_snoc (s : List Int) (k : Nat) (h : k < s.length) : s.take (k + 1) = s.take k ++ [s.getD k 0] := by
  rw [List.take_succ_eq_append_getElem h]; simp [h]
theorem bcall {B : Nat} {a w w' : World} (h : Below B a w) (hB : B ≤ w.heap.size) (k : Below w.heap.size w w') : Below B a w' := h.trans (k.mono hB)

/-- What is left of n behind k more (below 0: -1). -/
def lessBy (left k : Int) : Int := if left - k < 0 then -1 else left - k
theorem lessBy_pos {left k : Int} (h : left - k < 0) : lessBy left k = -1 := by unfold lessBy; rw [if_pos h]
theorem lessBy_neg {left k : Int} (h : ¬ left - k < 0) : lessBy left k = left - k := by unfold lessBy; rw [if_neg h]
theorem lessBy_bd {left k : Int} (hk : 0 ≤ k) (hl : -1 ≤ left ∧ left ≤ 1048576) : -1 ≤ lessBy left k ∧ lessBy left k ≤ 1048576 := by unfold lessBy; split <;> omega

/-- The slice reads, in w, as the records xs, each in K cells; P says what the cells of one hold. -/
def IsRecs {α : Type} (K : Nat) (P : World → List Value → α → Prop) (w : World) (a : Option Addr) (len cap : Nat) (xs : List α) : Prop :=
  xs.length = len ∧ len ≤ cap ∧ cap ≤ maxLen ∧ (0 < len → ∃ b off, a = some ⟨b, off, none⟩ ∧ b < w.heap.size ∧ ∀ i (h : i < xs.length), ∃ vs : List Value, vs.length = K ∧ (∀ j (hj : j < vs.length), w.cell? ⟨b, off + i * K + j, none⟩ = some vs[j]) ∧ P w vs xs[i])
/-- What P says lasts. -/
def Lasts {α : Type} (P : World → List Value → α → Prop) : Prop := ∀ (w w' : World) (vs : List Value) (x : α), Below w.heap.size w w' → P w vs x → P w' vs x
theorem IsRecs.len {α : Type} {K : Nat} {P : World → List Value → α → Prop} {w : World} {a : Option Addr} {len cap : Nat} {xs : List α} (h : IsRecs K P w a len cap xs) : xs.length = len ∧ len ≤ maxLen := ⟨h.1, Nat.le_trans h.2.1 h.2.2.1⟩
theorem IsRecs.at {α : Type} {K : Nat} {P : World → List Value → α → Prop} {w : World} {a : Option Addr} {len cap : Nat} {xs : List α} (h : IsRecs K P w a len cap xs) {i : Nat} (hi : i < xs.length) :
    ∃ b off, a = some ⟨b, off, none⟩ ∧ len ≤ cap ∧ b < w.heap.size ∧ ∃ vs : List Value, vs.length = K ∧ (∀ j (hj : j < vs.length), w.cell? ⟨b, off + i * K + j, none⟩ = some vs[j]) ∧ P w vs xs[i] := by
  obtain ⟨b, off, rfl, hb, hc⟩ := h.2.2.2 (by have := h.1; omega)
  exact ⟨b, off, rfl, h.2.1, hb, hc i hi⟩
theorem IsRecs.below {α : Type} {K : Nat} {P : World → List Value → α → Prop} (hP : Lasts P) {w w' : World} {a : Option Addr} {len cap : Nat} {xs : List α} (h : IsRecs K P w a len cap xs) (hb : Below w.heap.size w w') : IsRecs K P w' a len cap xs := by
  obtain ⟨h1, h2, h3, h4⟩ := h
  refine ⟨h1, h2, h3, fun h => ?_⟩
  obtain ⟨b, off, rfl, hb1, hc⟩ := h4 h
  refine ⟨b, off, rfl, Nat.lt_of_lt_of_le hb1 hb.size, fun i hi => ?_⟩
  obtain ⟨vs, hv, hcs, hp⟩ := hc i hi
  exact ⟨vs, hv, fun j hj => (hb.cell (p := ⟨b, off + i * K + j, none⟩) hb1).trans (hcs j hj), hP _ _ _ _ hb hp⟩
theorem IsRecs.alloc {α : Type} {K : Nat} {P : World → List Value → α → Prop} (hP : Lasts P) {w : World} {a : Option Addr} {len cap : Nat} {xs : List α} (h : IsRecs K P w a len cap xs) (o : Obj) : IsRecs K P (w.alloc o) a len cap xs := h.below hP ((Below.refl _ _).alloc (Nat.le_refl _) _)

/-- make([]T, n), T of several cells: a new row of zero values. -/
theorem run_make_recs {P : Program} (t e : TypeId) (z : Value) (size bytes : Nat) (ht : P.underlying t = some (.slice e)) (hinfo : (P.info? e).map (fun i => (i.zero, i.size, i.bytes)) = some (some z, size, bytes))
    (kl kc : IntKind) (n : Nat) (hbytes : bytes * n ≤ 281474976710656) (h63 : n ≤ 9223372036854775807) (w : World) :
    (Instr.makeSlice t (.int kl (n : Int)) (.int kc (n : Int))).run P w = .ok (.slice (some ⟨w.heap.size, 0, none⟩) n n) (w.alloc (.cells (madeCells z.cells (n * size)) e)) := by
  obtain ⟨i, hi, hzz⟩ := Option.map_eq_some_iff.1 hinfo
  simp only [Prod.mk.injEq] at hzz
  obtain ⟨hz, hs, hb⟩ := hzz
  have hb' : (i.bytes : Int) * (n : Int) ≤ 281474976710656 := by
    have h : ((i.bytes * n : Nat) : Int) ≤ 281474976710656 := by rw [hb]; omega
    rwa [Int.natCast_mul] at h
  have hr := run_make (P := P) w t e i z ht hi hz kl kc n n (by omega) (Int.le_refl _) hb' (by omega)
  simp only [Int.toNat_natCast, hs] at hr
  exact hr
/-- The block N holds these cells. -/
def Holds (w : World) (N : Nat) (t : TypeId) (cur : Array Value) : Prop := w.heap[N]? = some (.cells cur t (0, 0))
theorem Holds.set {w : World} {N : Nat} {t : TypeId} {cur : Array Value} (h : Holds w N t cur) (i : Nat) (v : Value) : Holds (w.setCell ⟨N, i, none⟩ v) N t (cur.setIfInBounds i v) := heap_setCell_same _ _ _ _ _ _ h
theorem Holds.cell {w : World} {N : Nat} {t : TypeId} {cur : Array Value} (h : Holds w N t cur) (i : Nat) : w.cell? ⟨N, i, none⟩ = cur[i]? := cell_of_row _ _ _ _ _ _ h
theorem Holds.frozen {w : World} {N : Nat} {t : TypeId} {cur : Array Value} (h : Holds w N t cur) (i : Nat) : w.frozen? ⟨N, i, none⟩ = false := frozen_of_row _ _ _ _ _ h
theorem Holds.below {w w' : World} {N : Nat} {t : TypeId} {cur : Array Value} (h : Holds w N t cur) (hb : Below w.heap.size w w') : Holds w' N t cur := by
  unfold Holds at h ⊢
  rw [hb.block N (by rw [Array.getElem?_eq_some_iff] at h; exact h.1)]; exact h
theorem Holds.lt {w : World} {N : Nat} {t : TypeId} {cur : Array Value} (h : Holds w N t cur) : N < w.heap.size := by
  unfold Holds at h; rw [Array.getElem?_eq_some_iff] at h; exact h.1
/-- Five cells are set, one behind the other. -/
theorem Holds.set5 {w : World} {N : Nat} {t : TypeId} {cur : Array Value} (h : Holds w N t cur) (k : Nat) (v0 v1 v2 v3 v4 : Value) (hs : k + 4 < cur.size) :
    ∃ cur', Holds (((((w.setCell ⟨N, k, none⟩ v0).setCell ⟨N, k + 1, none⟩ v1).setCell ⟨N, k + 2, none⟩ v2).setCell ⟨N, k + 3, none⟩ v3).setCell ⟨N, k + 4, none⟩ v4) N t cur' ∧ cur'.size = cur.size ∧ (∀ j, j < k ∨ k + 5 ≤ j → cur'[j]? = cur[j]?) ∧ cur'[k]? = some v0 ∧ cur'[k + 1]? = some v1 ∧ cur'[k + 2]? = some v2 ∧ cur'[k + 3]? = some v3 ∧ cur'[k + 4]? = some v4 := by
  refine ⟨_, ((((h.set k v0).set (k + 1) v1).set (k + 2) v2).set (k + 3) v3).set (k + 4) v4, by simp, fun j hj => ?_, ?_, ?_, ?_, ?_, ?_⟩
  · rw [Array.getElem?_setIfInBounds_ne (by omega), Array.getElem?_setIfInBounds_ne (by omega), Array.getElem?_setIfInBounds_ne (by omega), Array.getElem?_setIfInBounds_ne (by omega), Array.getElem?_setIfInBounds_ne (by omega)]
  · rw [Array.getElem?_setIfInBounds_ne (by omega), Array.getElem?_setIfInBounds_ne (by omega), Array.getElem?_setIfInBounds_ne (by omega), Array.getElem?_setIfInBounds_ne (by omega), Array.getElem?_setIfInBounds_self_of_lt (by first | omega | (simp only [Array.size_setIfInBounds]; omega))]
  · rw [Array.getElem?_setIfInBounds_ne (by omega), Array.getElem?_setIfInBounds_ne (by omega), Array.getElem?_setIfInBounds_ne (by omega), Array.getElem?_setIfInBounds_self_of_lt (by first | omega | (simp only [Array.size_setIfInBounds]; omega))]
  · rw [Array.getElem?_setIfInBounds_ne (by omega), Array.getElem?_setIfInBounds_ne (by omega), Array.getElem?_setIfInBounds_self_of_lt (by first | omega | (simp only [Array.size_setIfInBounds]; omega))]
  · rw [Array.getElem?_setIfInBounds_ne (by omega), Array.getElem?_setIfInBounds_self_of_lt (by first | omega | (simp only [Array.size_setIfInBounds]; omega))]
  · rw [Array.getElem?_setIfInBounds_self_of_lt (by first | omega | (simp only [Array.size_setIfInBounds]; omega))]
theorem IsRow.set5 {k : IntKind} {w : World} {B : Nat} {len cap : Nat} {zs : List Int} (h : IsRow k w (some ⟨B, 0, none⟩) len cap zs) {N : Nat} (hp : N ≠ B) (o : Nat) (v0 v1 v2 v3 v4 : Value) : IsRow k (((((w.setCell ⟨N, o, none⟩ v0).setCell ⟨N, o + 1, none⟩ v1).setCell ⟨N, o + 2, none⟩ v2).setCell ⟨N, o + 3, none⟩ v3).setCell ⟨N, o + 4, none⟩ v4) (some ⟨B, 0, none⟩) len cap zs :=
  ((((h.setElse hp _).setElse hp _).setElse hp _).setElse hp _).setElse hp _
theorem below_set5 {B : Nat} {a w : World} (h : Below B a w) {N : Nat} (hN : B ≤ N) (o : Nat) (v0 v1 v2 v3 v4 : Value) : Below B a (((((w.setCell ⟨N, o, none⟩ v0).setCell ⟨N, o + 1, none⟩ v1).setCell ⟨N, o + 2, none⟩ v2).setCell ⟨N, o + 3, none⟩ v3).setCell ⟨N, o + 4, none⟩ v4) :=
  ((((h.setCell hN _).setCell hN _).setCell hN _).setCell hN _).setCell hN _
/-- A record of five that was laid in a block of its own: it is there later, too. -/
theorem box5 {w V : World} {v0 v1 v2 v3 v4 : Value} {t : TypeId} (h : Below (w.heap.size + 1) (w.alloc (.cells #[v0, v1, v2, v3, v4] t)) V) :
    V.cell? ⟨w.heap.size, 0, none⟩ = some v0 ∧ V.cell? ⟨w.heap.size, 1, none⟩ = some v1 ∧ V.cell? ⟨w.heap.size, 2, none⟩ = some v2 ∧ V.cell? ⟨w.heap.size, 3, none⟩ = some v3 ∧ V.cell? ⟨w.heap.size, 4, none⟩ = some v4 :=
  ⟨(h.cell (p := ⟨w.heap.size, 0, none⟩) (Nat.lt_succ_self _)).trans (by rw [World.cell?_alloc_new]; rfl), (h.cell (p := ⟨w.heap.size, 1, none⟩) (Nat.lt_succ_self _)).trans (by rw [World.cell?_alloc_new]; rfl),
   (h.cell (p := ⟨w.heap.size, 2, none⟩) (Nat.lt_succ_self _)).trans (by rw [World.cell?_alloc_new]; rfl), (h.cell (p := ⟨w.heap.size, 3, none⟩) (Nat.lt_succ_self _)).trans (by rw [World.cell?_alloc_new]; rfl),
   (h.cell (p := ⟨w.heap.size, 4, none⟩) (Nat.lt_succ_self _)).trans (by rw [World.cell?_alloc_new]; rfl)⟩
/-- What stood ahead of a box stands behind it, too. -/
theorem unbox {w V : World} {o : Obj} (h : Below (w.heap.size + 1) (w.alloc o) V) : Below w.heap.size w V := ((Below.refl _ _).alloc (Nat.le_refl _) _).trans (h.mono (Nat.le_succ _))
end Go.Proofs.YtbngjpnbjknliaaGreatDoor

namespace Go.Proofs.YtbngjpnbjknliaaGreatDoor
set_option linter.unusedVariables false
set_option linter.unusedSimpArgs false
open Go.RowKit Go

/-- An entry of a history. -/
structure Ent where
  kind : Int
  id : Int
  key : ByteArray
  name : ByteArray
  nums : List Int

/-- The cells of an entry. -/
def EntIs (w : World) (vs : List Value) (e : Ent) : Prop :=
  ∃ a l c, vs = [.int .i64 e.kind, .int .i64 e.id, .string e.key, .string e.name, .slice a l c] ∧ IsRow .i64 w a l c e.nums ∧ e.key.size ≤ maxLen ∧ e.name.size ≤ maxLen ∧ (Lit.int .i64 e.kind).wf = true ∧ (Lit.int .i64 e.id).wf = true
theorem EntIs.lasts : Lasts EntIs := by
  rintro w w' vs e hb ⟨a, l, c, rfl, h, h2⟩
  exact ⟨a, l, c, rfl, h.below hb, h2⟩
def IsEnts (w : World) (a : Option Addr) (len cap : Nat) (es : List Ent) : Prop := IsRecs 5 EntIs w a len cap es
theorem IsEnts.below {w w' : World} {a : Option Addr} {len cap : Nat} {es : List Ent} (h : IsEnts w a len cap es) (hb : Below w.heap.size w w') : IsEnts w' a len cap es := IsRecs.below EntIs.lasts h hb
theorem IsEnts.alloc {w : World} {a : Option Addr} {len cap : Nat} {es : List Ent} (h : IsEnts w a len cap es) (o : Obj) : IsEnts (w.alloc o) a len cap es := IsRecs.alloc EntIs.lasts h o
/-- One entry, by its place: its five cells. -/
theorem IsEnts.at {w : World} {a : Option Addr} {len cap : Nat} {es : List Ent} (h : IsEnts w a len cap es) {i : Nat} (hi : i < es.length) :
    ∃ b off, a = some ⟨b, off, none⟩ ∧ len ≤ cap ∧ b < w.heap.size ∧ ∃ a' l c, w.cell? ⟨b, off + i * 5, none⟩ = some (.int .i64 es[i].kind) ∧ w.cell? ⟨b, off + i * 5 + 1, none⟩ = some (.int .i64 es[i].id) ∧ w.cell? ⟨b, off + i * 5 + 2, none⟩ = some (.string es[i].key) ∧ w.cell? ⟨b, off + i * 5 + 3, none⟩ = some (.string es[i].name) ∧ w.cell? ⟨b, off + i * 5 + 4, none⟩ = some (.slice a' l c) ∧ IsRow .i64 w a' l c es[i].nums ∧ es[i].key.size ≤ maxLen ∧ es[i].name.size ≤ maxLen ∧ (Lit.int .i64 es[i].kind).wf = true ∧ (Lit.int .i64 es[i].id).wf = true := by
  obtain ⟨b, off, rfl, h1, h2, vs, hv, hc, a', l, c, rfl, h3⟩ := IsRecs.at h hi
  exact ⟨b, off, rfl, h1, h2, a', l, c, hc 0 (by simp), hc 1 (by simp), hc 2 (by simp), hc 3 (by simp), hc 4 (by simp), h3⟩

/-- Small enough, each. -/
def entSmall (e : Ent) : Prop := e.key.size + e.name.size + e.nums.length ≤ 1048576
end Go.Proofs.YtbngjpnbjknliaaGreatDoor

namespace Go.Proofs.YtbngjpnbjknliaaGreatDoor
set_option linter.unusedVariables false
set_option linter.unusedSimpArgs false

def isLow (c : UInt8) : Bool := decide (97 ≤ c.toNat) && decide (c.toNat ≤ 122)
def isDig (c : UInt8) : Bool := decide (48 ≤ c.toNat) && decide (c.toNat ≤ 57)
def wordc (c : UInt8) : Bool := isLow c || isDig c
def headLow : List UInt8 → Bool
  | c :: _ => isLow c
  | [] => false
/-- A name: 1 to 8 bytes, letters or digits, the first no digit. -/
def nameOk (s : List UInt8) : Bool := decide (1 ≤ s.length) && decide (s.length ≤ 8) && headLow s && s.all wordc

theorem nameOk_bad_len (s : List UInt8) (h : ¬ (1 ≤ s.length ∧ s.length ≤ 8)) : nameOk s = false := by
  unfold nameOk
  by_cases h1 : 1 ≤ s.length <;> by_cases h2 : s.length ≤ 8 <;> simp [h1, h2] <;> omega
theorem nameOk_bad_head (s : List UInt8) (h : headLow s = false) : nameOk s = false := by simp [nameOk, h]
theorem nameOk_bad_at (s : List UInt8) (k : Nat) (hk : k < s.length) (h : wordc s[k] = false) : nameOk s = false := by
  have : s.all wordc = false := by
    rw [List.all_eq_false]; exact ⟨s[k], List.getElem_mem hk, by simp [h]⟩
  simp [nameOk, this]
theorem nameOk_good (s : List UInt8) (h1 : 1 ≤ s.length) (h2 : s.length ≤ 8) (h3 : headLow s = true) (h4 : ∀ i (hi : i < s.length), wordc s[i] = true) : nameOk s = true := by
  have : s.all wordc = true := by
    rw [List.all_eq_true]; intro x hx; obtain ⟨i, hi, rfl⟩ := List.mem_iff_getElem.1 hx; exact h4 i hi
  simp [nameOk, h1, h2, h3, this]
theorem headLow_at (s : List UInt8) (h : 0 < s.length) : headLow s = isLow s[0] := by
  cases s with
  | nil => simp at h
  | cons c l => rfl
end Go.Proofs.YtbngjpnbjknliaaGreatDoor

namespace Go.Proofs.YtbngjpnbjknliaaGreatDoor
set_option linter.unusedVariables false
set_option linter.unusedSimpArgs false
open Go.RowKit

set_option maxHeartbeats 400000 in
theorem l1In_t (n lo hi : Int) (w : World) (h1 : lo ≤ n) (h2 : n ≤ hi) :
    Calls Tryz.prog 39 #[.int .i64 n, .int .i64 lo, .int .i64 hi] w fun e w' => e = .returned (.bool true) ∧ w' = w := by
  go_enter Tryz.func39, Tryz.ntmps39
  go_wp2
  go_ret
  exact ⟨by simp [h1, h2], rfl⟩
set_option maxHeartbeats 400000 in
theorem l1In_f (n lo hi : Int) (w : World) (h : n < lo ∨ hi < n) :
    Calls Tryz.prog 39 #[.int .i64 n, .int .i64 lo, .int .i64 hi] w fun e w' => e = .returned (.bool false) ∧ w' = w := by
  rcases h with h | h
  · go_enter Tryz.func39, Tryz.ntmps39
    go_wp2
    go_ret
    exact ⟨by first | (simp; done) | (simp; omega), rfl⟩
  · by_cases h1 : lo ≤ n
    · go_enter Tryz.func39, Tryz.ntmps39
      go_wp2
      go_ret
      exact ⟨by first | (simp; done) | (simp; omega), rfl⟩
    · go_enter Tryz.func39, Tryz.ntmps39
      go_wp2
      go_ret
      exact ⟨by first | (simp; done) | (simp; omega), rfl⟩

theorem bget (s : ByteArray) (k : Nat) (h : k < s.size) : s.data.toList[k]'(by simpa using h) = s[k] := by simp; rfl

/-- What the loop of l1NameOk leaves at each round. -/
theorem nm_step {s : ByteArray} {k : Nat} (h : k < s.size) (ha : ∀ j (hj : j < s.size), j < k → wordc s[j] = true) (hw : wordc s[k] = true) : ∀ j (hj : j < s.size), j < k + 1 → wordc s[j] = true := by
  intro j hj hjk
  by_cases e : j = k
  · subst e; exact hw
  · exact ha j hj (by omega)
theorem wordc_low {c : UInt8} (h1 : (97 : Int) ≤ (c.toNat : Int)) (h2 : (c.toNat : Int) ≤ 122) : wordc c = true := by
  have a : 97 ≤ c.toNat := by omega
  have b : c.toNat ≤ 122 := by omega
  simp [wordc, isLow, a, b]
theorem wordc_dig {c : UInt8} (h1 : (48 : Int) ≤ (c.toNat : Int)) (h2 : (c.toNat : Int) ≤ 57) : wordc c = true := by
  have a : 48 ≤ c.toNat := by omega
  have b : c.toNat ≤ 57 := by omega
  simp [wordc, isDig, a, b]
theorem wordc_no {c : UInt8} (h1 : ¬ ((97 : Int) ≤ (c.toNat : Int) ∧ (c.toNat : Int) ≤ 122)) (h2 : ¬ ((48 : Int) ≤ (c.toNat : Int) ∧ (c.toNat : Int) ≤ 57)) : wordc c = false := by
  simp only [wordc, isLow, isDig, Bool.or_eq_false_iff, Bool.and_eq_false_iff, decide_eq_false_iff_not]
  constructor <;> omega

set_option maxHeartbeats 1000000 in
theorem l1NameOk (s : ByteArray) (w : World) (hs : s.size ≤ maxLen) :
    Calls Tryz.prog 41 #[.string s] w fun e w' => e = .returned (.bool (nameOk s.data.toList)) ∧ w' = w := by
  unfold maxLen at hs
  by_cases hl : 1 ≤ s.size ∧ s.size ≤ 8
  · obtain ⟨hl1, hl2⟩ := hl
    have h0 : 0 < s.size := by omega
    have HL : Hid (headLow s.data.toList = isLow s[0]) := by
      show headLow s.data.toList = isLow s[0]
      rw [headLow_at _ (by simpa using h0), bget s 0 h0]
    by_cases hh : isLow s[0] = true
    · have hh' := hh
      simp only [isLow, Bool.and_eq_true, decide_eq_true_eq] at hh'
      have g1 : (97 : Int) ≤ (s[0].toNat : Int) := by omega
      have g2 : (s[0].toNat : Int) ≤ 122 := by omega
      clear hh'
      have HH : Hid (isLow s[0] = true) := hh
      clear hh
      go_enter Tryz.func41, Tryz.ntmps41
      go_wp2_with (go_at_call 39; refine (l1In_t _ _ _ _ (by omega) (by omega)).mono ?_; rintro e w' ⟨rfl, rfl⟩)
      go_loop [3] (fun i => ∃ k : Nat, k ≤ s.size ∧ i = .int .i64 k ∧ ∀ j (hj : j < s.size), j < k → wordc s[j] = true) (fun i => s.size - (intOf i).toNat)
      case atStart => exact ⟨0, Nat.zero_le _, rfl, fun j hj h => by omega⟩
      case round =>
        obtain ⟨k, hk, rfl, ha⟩ := hrel
        have HA : Hid (∀ j (hj : j < s.size), j < k → wordc s[j] = true) := ha
        clear ha
        by_cases hlt : k < s.size
        · by_cases hw : wordc s[k] = true
          · have HW : Hid (wordc s[k] = true) := hw
            have hw' : ((97 : Int) ≤ (s[k].toNat : Int) ∧ (s[k].toNat : Int) ≤ 122) ∨ ((48 : Int) ≤ (s[k].toNat : Int) ∧ (s[k].toNat : Int) ≤ 57) := by
              simp only [wordc, isLow, isDig, Bool.or_eq_true, Bool.and_eq_true, decide_eq_true_eq] at hw; omega
            clear hw
            rcases hw' with ⟨c1, c2⟩ | ⟨c1, c2⟩
            all_goals
              go_wp2
              go_round
              case rel => exact ⟨k + 1, by omega, by go_num, nm_step hlt HA.out HW.out⟩
              case measure => simp [intOf]; omega
          · have hw0 : wordc s[k] = false := by simpa using hw
            have HW : Hid (wordc s[k] = false) := hw0
            clear hw0
            have hw' : ¬ ((97 : Int) ≤ (s[k].toNat : Int) ∧ (s[k].toNat : Int) ≤ 122) ∧ ¬ ((48 : Int) ≤ (s[k].toNat : Int) ∧ (s[k].toNat : Int) ≤ 57) := by
              simp only [wordc, isLow, isDig, Bool.or_eq_true, Bool.and_eq_true, decide_eq_true_eq] at hw; omega
            clear hw
            obtain ⟨n1, n2⟩ := hw'
            have hfin : nameOk s.data.toList = false := nameOk_bad_at _ k (by simpa using hlt) (by rw [bget s k hlt]; exact HW.out)
            have HF : Hid (nameOk s.data.toList = false) := hfin
            clear hfin
            by_cases c1 : (97 : Int) ≤ (s[k].toNat : Int)
            · have c2 : (122 : Int) < (s[k].toNat : Int) := by omega
              have d2 : decide ((s[k].toNat : Int) ≤ 122) = false := decide_eq_false (by omega)
              have d3 : decide ((s[k].toNat : Int) ≤ 57) = false := decide_eq_false (by omega)
              have c4 : (48 : Int) ≤ (s[k].toNat : Int) := by omega
              clear n1 n2 c2
              go_wp2
              go_ret
              exact ⟨ret_bool HF.out.symm, rfl⟩
            · by_cases c3 : (48 : Int) ≤ (s[k].toNat : Int)
              · have c4 : ¬ ((s[k].toNat : Int) ≤ 57) := fun h => n2 ⟨c3, h⟩
                clear n1 n2
                go_wp2
                go_ret
                exact ⟨ret_bool HF.out.symm, rfl⟩
              · clear n1 n2
                go_wp2
                go_ret
                exact ⟨ret_bool HF.out.symm, rfl⟩
        · have hfin : nameOk s.data.toList = true := nameOk_good _ (by simpa using hl1) (by simpa using hl2) (by rw [HL.out]; exact HH.out) (fun i hi => by rw [bget s i (by simpa using hi)]; exact HA.out i _ (by simp at hi; omega))
          have HF : Hid (nameOk s.data.toList = true) := hfin
          clear hfin
          go_wp2
          go_ret
          exact ⟨ret_bool HF.out.symm, rfl⟩
    · have hfin : nameOk s.data.toList = false := nameOk_bad_head _ (by rw [HL.out]; simpa using hh)
      have HF : Hid (nameOk s.data.toList = false) := hfin
      have hh' : ¬ ((97 : Int) ≤ (s[0].toNat : Int) ∧ (s[0].toNat : Int) ≤ 122) := by
        simp only [isLow, Bool.and_eq_true, decide_eq_true_eq] at hh; omega
      clear hfin hh
      by_cases c1 : (s[0].toNat : Int) < 97
      · clear hh'
        go_enter Tryz.func41, Tryz.ntmps41
        go_wp2_with (go_at_call 39; refine (l1In_t _ _ _ _ (by omega) (by omega)).mono ?_; rintro e w' ⟨rfl, rfl⟩)
        go_ret
        exact ⟨ret_bool HF.out.symm, rfl⟩
      · have c2 : (122 : Int) < (s[0].toNat : Int) := by omega
        clear hh'
        go_enter Tryz.func41, Tryz.ntmps41
        go_wp2_with (go_at_call 39; refine (l1In_t _ _ _ _ (by omega) (by omega)).mono ?_; rintro e w' ⟨rfl, rfl⟩)
        go_ret
        exact ⟨ret_bool HF.out.symm, rfl⟩
  · have hfin : nameOk s.data.toList = false := nameOk_bad_len _ (by simpa using hl)
    have HF : Hid (nameOk s.data.toList = false) := hfin
    have hl' : (s.size : Int) < 1 ∨ (8 : Int) < (s.size : Int) := by omega
    clear hfin hl
    go_enter Tryz.func41, Tryz.ntmps41
    go_wp2_with (go_at_call 39; refine (l1In_f _ _ _ _ hl').mono ?_; rintro e w' ⟨rfl, rfl⟩)
    go_ret
    exact ⟨ret_bool HF.out.symm, rfl⟩
end Go.Proofs.YtbngjpnbjknliaaGreatDoor

namespace Go.Proofs.YtbngjpnbjknliaaGreatDoor
set_option linter.unusedVariables false
set_option linter.unusedSimpArgs false
open Go.RowKit Go

theorem l1In_d (n lo hi : Int) (w : World) :
    Calls Tryz.prog 39 #[.int .i64 n, .int .i64 lo, .int .i64 hi] w fun e w' => e = .returned (.bool (decide (lo ≤ n ∧ n ≤ hi))) ∧ w' = w := by
  by_cases h : lo ≤ n ∧ n ≤ hi
  · rw [decide_eq_true h]; exact l1In_t n lo hi w h.1 h.2
  · rw [decide_eq_false h]; exact l1In_f n lo hi w (by omega)

/-- A number of the workflows: -9999 to 9999. -/
def numIn (n : Int) : Bool := decide (-9999 ≤ n ∧ n ≤ 9999)

set_option maxHeartbeats 400000 in
theorem l11Num (n : Int) (w : World) :
    Calls Tryz.prog 58 #[.int .i64 n] w fun e w' => e = .returned (.bool (numIn n)) ∧ w' = w := by
  have HI : Hid (∀ w, Calls Tryz.prog 39 #[.int .i64 n, .int .i64 (-9999), .int .i64 9999] w fun e w' => e = .returned (.bool (numIn n)) ∧ w' = w) := fun w => l1In_d n (-9999) 9999 w
  go_enter Tryz.func58, Tryz.ntmps58
  go_wp2_with (go_at_call 39; refine (HI.out _).mono ?_; rintro e w' ⟨rfl, rfl⟩)
  go_ret
  exact ⟨rfl, rfl⟩

def numsIn (zs : List Int) : Bool := zs.all numIn
theorem numsIn_no {zs : List Int} {k : Nat} (hk : k < zs.length) (h : numIn (zs.getD k 0) = false) : numsIn zs = false := by
  rw [getD_at zs k hk] at h
  rw [numsIn, List.all_eq_false]; exact ⟨_, List.getElem_mem hk, by simp [h]⟩
theorem numsIn_yes {zs : List Int} (h : ∀ i (hi : i < zs.length), numIn (zs.getD i 0) = true) : numsIn zs = true := by
  rw [numsIn, List.all_eq_true]; intro x hx; obtain ⟨i, hi, rfl⟩ := List.mem_iff_getElem.1 hx; have := h i hi; rwa [getD_at zs i hi] at this

set_option maxHeartbeats 400000 in
theorem l11Nums (a : Option Addr) (len cap : Nat) (zs : List Int) (w : World) (hr : IsRow .i64 w a len cap zs) :
    Calls Tryz.prog 40 #[.slice a len cap] w fun e w' => e = .returned (.bool (numsIn zs)) ∧ w' = w := by
  obtain ⟨hz, hm⟩ := hr.len
  unfold maxLen at hm
  have HR : Hid (IsRow .i64 w a len cap zs) := hr
  clear hr
  have HN : Hid (∀ n w, Calls Tryz.prog 58 #[.int .i64 n] w fun e w' => e = .returned (.bool (numIn n)) ∧ w' = w) := l11Num
  go_enter Tryz.func40, Tryz.ntmps40
  go_wp2
  go_loop [3] (fun i => ∃ k : Nat, k ≤ len ∧ i = .int .i64 k ∧ ∀ i (hi : i < zs.length), i < k → numIn (zs.getD i 0) = true) (fun i => len - (intOf i).toNat)
  case atStart => exact ⟨0, Nat.zero_le _, rfl, fun i _ h => by omega⟩
  case round =>
    obtain ⟨k, hk, rfl, ha⟩ := hrel
    have HA : Hid (∀ i (hi : i < zs.length), i < k → numIn (zs.getD i 0) = true) := ha
    clear ha
    by_cases hlt : k < len
    · obtain ⟨b, off, rfl, h1, h2, hc⟩ := IsRow.at HR.out hlt
      have HNk := fun w => HN.out (zs.getD k 0) w
      by_cases hn : numIn (zs.getD k 0) = true
      · rw [hn] at HNk
        have HNk : Hid _ := HNk
        have HA' : Hid (∀ i (hi : i < zs.length), i < k + 1 → numIn (zs.getD i 0) = true) := fun i hi hik => by
          by_cases e : i = k
          · subst e; exact hn
          · exact HA.out i hi (by omega)
        clear hn
        generalize zs.getD k 0 = z at HNk hc
        go_wp2_with (go_at_call 58; refine (HNk.out _).mono ?_; rintro e w' ⟨rfl, rfl⟩)
        go_round
        case rel => exact ⟨k + 1, by omega, by go_num, HA'.out⟩
        case measure => simp [intOf]; omega
      · have hn : numIn (zs.getD k 0) = false := by simpa using hn
        rw [hn] at HNk
        have HNk : Hid _ := HNk
        have HF : Hid (numsIn zs = false) := numsIn_no (by omega) hn
        clear hn
        generalize zs.getD k 0 = z at HNk hc
        go_wp2_with (go_at_call 58; refine (HNk.out _).mono ?_; rintro e w' ⟨rfl, rfl⟩)
        go_ret
        exact ⟨ret_bool HF.out.symm, rfl⟩
    · have HF : Hid (numsIn zs = true) := numsIn_yes fun i hi => HA.out i hi (by omega)
      go_wp2
      go_ret
      exact ⟨ret_bool HF.out.symm, rfl⟩

/-- A byte of a key: a figure, a point, a stroke. -/
def keyc (c : UInt8) : Bool := decide (c.toNat = 46) || decide (c.toNat = 45) || isDig c
def keyOk (s : List UInt8) : Bool := s.all keyc && decide (1 ≤ s.length) && decide (s.length ≤ 24)
theorem keyOk_bad_at (s : List UInt8) (k : Nat) (hk : k < s.length) (h : keyc s[k] = false) : keyOk s = false := by
  have : s.all keyc = false := by
    rw [List.all_eq_false]; exact ⟨s[k], List.getElem_mem hk, by simp [h]⟩
  simp [keyOk, this]
theorem keyOk_all (s : List UInt8) (h : ∀ i (hi : i < s.length), keyc s[i] = true) : keyOk s = decide ((1 : Int) ≤ (s.length : Int) ∧ (s.length : Int) ≤ 24) := by
  have : s.all keyc = true := by
    rw [List.all_eq_true]; intro x hx; obtain ⟨i, hi, rfl⟩ := List.mem_iff_getElem.1 hx; exact h i hi
  simp only [keyOk, this, Bool.true_and]
  rw [← Bool.decide_and]
  exact decide_eq_decide.2 (by omega)

set_option maxHeartbeats 1000000 in
theorem l11Key (s : ByteArray) (w : World) (hs : s.size ≤ maxLen) :
    Calls Tryz.prog 42 #[.string s] w fun e w' => e = .returned (.bool (keyOk s.data.toList)) ∧ w' = w := by
  unfold maxLen at hs
  have HI : Hid (∀ n w, Calls Tryz.prog 39 #[.int .i64 n, .int .i64 1, .int .i64 24] w fun e w' => e = .returned (.bool (decide (1 ≤ n ∧ n ≤ 24))) ∧ w' = w) := fun n w => l1In_d n 1 24 w
  go_enter Tryz.func42, Tryz.ntmps42
  go_wp2
  go_loop [3] (fun i => ∃ k : Nat, k ≤ s.size ∧ i = .int .i64 k ∧ ∀ j (hj : j < s.size), j < k → keyc s[j] = true) (fun i => s.size - (intOf i).toNat)
  case atStart => exact ⟨0, Nat.zero_le _, rfl, fun j hj h => by omega⟩
  case round =>
    obtain ⟨k, hk, rfl, ha⟩ := hrel
    have HA : Hid (∀ j (hj : j < s.size), j < k → keyc s[j] = true) := ha
    clear ha
    by_cases hlt : k < s.size
    · by_cases hw : keyc s[k] = true
      · have HA' : Hid (∀ j (hj : j < s.size), j < k + 1 → keyc s[j] = true) := fun j hj hjk => by
          by_cases e : j = k
          · subst e; exact hw
          · exact HA.out j hj (by omega)
        have hw' : (s[k].toNat : Int) = 46 ∨ ((s[k].toNat : Int) ≠ 46 ∧ (s[k].toNat : Int) = 45) ∨ ((s[k].toNat : Int) ≠ 46 ∧ (s[k].toNat : Int) ≠ 45 ∧ (48 : Int) ≤ (s[k].toNat : Int) ∧ (s[k].toNat : Int) ≤ 57) := by
          simp only [keyc, isDig, Bool.or_eq_true, Bool.and_eq_true, decide_eq_true_eq] at hw; omega
        clear hw
        rcases hw' with c1 | ⟨c1, c2⟩ | ⟨c1, c2, c3, c4⟩
        all_goals
          go_wp2
          go_round
          case rel => exact ⟨k + 1, by omega, by go_num, HA'.out⟩
          case measure => simp [intOf]; omega
      · have hw0 : keyc s[k] = false := by simpa using hw
        have HF : Hid (keyOk s.data.toList = false) := keyOk_bad_at _ k (by simpa using hlt) (by rw [bget s k hlt]; exact hw0)
        have hw' : (s[k].toNat : Int) ≠ 46 ∧ (s[k].toNat : Int) ≠ 45 ∧ ((s[k].toNat : Int) < 48 ∨ (57 : Int) < (s[k].toNat : Int)) := by
          simp only [keyc, isDig, Bool.or_eq_true, Bool.and_eq_true, decide_eq_true_eq] at hw; omega
        clear hw hw0
        obtain ⟨c1, c2, c3⟩ := hw'
        have d1 : ((s[k].toNat : Int) == 46) = false := by simpa using c1
        have d2 : ((s[k].toNat : Int) == 45) = false := by simpa using c2
        rcases c3 with c3 | c3
        · go_wp2
          go_ret
          exact ⟨ret_bool HF.out.symm, rfl⟩
        · have c4 : (48 : Int) ≤ (s[k].toNat : Int) := by omega
          have c5 : ¬ ((s[k].toNat : Int) ≤ 57) := by omega
          clear c3
          go_wp2
          go_ret
          exact ⟨ret_bool HF.out.symm, rfl⟩
    · have hf : keyOk s.data.toList = (decide ((1 : Int) ≤ (s.size : Int)) && decide ((s.size : Int) ≤ 24)) := by
        have := keyOk_all s.data.toList (fun i hi => by rw [bget s i (by simpa using hi)]; exact HA.out i _ (by simp at hi; omega))
        simpa using this
      have HF : Hid _ := hf
      clear hf
      go_wp2_with (go_at_call 39; refine (HI.out _ _).mono ?_; rintro e w' ⟨rfl, rfl⟩)
      go_ret
      exact ⟨ret_bool HF.out.symm, rfl⟩
end Go.Proofs.YtbngjpnbjknliaaGreatDoor
