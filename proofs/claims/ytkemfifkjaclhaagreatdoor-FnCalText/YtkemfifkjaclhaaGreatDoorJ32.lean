/- Helpers for the reading of a calendar. -/
import Derived.Test.YtkemfifkjaclhaaGreatDoorJ29
import Derived.Test.YtkemfifkjaclhaaGreatDoorJ30
import Derived.Test.YtkemfifkjaclhaaGreatDoorJ31
import Derived.RangeFuncFrom
import Derived.Shelf.Abstract
namespace Go.Proofs.YtkemfifkjaclhaaGreatDoor
set_option linter.unusedVariables false
set_option linter.unusedSimpArgs false
open Go.RowKit Go
attribute [local go_sem] Oper.semAt_some

theorem textLines (s : ByteArray) (w : World) :
    Calls Tryz.prog 31 #[.string s] w fun e w' => e = .returned (.func (.func 49) #[] #[.pointer (some ⟨w.heap.size, 0, none⟩)]) ∧ w' = w.alloc (.cells #[.string s] 9) := by
  go_enter Tryz.func31, Tryz.ntmps31
  go_wp2
  go_ret
  exact ⟨rfl, rfl⟩

theorem linesFrom_size (s : ByteArray) : ∀ (f pos : Nat) (acc : List UInt8), ∀ x ∈ linesFrom s f pos acc, x.size ≤ acc.length + 4 * f := by
  intro f
  induction f with
  | zero => intro pos acc x hx; simp [linesFrom] at hx
  | succ f ih =>
    intro pos acc x hx
    rw [linesFrom] at hx
    split at hx
    · split at hx
      · rcases List.mem_cons.1 hx with rfl | hx
        · show acc.toArray.size ≤ _; simp; try omega
        · have := ih _ _ x hx; simp at this; omega
      · have := ih _ _ x hx
        have hl4 := Lib.runeCells_le ((Utf8.decode s pos).1 : Int)
        rw [Lib.runeCells_length] at hl4
        simp at this; omega
    · cases hx
theorem linesFrom_many (s : ByteArray) : ∀ (f pos : Nat) (acc : List UInt8), (linesFrom s f pos acc).length ≤ f := by
  intro f
  induction f with
  | zero => intro pos acc; simp [linesFrom]
  | succ f ih =>
    intro pos acc
    rw [linesFrom]
    split
    · split
      · simp; exact ih _ _
      · have := ih (pos + (Utf8.decode s pos).2) (acc ++ Lib.encodeRune (Utf8.decode s pos).1); omega
    · simp

namespace Cal
theorem sameT_did {B : Nat} {X Y : World} (h : Did B X Y) : SameT X Y := by
  refine ⟨h.size, fun k c fz hk => h.same k _ hk ?_, fun k c fz hk => h.same k _ hk ?_⟩
  · rintro (ho | ⟨_, _, ho⟩ | ⟨_, _, ho⟩)
    · cases ho
    · simp at ho
    · simp at ho
  · rintro (ho | ⟨_, _, ho⟩ | ⟨_, _, ho⟩)
    · cases ho
    · simp at ho
    · simp at ho
theorem boxed_low {W W' : World} {B k : Nat} {t : TypeId} {v : Value} (h : Boxed W k t v) (hk : k < B) (hl : ∀ k : Nat, k < B → W'.heap[k]? = W.heap[k]?) : Boxed W' k t v := (hl k hk).trans h
theorem gath_push {w w' : World} {base base' : Nat} {v v' v4 : Value} {es : List Rul} {e : Rul} {vs : List Value} (hv : vs.length = es.length) (h1 : w.ownsRow base 50 5 v es.length (flatR es vs))
    (h2 : ∀ i (h : i < es.length), w.ownsRow base 3 1 (vs[i]'(by omega)) es[i].but.length (es[i].but.map (Value.int .i64)) ∧ GoodR es[i])
    (h3 : ∀ i j (hi : i < vs.length) (hj : j < vs.length), i < j → ∀ b c, vs[i].ownBlock = some b → vs[j].ownBlock = some c → b < c)
    (h4 : w.ownsRow base' 3 1 v4 e.but.length (e.but.map (Value.int .i64))) (hbb : base ≤ base') (hge : GoodR e) (hfar : ∀ i (hi : i < vs.length) b, vs[i].ownBlock = some b → b < base')
    (hown : w'.ownsRow base 50 5 v' (es.length + 1) (flatR es vs ++ cellsR e v4)) (hg : w.grownBy w' v.ownBlock) : Gath w' base v' (es ++ [e]) := by
  have hnum : ∀ (k : Nat) (c : Array Value) (fz : Nat × Nat), w.heap[k]? = some (.cells c 3 fz) → w'.heap[k]? = some (.cells c 3 fz) := fun k c fz hk => by
    refine (hg.block k (Array.getElem?_eq_some_iff.1 hk).1 (fun e => ?_)).trans hk
    rcases h1.2 with ⟨rfl, _⟩ | ⟨g, cap, cur, rfl, _, hgg, _⟩
    · simp [Value.ownBlock] at e
    · simp [Value.ownBlock] at e
      subst e
      rw [hk] at hgg
      simp at hgg
  refine ⟨vs ++ [v4], by simp [hv], by rw [flatR_snoc hv]; simpa using hown, fun i hi => ?_, fun i j hi hj hij b c hb hc => ?_⟩
  · by_cases h : i < es.length
    · have := h2 i h
      rw [List.getElem_append_left (by omega : i < vs.length), List.getElem_append_left h]
      exact ⟨own_rows this.1 hnum, this.2⟩
    · have hie : i = es.length := by simp at hi; omega
      subst hie
      rw [List.getElem_append_right (by omega : vs.length ≤ es.length), List.getElem_append_right (Nat.le_refl _)]
      simp only [Nat.sub_self, List.getElem_cons_zero, hv]
      exact ⟨own_rows (own_less h4 hbb) hnum, hge⟩
  · have hi' : i < vs.length := by simp at hi hj; omega
    rw [List.getElem_append_left hi'] at hb
    by_cases hj' : j < vs.length
    · rw [List.getElem_append_left hj'] at hc
      exact h3 i j hi' hj' hij b c hb hc
    · have hje : j = vs.length := by simp at hj; omega
      subst hje
      rw [List.getElem_append_right (Nat.le_refl _)] at hc
      simp only [Nat.sub_self, List.getElem_cons_zero] at hc
      have hb1 := hfar i hi' b hb
      have hc1 := (h4.lt c hc).1
      omega
theorem own_sliceN {w : World} {base : Nat} {e : TypeId} {size : Nat} {v : Value} {n : Nat} {xs : List Value} (h : w.ownsRow base e size v n xs) : ∃ a c, v = .slice a n c := by
  rcases h.2 with ⟨rfl, rfl⟩ | ⟨g, cap, cur, rfl, _⟩
  · exact ⟨none, 0, rfl⟩
  · exact ⟨_, _, rfl⟩
theorem keepsFrom_below {B : Nat} {W W' : World} (h : Below W.heap.size W W') : KeepsFrom B W W' := ⟨h.size, fun k o _ hk _ => (h.block k (Array.getElem?_eq_some_iff.1 hk).1).trans hk⟩
theorem keepsFrom_set {B : Nat} {W : World} {k : Nat} {t : TypeId} {v : Value} (h : Boxed W k t v) (u : Value) : KeepsFrom B W (W.setCell ⟨k, 0, none⟩ u) := by
  refine ⟨by simp, fun j o _ hj ho => ?_⟩
  rw [Below.heap_setCell W ⟨k, 0, none⟩ u j ?_]; · exact hj
  rintro rfl
  rw [show W.heap[j]? = _ from h] at hj; cases hj; cases ho

theorem keepsFrom_grown {B : Nat} {W W' : World} {base : Nat} {e : TypeId} {size : Nat} {v : Value} {n : Nat} {xs : List Value} (h : W.ownsRow base e size v n xs) (hg : W.grownBy W' v.ownBlock) : KeepsFrom B W W' := by
  refine ⟨hg.size, fun k o _ hk ho => (hg.block k (Array.getElem?_eq_some_iff.1 hk).1 (fun e => ?_)).trans hk⟩
  rcases h.2 with ⟨rfl, _⟩ | ⟨g, cap, cur, rfl, _, hgg, _⟩
  · simp [Value.ownBlock] at e
  · simp [Value.ownBlock] at e
    subst e
    rw [hk] at hgg; cases hgg; cases ho
theorem kept_grown {W W' : World} {base : Nat} {size : Nat} {v : Value} {n : Nat} {xs : List Value} (h : W.ownsRow base 50 size v n xs) (hg : W.grownBy W' v.ownBlock) : Kept W W' := by
  refine ⟨hg.size, fun k o hk ho => (hg.block k (Array.getElem?_eq_some_iff.1 hk).1 (fun e => ?_)).trans hk⟩
  rcases h.2 with ⟨rfl, _⟩ | ⟨g, cap, cur, rfl, _, hgg, _⟩
  · simp [Value.ownBlock] at e
  · simp [Value.ownBlock] at e
    subst e
    rw [hk] at hgg; cases hgg
    rcases ho with ho | ⟨_, _, ho⟩ | ⟨_, _, ho⟩
    · cases ho
    · simp at ho
    · simp at ho
theorem kept_set {W : World} {k : Nat} {v : Value} (h : Boxed W k 24 v) (u : Value) : Kept W (W.setCell ⟨k, 0, none⟩ u) := by
  refine ⟨by simp, fun j o hj ho => ?_⟩
  rw [Below.heap_setCell W ⟨k, 0, none⟩ u j ?_]; · exact hj
  rintro rfl
  rw [show W.heap[j]? = _ from h] at hj; cases hj
  rcases ho with ho | ⟨_, _, ho⟩ | ⟨_, _, ho⟩
  · cases ho
  · simp at ho
  · simp at ho
theorem sameT_set {W : World} {k : Nat} {t : TypeId} {v : Value} (h : Boxed W k t v) (ht1 : t ≠ 50) (ht2 : t ≠ 3) (u : Value) : SameT W (W.setCell ⟨k, 0, none⟩ u) := by
  refine ⟨by simp, fun j c fz hj => ?_, fun j c fz hj => ?_⟩
  · rw [Below.heap_setCell W ⟨k, 0, none⟩ u j ?_]; · exact hj
    rintro rfl
    rw [show W.heap[j]? = _ from h] at hj; cases hj; exact ht1 rfl
  · rw [Below.heap_setCell W ⟨k, 0, none⟩ u j ?_]; · exact hj
    rintro rfl
    rw [show W.heap[j]? = _ from h] at hj; cases hj; exact ht2 rfl
theorem sameT_put {W : World} {D : Nat} {o o' : Obj} (h : W.heap[D]? = some o) (ho : o.isCells = false) : SameT W (W.putObj D o') :=
  SameT.grown (grownBy_putObj' W D o') (fun r e c fz => by cases e; rw [h]; exact ⟨(fun hh => by cases hh; cases ho), (fun hh => by cases hh; cases ho)⟩)


/-- A text ends in a newline. -/
def Ends (s : ByteArray) : Prop := ∃ h : 0 < s.size, (s[s.size - 1]'(by omega)) = 10
theorem hasNl0 (s : ByteArray) (hs : s.size ≤ 1000000) (w : World) : Calls Tryz.prog 55 #[.string s, .string ⟨#[10]⟩] w fun e w' => SaysIf e (Ends s) ∧ w' = w := by
  by_cases h0 : 0 < s.size
  · have h1 : (1 : Int) ≤ (s.size : Int) := by omega
    go_enter Tryz.func55, Tryz.ntmps55
    go_wp2
    go_ret
    refine ⟨⟨_, rfl, ?_⟩, rfl⟩
    have e : (s.extract (s.size - 1) s.size).toList = [s[s.size - 1]'(by omega)] := by
      have hlt : s.size - 1 < s.data.toList.length := by rw [Array.length_toList]; show s.size - 1 < s.size; omega
      rw [ByteArray.toList_eq, ext_data, List.drop_eq_getElem_cons hlt, show s.size - (s.size - 1) = 1 by omega]
      rfl
    rw [e]
    constructor
    · intro h; exact ⟨h0, by simpa using h⟩
    · rintro ⟨_, h⟩; simpa using h
  · have h1 : ¬ (1 : Int) ≤ (s.size : Int) := by omega
    go_enter Tryz.func55, Tryz.ntmps55
    go_wp2
    go_ret
    exact ⟨⟨false, rfl, by constructor; (intro h; cases h); (rintro ⟨h, _⟩; omega)⟩, rfl⟩
theorem hasNl (s : ByteArray) (hs : s.size ≤ 1000000) (w : World) : Calls Tryz.prog 33 #[.string s, .string ⟨#[10]⟩] w fun e w' => SaysIf e (Ends s) ∧ w' = w := by
  have HH : Hid _ := hasNl0 s hs w
  go_enter Tryz.func33, Tryz.ntmps33
  go_wp2_with fail
  refine Calls.mono HH.out ?_
  rintro e w1 ⟨⟨v, rfl, hv⟩, hw⟩
  subst w1
  have HV : Hid _ := hv
  clear hv
  go_wp2_with fail
  go_ret
  exact ⟨⟨v, rfl, HV.out⟩, rfl⟩
end Cal
end Go.Proofs.YtkemfifkjaclhaaGreatDoor
