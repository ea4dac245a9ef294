/- The program's own board of rows of words. -/
import Derived.Test.YtdanfekodmncmaaDoorWI1
import Derived.Test.YtdanfekodmncmaaDoorSHB
namespace Go.Proofs.YtdanfekodmncmaaDoor
set_option linter.unusedVariables false
set_option linter.unusedSimpArgs false
open Go.RowKit Go

theorem builder_below {T e : TypeId} {B b : Nat} {bs : List Value} {w w' : World} (h : Lib.IsBuilderF T e B b bs w) (hb : Below w.heap.size w w') : Lib.IsBuilderF T e B b bs w' := by
  have key : ∀ p, Lib.BuilderAtF T e B b p bs w → Lib.BuilderAtF T e B b p bs w' := fun p h => by
    have hlt := h.lt
    obtain ⟨hB, v, hbk, hown, hne⟩ := h
    exact ⟨hB, v, (hb.block b hlt).trans hbk, hown.kept (row := none) ⟨hb.os, hb.tape, hb.output, hb.size, fun k hk _ => hb.block k hk⟩ (by cases hv : v.ownBlock <;> simp), hne⟩
  exact h.elim (fun x => .inl (key _ x)) (fun x => .inr (key _ x))
theorem joinB_join (x : ByteArray) (ys : List ByteArray) : (⟨(Lib.join ((x :: ys).map (·.data.toList)) spB.data.toList).toArray⟩ : ByteArray) = joinB x ys := by
  have key : ∀ (ys : List ByteArray) (x : ByteArray), (joinB x ys).data.toList = x.data.toList ++ Lib.joinTail spB.data.toList (ys.map (·.data.toList)) := by
    intro ys
    induction ys with
    | nil => intro x; simp [joinB, Lib.joinTail]
    | cons y r ih =>
      intro x
      have h := ih (x ++ spB ++ y)
      simp only [joinB, List.foldl_cons] at h ⊢
      rw [h]
      simp [Lib.joinTail]
  rw [List.map_cons, Lib.join_cons, ← key]
theorem joinWords (v : Value) (x : ByteArray) (ys : List ByteArray) (t : ByteArray) (w : World) (hr : Row w v (sv (x :: ys))) (hy : ys.length ≤ 1000) (hj : joinB x ys = t) (ht : t.size ≤ 1000000) :
    Calls Tryd.prog 57 #[v, .string ⟨#[32]⟩] w fun e w' => e = .returned (.string t) ∧ Below w.heap.size w w' := by
  rcases hr with ⟨_, h⟩ | ⟨b, off, cap, rfl, h1, h2, hb, hc⟩
  · simp [sv] at h
  · have hjj := joinB_join x ys
    have h3 : Lib.join ((x :: ys).map (·.data.toList)) spB.data.toList = t.data.toList := by rw [← hj, ← hjj]
    have hlen : (Lib.join ((x :: ys).map (·.data.toList)) spB.data.toList).length ≤ 140737488355328 := by
      rw [h3, Array.length_toList]; exact Nat.le_trans ht (by decide)
    have h := strings_Join b off cap (x :: ys) spB w (fun j u hu => hc j _ (by unfold sv; rw [List.getElem?_map, hu]; rfl)) hb (by simp; omega) (by rw [sv_len] at h1; exact h1) hlen
    rw [hjj, hj] at h
    rw [sv_len]
    exact h
theorem strCells_app (a b : ByteArray) : Lib.strCells (a ++ b) = Lib.strCells a ++ Lib.strCells b := by simp [Lib.strCells]
theorem strCells_nl : Lib.strCells nlB = [.int .u8 10] := rfl
theorem calT_take {rs : List Rul} {q : Nat} (h : q < rs.length) : Lib.strCells (calT (rs.take (q + 1))) = Lib.strCells (calT (rs.take q)) ++ Lib.strCells (rulT rs[q]) ++ [.int .u8 10] := by
  rw [List.take_succ_eq_append_getElem h, calT_snoc, strCells_app, strCells_app, strCells_nl]
theorem ruleW_len {r : Rul} (h : RuleOk r) : (ruleW r).length ≤ 1000 := by
  have h8 := h.2.2.2.2.1
  unfold ruleW headW butW
  split <;> simp [numS_len] <;> omega

/-- Rows of words, each of a rule. -/
def RowsOf (w : World) (v : Value) (rs : List Rul) : Prop := ∃ vs : List Value, ∃ hv : vs.length = rs.length, Row w v vs ∧ ∀ i (h : i < rs.length), Row w (vs[i]'(by omega)) (sv (evB :: ruleW rs[i]))
theorem Row.below' {w w' : World} {v : Value} {xs : List Value} (h : Row w v xs) (hb : Below w.heap.size w w') : Row w' v xs := by
  rcases h with h | ⟨b, off, cap, h1, h2, h3, h4, h5⟩
  · exact .inl h
  · exact .inr ⟨b, off, cap, h1, h2, h3, Nat.lt_of_lt_of_le h4 hb.size, fun i x hx => (hb.cell (p := ⟨b, off + i, none⟩) h4).trans (h5 i x hx)⟩

set_option maxRecDepth 100000 in
set_option maxHeartbeats 2000000 in
theorem boardOf (v : Value) (rs : List Rul) (w : World) (hr : RowsOf w v rs) (hn : rs.length ≤ 4) (hok : ∀ i (hi : i < rs.length), RuleOk rs[i]) :
    Calls Tryd.prog 36 #[v] w fun e w' => e = .returned (.string (calT rs)) ∧ Below w.heap.size w w' := by
  obtain ⟨vs, hvs, hrow, hrows⟩ := hr
  obtain ⟨a, cap, rfl⟩ := hrow.form
  rw [hvs] at hrow ⊢
  have HRW : Hid (Row w (.slice a rs.length cap) vs) := hrow
  have HRS : Hid (∀ i (h : i < rs.length), Row w (vs[i]'(by omega)) (sv (evB :: ruleW rs[i]))) := hrows
  have HOK : Hid (∀ i (hi : i < rs.length), RuleOk rs[i]) := hok
  clear hrow hrows hok
  go_enter Tryd.func36, Tryd.ntmps36
  go_wp2_with fail
  go_loopw [8] (fun i wr => ∃ q : Nat, i = .int .i64 q ∧ q ≤ rs.length ∧ Lib.IsBuilderF 90 5 w.heap.size w.heap.size (Lib.strCells (calT (rs.take q))) wr ∧ Below w.heap.size w wr) (fun i _ => rs.length - (intOf i).toNat)
  case atStart =>
    exact ⟨0, rfl, Nat.zero_le _, Lib.IsBuilderF.of (.inl ⟨Nat.le_refl _, _, heap_alloc_new w _, World.ownsRow_nil _ _ _ _, by simp [Value.ownBlock]⟩), (Below.refl _ _).alloc (Nat.le_refl _) _⟩
  case round =>
    obtain ⟨q, rfl, hq, hbu, hb⟩ := hrel
    have HBU : Hid (Lib.IsBuilderF 90 5 w.heap.size w.heap.size (Lib.strCells (calT (rs.take q))) wr) := hbu
    clear hbu
    have hs0 := hb.size
    by_cases hlt : q < rs.length
    · have hts := rulT_size (HOK.out q hlt)
      have hhs : (Lib.strCells (calT (rs.take q))).length ≤ 301 * 4 := by
        rw [Lib.strCells_length]
        exact Nat.le_trans (calT_size HOK.out q hq) (by omega)
      have HTK : Hid (Lib.strCells (calT (rs.take (q + 1))) = Lib.strCells (calT (rs.take q)) ++ Lib.strCells (rulT rs[q]) ++ [.int .u8 10]) := calT_take hlt
      have hcell : ∃ b off, a = some ⟨b, off, none⟩ ∧ rs.length ≤ cap ∧ wr.cell? ⟨b, off + q, none⟩ = some (vs[q]'(by omega)) := by
        rcases HRW.out.below' hb with ⟨h1, h2⟩ | ⟨b, off, cp, h1, h2, h3, h4, h5⟩
        · rw [h2] at hvs; simp at hvs; omega
        · simp only [Value.slice.injEq] at h1
          obtain ⟨rfl, h6, rfl⟩ := h1
          exact ⟨b, off, rfl, by omega, h5 q _ (List.getElem?_eq_getElem _)⟩
      obtain ⟨b, off, rfl, hcap, hc⟩ := hcell
      have hJ := joinWords (vs[q]'(by omega)) evB (ruleW rs[q]) (rulT rs[q]) wr ((HRS.out q hlt).below' hb) (ruleW_len (HOK.out q hlt)) (joinB_rule _) (by omega)
      generalize vs[q]'(by omega) = vq at hc hJ
      have HJ : Hid _ := hJ
      clear hJ
      generalize rulT rs[q] = t at HJ hts HTK
      generalize Lib.strCells (calT (rs.take q)) = bs at HBU hhs HTK
      go_wp2_with first
        | (go_at_call 57; refine Calls.mono HJ.out ?_; rintro e w3 ⟨rfl, hw3⟩; have HB3 := builder_below HBU.out hw3; have hb3 := bcall hb hs0 hw3; have hs3 := hb3.size)
        | (go_at_call 56; refine (Builder_WriteString_k w.heap.size w.heap.size bs t w3 HB3 (by omega) hs3).mono ?_; rintro e w4 ⟨rfl, HB4, hw4, _⟩; have hb4 := hb3.trans hw4; have hs4 := hb4.size)
        | (go_at_call 58; refine (Builder_WriteByte_k w.heap.size w.heap.size (bs ++ Lib.strCells t) 10 w4 (.inr HB4) (by simp [Lib.strCells_length]; omega) hs4).mono ?_; rintro e w5 ⟨rfl, HB5, hw5, _⟩)
      go_roundw
      case rel => exact ⟨q + 1, by go_num, by omega, by rw [HTK.out]; exact .inr HB5, hb4.trans hw5⟩
      case measure => simp [intOf]; omega
    · have he : rs.take q = rs := List.take_of_length_le (by omega)
      rw [he] at HBU
      have HS : Hid (Calls Tryd.prog 59 #[.pointer (some ⟨w.heap.size, 0, none⟩)] wr fun e w' => e = .returned (.string ⟨(calT rs).data.toList.toArray⟩) ∧ (Lib.IsBuilderF 90 5 w.heap.size w.heap.size (Lib.byteCells (calT rs).data.toList) w' ∧ Below w.heap.size wr w' ∧ Lib.OthersKept 5 (some w.heap.size) wr w')) := Builder_String_any_k w.heap.size w.heap.size (calT rs).data.toList wr HBU.out hb.size
      go_wp2_with (go_at_call 59; refine HS.out.mono ?_; rintro e w2 ⟨rfl, _, hw2, _⟩)
      go_ret
      exact ⟨rfl, hb.trans hw2⟩
end Go.Proofs.YtdanfekodmncmaaDoor
