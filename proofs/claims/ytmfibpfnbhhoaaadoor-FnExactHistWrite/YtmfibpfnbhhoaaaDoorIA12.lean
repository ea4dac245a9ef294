/- The program's HistWrite: what the model's answers. -/
import Derived.Test.YtmfibpfnbhhoaaaDoorIA11
import Derived.Test.YtmfibpfnbhhoaaaDoorSHB
import Derived.Test.YtmfibpfnbhhoaaaDoorHW6
namespace Go.Proofs.YtmfibpfnbhhoaaaDoor
set_option linter.unusedVariables false
set_option linter.unusedSimpArgs false
open Go.RowKit Go

theorem builder_below {T e : TypeId} {B b : Nat} {bs : List Value} {w w' : World} (h : Lib.IsBuilderF T e B b bs w) (hb : Below w.heap.size w w') : Lib.IsBuilderF T e B b bs w' := by
  have key : ∀ p, Lib.BuilderAtF T e B b p bs w → Lib.BuilderAtF T e B b p bs w' := fun p h => by
    have hlt := h.lt
    obtain ⟨hB, v, hbk, hown, hne⟩ := h
    exact ⟨hB, v, (hb.block b hlt).trans hbk, hown.kept (row := none) ⟨hb.os, hb.tape, hb.output, hb.size, fun k hk _ => hb.block k hk⟩ (by cases hv : v.ownBlock <;> simp), hne⟩
  exact h.elim (fun x => .inl (key _ x)) (fun x => .inr (key _ x))

/-- Words, a space between. -/
def joinB (x : ByteArray) (ys : List ByteArray) : ByteArray := ys.foldl (fun o y => o ++ spB ++ y) x
theorem joinB_app (x : ByteArray) (ys zs : List ByteArray) : joinB x (ys ++ zs) = joinB (joinB x ys) zs := by simp [joinB]
theorem joinB_nums (x : ByteArray) (zs : List Int) : joinB x (numS zs) = numsT x zs := by simp [joinB, numsT, numS, List.foldl_map]
theorem joinB_join (x : ByteArray) (ys : List ByteArray) : (⟨(Lib.join ((x :: ys).map (·.data.toList)) spB.data.toList).toArray⟩ : ByteArray) = joinB x ys := by
  have key : ∀ (ys : List ByteArray) (x : ByteArray), (joinB x ys).data.toList = x.data.toList ++ Lib.joinTail spB.data.toList (ys.map (·.data.toList)) := by
    intro ys
    induction ys with
    | nil => intro x; simp [joinB, Lib.joinTail]
    | cons y r ih =>
      intro x
      have h := ih (x ++ spB ++ y)
      simp only [joinB, List.foldl_cons] at h ⊢
      rw [h]
      simp [Lib.joinTail]
  rw [List.map_cons, Lib.join_cons, ← key]

/-- The words of an entry that is ok, one behind the other: its text. -/
theorem entryWords (kind id : Int) (key name : ByteArray) (a : Option Addr) (len cap : Nat) (zs : List Int) (w : World) (hr : IsRow .i64 w a len cap zs) (ht : Tab w) (hok : entOk ⟨kind, id, key, name, zs⟩ = true) :
    Calls Tryd.prog 17 #[.agg #[.int .i64 kind, .int .i64 id, .string key, .string name, .slice a len cap]] w fun e w' => ∃ v x ys, e = .returned v ∧ (Row w' v (sv (x :: ys)) ∧ ys.length ≤ 8 ∧ joinB x ys = entText ⟨kind, id, key, name, zs⟩) ∧ Below w.heap.size w w' := by
  obtain ⟨hk, hi, hn, h4, hs, hz⟩ := entOk_bd hok
  simp only at hk hi hn h4 hs hz
  have hl : len ≤ 1048576 := by rw [← hr.len.1]; omega
  have hw : (Lit.int .i64 id).wf = true := by
    have hmin : IntKind.i64.min = -9223372036854775808 := rfl
    have hmax : IntKind.i64.max = 9223372036854775807 := rfl
    simp only [Lit.wf, Bool.and_eq_true, decide_eq_true_eq]; omega
  have hbody := hok
  simp only [entOk, entBody, Bool.and_eq_true] at hbody
  rcases (by omega : kind = 1 ∨ kind = 2 ∨ kind = 3 ∨ kind = 4 ∨ kind = 5 ∨ kind = 6 ∨ kind = 7 ∨ kind = 8 ∨ kind = 9) with rfl | rfl | rfl | rfl | rfl | rfl | rfl | rfl | rfl
  · refine (entryWords_1 id key name a len cap zs w hr ht hl hw).mono ?_
    rintro e w' ⟨v, rfl, hv, hb⟩
    exact ⟨v, _, _, rfl, ⟨hv, by rw [numS_len]; omega, by rw [joinB_nums]; rfl⟩, hb⟩
  · refine (entryWords_2 id key name a len cap zs w hr ht hl hw).mono ?_
    rintro e w' ⟨v, rfl, hv, hb⟩
    have h0 : zs.length = 0 := by have h := hbody.2; simp at h; exact List.length_eq_zero_iff.2 h.2
    have hzs : zs = [] := List.length_eq_zero_iff.1 h0
    subst hzs
    exact ⟨v, _, _, rfl, ⟨hv, by simp, rfl⟩, hb⟩
  · refine (entryWords_3 id key name a len cap zs w hr ht hl hw).mono ?_
    rintro e w' ⟨v, rfl, hv, hb⟩
    exact ⟨v, _, _, rfl, ⟨hv, by simp [numS_len]; omega, by rw [show itoB id :: key :: nmT name :: numS zs = [itoB id, key, nmT name] ++ numS zs from rfl, joinB_app, joinB_nums]; rfl⟩, hb⟩
  · refine (entryWords_4 id key name a len cap zs w hr ht hl hw).mono ?_
    rintro e w' ⟨v, rfl, hv, hb⟩
    have h0 : zs.length = 1 := by have h := hbody.2; simp at h; exact h.2
    obtain ⟨z, rfl⟩ := List.length_eq_one_iff.1 h0
    exact ⟨v, _, _, rfl, ⟨hv, by simp [hapS], rfl⟩, hb⟩
  · refine (entryWords_5 id key name a len cap zs w hr ht hl hw).mono ?_
    rintro e w' ⟨v, rfl, hv, hb⟩
    have h0 : zs.length = 1 := by have h := hbody.2; simp at h; exact h.2
    obtain ⟨z, rfl⟩ := List.length_eq_one_iff.1 h0
    exact ⟨v, _, _, rfl, ⟨hv, by simp [hapS], rfl⟩, hb⟩
  · refine (entryWords_6 id key name a len cap zs w hr ht hl hw).mono ?_
    rintro e w' ⟨v, rfl, hv, hb⟩
    have h0 : zs.length = 0 := by have h := hbody.2; simp at h; exact List.length_eq_zero_iff.2 h.2
    have hzs : zs = [] := List.length_eq_zero_iff.1 h0
    subst hzs
    exact ⟨v, _, _, rfl, ⟨hv, by simp [hapS], rfl⟩, hb⟩
  · refine (entryWords_7 id key name a len cap zs w hr ht hl hw).mono ?_
    rintro e w' ⟨v, rfl, hv, hb⟩
    have h0 : zs.length = 1 := by have h := hbody.2; simp at h; exact h.2
    obtain ⟨z, rfl⟩ := List.length_eq_one_iff.1 h0
    exact ⟨v, _, _, rfl, ⟨hv, by simp [hapS], rfl⟩, hb⟩
  · refine (entryWords_8 id key name a len cap zs w hr ht hl hw).mono ?_
    rintro e w' ⟨v, rfl, hv, hb⟩
    have h0 : zs.length = 0 := by have h := hbody.2; simp at h; exact List.length_eq_zero_iff.2 h.2
    have hzs : zs = [] := List.length_eq_zero_iff.1 h0
    subst hzs
    exact ⟨v, _, _, rfl, ⟨hv, by simp [hapS], rfl⟩, hb⟩
  · refine (entryWords_9 id key name a len cap zs w hr ht hl hw).mono ?_
    rintro e w' ⟨v, rfl, hv, hb⟩
    exact ⟨v, _, _, rfl, ⟨hv, by simp [numS_len]; omega, by rw [show itoB id :: numS zs = [itoB id] ++ numS zs from rfl, joinB_app, joinB_nums]; rfl⟩, hb⟩

/-- What the program's Join answers of them. -/
theorem joinWords (v : Value) (x : ByteArray) (ys : List ByteArray) (t : ByteArray) (w : World) (hr : Row w v (sv (x :: ys))) (hy : ys.length ≤ 8) (hj : joinB x ys = t) (ht : t.size ≤ 1000000) :
    Calls Tryd.prog 16 #[v, .string ⟨#[32]⟩] w fun e w' => e = .returned (.string t) ∧ Below w.heap.size w w' := by
  rcases hr with ⟨_, h⟩ | ⟨b, off, cap, rfl, h1, h2, hb, hc⟩
  · simp [sv] at h
  · have hjj := joinB_join x ys
    have h3 : Lib.join ((x :: ys).map (·.data.toList)) spB.data.toList = t.data.toList := by rw [← hj, ← hjj]
    have hlen : (Lib.join ((x :: ys).map (·.data.toList)) spB.data.toList).length ≤ 140737488355328 := by
      rw [h3, Array.length_toList]; exact Nat.le_trans ht (by decide)
    have h := strings_Join b off cap (x :: ys) spB w (fun j u hu => hc j _ (by unfold sv; rw [List.getElem?_map, hu]; rfl)) hb (by simp; omega) (by rw [sv_len] at h1; exact h1) hlen
    rw [hjj, hj] at h
    rw [sv_len]
    exact h

set_option maxHeartbeats 1000000 in
theorem allHold (a : Option Addr) (len cap : Nat) (es : List Ent) (w : World) (hr : IsEnts w a len cap es) :
    Calls Tryd.prog 13 #[.slice a len cap, .func (.func 14) #[] #[]] w fun e w' => e = .returned (.bool (es.all entOk)) ∧ Below w.heap.size w w' := by
  obtain ⟨hz, hm⟩ := IsRecs.len hr
  unfold maxLen at hm
  have HR : Hid (IsEnts w a len cap es) := hr
  clear hr
  go_enter Tryd.func13, Tryd.ntmps13
  go_wp2
  go_loopw [9] (fun i wr => ∃ q : Nat, i = .int .i64 q ∧ q ≤ len ∧ (∀ i (hi : i < es.length), i < q → entOk es[i] = true) ∧ Below w.heap.size w wr) (fun i _ => len - (intOf i).toNat)
  case atStart => exact ⟨0, rfl, Nat.zero_le _, fun i _ h => by omega, Below.refl _ _⟩
  case round =>
    obtain ⟨q, rfl, hq, hok, hb⟩ := hrel
    by_cases hlt : q < len
    · obtain ⟨b, off, rfl, h1, hbl, a1, l1, k1, c0, c1, c2, c3, c4, hrow1, hks, hns, _, _⟩ := IsEnts.at (IsEnts.below HR.out hb) (i := q) (by omega)
      have HE := fun o => entryOk es[q].kind es[q].id es[q].key es[q].name a1 l1 k1 es[q].nums (wr.alloc o) (hrow1.alloc o) hks hns
      have ee : (⟨es[q].kind, es[q].id, es[q].key, es[q].name, es[q].nums⟩ : Ent) = es[q] := rfl
      rw [ee] at HE
      by_cases hy : entOk es[q] = true
      · have HOK : Hid (∀ i (hi : i < es.length), i < q + 1 → entOk es[i] = true) := fun i hi hiq => by
          by_cases e : i = q
          · subst e; exact hy
          · exact hok i hi (by omega)
        rw [hy] at HE
        have HE : Hid _ := HE
        clear hok hy ee
        go_wp2_with (go_at_call 14; refine (HE.out _).mono ?_; rintro e w1 ⟨rfl, hw1⟩)
        go_roundw
        case rel => exact ⟨q + 1, by go_num, by omega, HOK.out, bcall (hb.alloc hb.size _) (by have := hb.size; simp; omega) hw1⟩
        case measure => simp [intOf]; omega
      · have hy : entOk es[q] = false := by simpa using hy
        have HF : Hid (es.all entOk = false) := by rw [Hid, List.all_eq_false]; exact ⟨es[q], List.getElem_mem _, by simp [hy]⟩
        rw [hy] at HE
        have HE : Hid _ := HE
        clear hok hy ee
        go_wp2_with (go_at_call 14; refine (HE.out _).mono ?_; rintro e w1 ⟨rfl, hw1⟩)
        go_ret
        exact ⟨ret_bool HF.out.symm, bcall (hb.alloc hb.size _) (by have := hb.size; simp; omega) hw1⟩
    · have HF : Hid (es.all entOk = true) := by
        rw [Hid, List.all_eq_true]; intro x hx; obtain ⟨i, hi, rfl⟩ := List.mem_iff_getElem.1 hx; exact hok i hi (by omega)
      clear hok
      go_wp2_with fail
      go_ret
      exact ⟨ret_bool HF.out.symm, hb⟩
end Go.Proofs.YtmfibpfnbhhoaaaDoor
