/- The model's HistWrite: what it answers. -/
import Derived.Test.YtmfibpfnbhhoaaaDoorHW5
namespace Go.Proofs.YtmfibpfnbhhoaaaDoor
set_option linter.unusedVariables false
set_option linter.unusedSimpArgs false
open Go.RowKit Go

/-- The text of an entry. -/
def entText (e : Ent) : ByteArray :=
  numsT (if e.kind = 3 then entW.getD 3 ⟨#[]⟩ ++ spB ++ itoB e.id ++ spB ++ e.key ++ spB ++ nmT e.name
    else if e.kind = 2 ∨ e.kind = 7 then entW.getD e.kind.toNat ⟨#[]⟩ ++ spB ++ e.name
    else if e.kind = 1 ∨ e.kind = 8 then entW.getD e.kind.toNat ⟨#[]⟩
    else entW.getD e.kind.toNat ⟨#[]⟩ ++ spB ++ itoB e.id) e.nums
theorem emp_size {s : ByteArray} (h : emp s = true) : s.size = 0 := by
  have h' : s.toList = [] := by simpa [emp] using h
  rw [ByteArray.toList_eq] at h'
  cases s with | mk d => simpa [ByteArray.size] using congrArg List.length h'
theorem entOk_bd {e : Ent} (h : entOk e = true) : (1 ≤ e.kind ∧ e.kind ≤ 9) ∧ (0 ≤ e.id ∧ e.id ≤ 9999) ∧ numsIn e.nums = true ∧ e.nums.length ≤ 4 ∧ e.name.size ≤ 8 ∧ e.key.size ≤ 24 := by
  obtain ⟨kind, id, key, name, nums⟩ := e
  simp only [entOk, Bool.and_eq_true, Bool.or_eq_true, decide_eq_true_eq] at h
  obtain ⟨⟨⟨h1, h2⟩, h3⟩, h4⟩ := h
  have hnm : nameOk name.data.toList = true → name.size ≤ 8 := fun h => by
    simp only [nameOk, Bool.and_eq_true, decide_eq_true_eq] at h
    have := h.1.1.2; simpa using this
  have hem : emp name = true → name.size ≤ 8 := fun h => by rw [emp_size h]; omega
  have hek : emp key = true → key.size ≤ 24 := fun h => by rw [emp_size h]; omega
  have hkk : keyOk key.data.toList = true → key.size ≤ 24 := fun h => by
    simp only [keyOk, Bool.and_eq_true, decide_eq_true_eq] at h
    have := h.2; simpa using this
  simp only [entBody] at h4
  show (1 ≤ kind ∧ kind ≤ 9) ∧ (0 ≤ id ∧ id ≤ 9999) ∧ numsIn nums = true ∧ nums.length ≤ 4 ∧ name.size ≤ 8 ∧ key.size ≤ 24
  refine ⟨?_, h2, h1, ?_, ?_, ?_⟩
  · repeat' split at h4
    all_goals first | omega | exact absurd h4 (by simp)
  · repeat' split at h4
    all_goals (simp only [Bool.and_eq_true, Bool.or_eq_true, decide_eq_true_eq, Bool.false_eq_true] at h4; try omega)
  · repeat' split at h4
    all_goals (simp only [Bool.and_eq_true, Bool.or_eq_true, decide_eq_true_eq, Bool.false_eq_true] at h4)
    all_goals first | exact hem h4.1.2 | exact hnm h4.1.2 | exact h4.1.2.elim hem hnm
  · rcases h3 with h3 | h3
    · exact hek h3
    · subst h3
      rw [if_neg (by omega), if_neg (by omega), if_pos rfl] at h4
      simp only [Bool.and_eq_true] at h4
      exact hkk h4.1.1.2
theorem l21Text (e : Ent) (a : Option Addr) (len cap : Nat) (w : World) (hr : IsRow .i64 w a len cap e.nums) (h : entOk e = true) :
    Calls Tryd.prog 11 #[.agg #[.int .i64 e.kind, .int .i64 e.id, .string e.key, .string e.name, .slice a len cap]] w fun x w' => x = .returned (.string (entText e)) ∧ Below w.heap.size w w' := by
  obtain ⟨hk, hi, hn, h4, hs, hz⟩ := entOk_bd h
  obtain ⟨kind, id, key, name, nums⟩ := e
  simp only at *
  rcases (by omega : kind = 1 ∨ kind = 2 ∨ kind = 3 ∨ kind = 4 ∨ kind = 5 ∨ kind = 6 ∨ kind = 7 ∨ kind = 8 ∨ kind = 9) with rfl | rfl | rfl | rfl | rfl | rfl | rfl | rfl | rfl
  · exact l21Text_1 id key name nums a len cap w hr hi hn h4 hs
  · exact l21Text_2 id key name nums a len cap w hr hi hn h4 hs
  · exact l21Text_3 id key name nums a len cap w hr hi hn h4 hs hz
  · exact l21Text_4 id key name nums a len cap w hr hi hn h4 hs
  · exact l21Text_5 id key name nums a len cap w hr hi hn h4 hs
  · exact l21Text_6 id key name nums a len cap w hr hi hn h4 hs
  · exact l21Text_7 id key name nums a len cap w hr hi hn h4 hs
  · exact l21Text_8 id key name nums a len cap w hr hi hn h4 hs
  · exact l21Text_9 id key name nums a len cap w hr hi hn h4 hs

def entsOk (es : List Ent) : Bool := es.all entOk && decide (es.length ≤ 400)
theorem entsOk_no {es : List Ent} {k : Nat} (hk : k < es.length) (h : entOk es[k] = false) : entsOk es = false := by
  have : es.all entOk = false := by rw [List.all_eq_false]; exact ⟨es[k], List.getElem_mem hk, by simp [h]⟩
  simp [entsOk, this]
theorem entsOk_all {es : List Ent} (h : ∀ i (hi : i < es.length), entOk es[i] = true) : entsOk es = decide ((es.length : Int) ≤ 400) := by
  have : es.all entOk = true := by rw [List.all_eq_true]; intro x hx; obtain ⟨i, hi, rfl⟩ := List.mem_iff_getElem.1 hx; exact h i hi
  simp only [entsOk, this, Bool.true_and]
  exact decide_eq_decide.2 (by omega)

set_option maxHeartbeats 1000000 in
theorem l21HistOk (a : Option Addr) (len cap : Nat) (es : List Ent) (w : World) (hr : IsEnts w a len cap es) :
    Calls Tryd.prog 10 #[.slice a len cap] w fun e w' => e = .returned (.bool (entsOk es)) ∧ Below w.heap.size w w' := by
  obtain ⟨hz, hm⟩ := IsRecs.len hr
  unfold maxLen at hm
  have HR : Hid (IsEnts w a len cap es) := hr
  clear hr
  go_enter Tryd.func10, Tryd.ntmps10
  go_wp2
  go_loopw [3] (fun i wr => ∃ q : Nat, i = .int .i64 q ∧ q ≤ len ∧ (∀ i (hi : i < es.length), i < q → entOk es[i] = true) ∧ Below w.heap.size w wr) (fun i _ => len - (intOf i).toNat)
  case atStart => exact ⟨0, rfl, Nat.zero_le _, fun i _ h => by omega, Below.refl _ _⟩
  case round =>
    obtain ⟨q, rfl, hq, hok, hb⟩ := hrel
    by_cases hlt : q < len
    · obtain ⟨b, off, rfl, h1, hbl, a1, l1, k1, c0, c1, c2, c3, c4, hrow1, hks, hns, _, _⟩ := IsEnts.at (IsEnts.below HR.out hb) (i := q) (by omega)
      have HE := l21EntryOk es[q] a1 l1 k1 wr hrow1 hks hns
      by_cases hy : entOk es[q] = true
      · have HOK : Hid (∀ i (hi : i < es.length), i < q + 1 → entOk es[i] = true) := fun i hi hiq => by
          by_cases e : i = q
          · subst e; exact hy
          · exact hok i hi (by omega)
        rw [hy] at HE
        have HE : Hid _ := HE
        clear hok hy
        go_wp2_with fail
        refine Calls.mono HE.out ?_
        rintro e w1 ⟨rfl, hw1⟩
        go_wp2_with fail
        go_roundw
        case rel => exact ⟨q + 1, by go_num, by omega, HOK.out, bcall hb hb.size hw1⟩
        case measure => simp [intOf]; omega
      · have hy : entOk es[q] = false := by simpa using hy
        have HF : Hid (entsOk es = false) := entsOk_no (by omega) hy
        rw [hy] at HE
        have HE : Hid _ := HE
        clear hok hy
        go_wp2_with fail
        refine Calls.mono HE.out ?_
        rintro e w1 ⟨rfl, hw1⟩
        go_wp2_with fail
        go_ret
        exact ⟨ret_bool HF.out.symm, bcall hb hb.size hw1⟩
    · have HF : Hid (entsOk es = decide ((es.length : Int) ≤ 400)) := entsOk_all fun i hi => hok i hi (by omega)
      clear hok
      go_wp2_with fail
      go_ret
      refine ⟨ret_bool ?_, hb⟩
      rw [HF.out, hz]

/-- All entries, a newline behind each. -/
def nlB : ByteArray := ⟨#[10]⟩
def histT (es : List Ent) : ByteArray := es.foldl (fun o e => o ++ entText e ++ nlB) ⟨#[]⟩
theorem histT_snoc (es : List Ent) (e : Ent) : histT (es ++ [e]) = histT es ++ entText e ++ nlB := by simp [histT]
theorem nlB_size : nlB.size = 1 := rfl
theorem e_nlB : (⟨#[10]⟩ : ByteArray) = nlB := rfl
theorem nmT_sz (s : ByteArray) (h : s.size ≤ 8) : (nmT s).size ≤ 8 := nmT_size s h
theorem entText_size {e : Ent} (h : entOk e = true) : (entText e).size ≤ 300 := by
  obtain ⟨hk, hi, hn, h4, hs, hz⟩ := entOk_bd h
  have hi2 := itoB_size e.id (by omega) (by omega)
  have hw : ∀ k : Nat, k ≤ 9 → (entW.getD k ⟨#[]⟩).size ≤ 8 := by decide
  unfold entText
  refine Nat.le_trans (numsT_size _ hn _) ?_
  have h3 := nmT_size e.name hs
  have hw3 := hw 3 (by omega)
  have hwk := hw e.kind.toNat (by omega)
  have hsp := spB_size
  repeat' split
  all_goals first | omega | (simp only [ByteArray.size_append]; omega)
theorem histT_size {es : List Ent} (h : ∀ e ∈ es, entOk e = true) : (histT es).size ≤ 301 * es.length := by
  have key : ∀ (l : List Ent) (b : ByteArray), (∀ e ∈ l, entOk e = true) → (l.foldl (fun o e => o ++ entText e ++ nlB) b).size ≤ b.size + 301 * l.length := by
    intro l
    induction l with
    | nil => intro b _; simp
    | cons x l ih =>
      intro b hl
      have h1 := ih (b ++ entText x ++ nlB) (fun e he => hl e (List.mem_cons_of_mem _ he))
      have h2 := entText_size (hl x List.mem_cons_self)
      simp only [List.foldl_cons, ByteArray.size_append, nlB_size, List.length_cons] at h1 ⊢
      omega
  have := key es ⟨#[]⟩ h
  have e0 : (⟨#[]⟩ : ByteArray).size = 0 := rfl
  rw [e0, Nat.zero_add] at this
  exact this

def histW (es : List Ent) : ByteArray := if entsOk es then histT es else ⟨#[]⟩
theorem ents_all {es : List Ent} (h : entsOk es = true) : (∀ e ∈ es, entOk e = true) ∧ es.length ≤ 400 := by
  simp only [entsOk, Bool.and_eq_true, List.all_eq_true, decide_eq_true_eq] at h; exact h

set_option maxHeartbeats 1000000 in
theorem specHistWrite (a : Option Addr) (len cap : Nat) (es : List Ent) (w : World) (hr : IsEnts w a len cap es) :
    Calls Tryd.prog 5 #[.slice a len cap] w fun e w' => e = .returned (.string (histW es)) ∧ Below w.heap.size w w' := by
  obtain ⟨hz, hm⟩ := IsRecs.len hr
  unfold maxLen at hm
  have HK := l21HistOk a len cap es w hr
  have HR : Hid (IsEnts w a len cap es) := hr
  clear hr
  by_cases hok : entsOk es = true
  · rw [hok] at HK
    have HK : Hid _ := HK
    obtain ⟨hall, hlen⟩ := ents_all hok
    have HF : Hid (histW es = histT es) := if_pos hok
    have HALL : Hid (∀ e ∈ es, entOk e = true) := hall
    clear hok hall
    go_enter Tryd.func5, Tryd.ntmps5
    go_wp2_with fail
    refine Calls.mono HK.out ?_
    rintro e w1 ⟨rfl, hw1⟩
    go_wp2_with fail
    go_loopw [3, 4] (fun o i wr => ∃ q : Nat, i = .int .i64 q ∧ q ≤ len ∧ o = .string (histT (es.take q)) ∧ Below w.heap.size w wr) (fun _ i _ => len - (intOf i).toNat)
    case atStart => exact ⟨0, rfl, Nat.zero_le _, rfl, hw1⟩
    case round =>
      obtain ⟨q, rfl, hq, rfl, hb⟩ := hrel
      by_cases hlt : q < len
      · obtain ⟨b, off, rfl, h1, hbl, a1, l1, k1, c0, c1, c2, c3, c4, hrow1, hks, hns, _, _⟩ := IsEnts.at (IsEnts.below HR.out hb) (i := q) (by omega)
        have hoq := HALL.out es[q] (List.getElem_mem _)
        have HE : Hid _ := l21Text es[q] a1 l1 k1 wr hrow1 hoq
        have HT : Hid (histT (es.take (q + 1)) = histT (es.take q) ++ entText es[q] ++ nlB) := by
          show _ = _
          rw [List.take_succ_eq_append_getElem (by omega), histT_snoc]
        have hz1 := entText_size hoq
        have hz2 : (histT (es.take q)).size ≤ 301 * 400 := by
          have := histT_size (es := es.take q) (fun e he => HALL.out e (List.mem_of_mem_take he))
          have h9 : (es.take q).length ≤ 400 := by simp; omega
          omega
        have hz3 := nlB_size
        have e10 := e_nlB
        clear hoq
        generalize entText es[q] = X at HE HT hz1
        generalize histT (es.take q) = P at HT hz2 ⊢
        have hz4 : (P ++ X).size ≤ 301 * 401 := by rw [ByteArray.size_append]; omega
        go_wp2_with fail
        refine Calls.mono HE.out ?_
        rintro e w2 ⟨rfl, hw2⟩
        go_wp2_with fail
        go_roundw
        case rel => exact ⟨q + 1, by go_num, by omega, by rw [HT.out], bcall hb hb.size hw2⟩
        case measure => simp [intOf]; omega
      · have he : es.take q = es := List.take_of_length_le (by omega)
        rw [he]
        go_wp2_with fail
        go_ret
        refine ⟨?_, hb⟩
        rw [HF.out]; rfl
  · have hok : entsOk es = false := by simpa using hok
    rw [hok] at HK
    have HK : Hid _ := HK
    have HF : Hid (histW es = ⟨#[]⟩) := if_neg (by rw [hok]; simp)
    go_enter Tryd.func5, Tryd.ntmps5
    go_wp2_with fail
    refine Calls.mono HK.out ?_
    rintro e w1 ⟨rfl, hw1⟩
    go_wp2_with fail
    go_ret
    refine ⟨?_, hw1⟩
    rw [HF.out]; rfl
end Go.Proofs.YtmfibpfnbhhoaaaDoor
