/- Plain: a rule's line, and the text of rules, read back. -/
import Derived.Test.YtkemfifkjaclhaaGreatDoorJ16
namespace Go.Proofs.YtkemfifkjaclhaaGreatDoor
set_option linter.unusedVariables false
set_option linter.unusedSimpArgs false
open Go
namespace Cal

def eveL : List UInt8 := [101, 118, 101, 114, 121]
def atL : List UInt8 := [97, 116]
def froL : List UInt8 := [102, 114, 111, 109]
def toL : List UInt8 := [116, 111]
def butL : List UInt8 := [98, 117, 116]
def itoL (n : Int) : List UInt8 := (itoB n).data.toList
/-- The words of a rule. -/
def rulWs (r : Rul) : List (List UInt8) := [eveL, itoL r.ev, atL, itoL r.at_, froL, itoL r.fr, toL, itoL r.to_] ++ (if r.but = [] then [] else butL :: r.but.map itoL)
theorem head_glue (r : Rul) : (headT r).data.toList = glue 32 [eveL, itoL r.ev, atL, itoL r.at_, froL, itoL r.fr, toL, itoL r.to_] := by
  simp [headT, glue, w1B, w2B, w3B, w4B, eveL, atL, froL, toL, itoL]
theorem rul_glue (r : Rul) : (rulT r).data.toList = glue 32 (rulWs r) := by
  unfold rulT rulWs
  split
  · rename_i h
    rw [h, List.append_nil]
    exact head_glue r
  · rw [fold_glue r.but (headT r ++ w5B) ([eveL, itoL r.ev, atL, itoL r.at_, froL, itoL r.fr, toL, itoL r.to_] ++ [butL]) (by simp) ?_]
    · simp only [List.append_assoc, List.singleton_append]; rfl
    · rw [glue_snoc 32 butL _ (by simp), ← head_glue]
      simp [w5B, butL]
theorem rul_fine {r : Rul} (h : RuleOk r) : ∀ x ∈ rulWs r, ∀ c ∈ x, c ≠ 32 ∧ c ≠ 10 := by
  obtain ⟨⟨e1, e2⟩, ⟨a1, a2⟩, ⟨f1, f2⟩, ⟨t1, t2⟩, _, hb⟩ := h
  intro x hx
  unfold rulWs at hx
  have hbut : x ∈ r.but.map itoL → ∀ c ∈ x, c ≠ 32 ∧ c ≠ 10 := fun hx => by
    obtain ⟨n, hn, rfl⟩ := List.mem_map.1 hx
    obtain ⟨i, hi, rfl⟩ := List.mem_iff_getElem.1 hn
    have := (hb i hi).1
    rw [getD_at _ _ hi] at this
    exact ito_no _ this
  rw [List.mem_append] at hx
  rcases hx with hx | hx
  · simp only [List.mem_cons, List.not_mem_nil, or_false] at hx
    rcases hx with rfl | rfl | rfl | rfl | rfl | rfl | rfl | rfl
    · decide
    · exact ito_no _ (by omega)
    · decide
    · exact ito_no _ (by omega)
    · decide
    · exact ito_no _ (by omega)
    · decide
    · exact ito_no _ (by omega)
  · split at hx
    · simp at hx
    · rcases List.mem_cons.1 hx with rfl | hx
      · decide
      · exact hbut hx
theorem rulWs_ne (r : Rul) : rulWs r ≠ [] := by unfold rulWs; simp
theorem cut_rul {r : Rul} (h : RuleOk r) : cutL 32 (rulT r).data.toList = rulWs r := by
  rw [rul_glue, cut_glue 32 _ (rulWs_ne r) (fun x hx b hb => (rul_fine h x hx b hb).1)]
theorem rul_no10 {r : Rul} (h : RuleOk r) : ∀ c ∈ (rulT r).data.toList, c ≠ 10 := by
  rw [rul_glue]
  have hf := rul_fine h
  generalize rulWs r = ws at hf
  induction ws with
  | nil => intro c hc; simp [glue] at hc
  | cons x ws ih =>
    cases ws with
    | nil => exact fun c hc => (hf x (by simp) c hc).2
    | cons y t =>
      intro c hc
      rw [glue, List.mem_append, List.mem_cons] at hc
      rcases hc with hc | rfl | hc
      · exact (hf x (by simp) c hc).2
      · decide
      · exact ih (fun z hz => hf z (List.mem_cons_of_mem _ hz)) c hc

/-- The form that words of a rule have. -/
def Form (ws : List (List UInt8)) : Prop := 8 ≤ ws.length ∧ ws.getD 0 [] = eveL ∧ ws.getD 2 [] = atL ∧ ws.getD 4 [] = froL ∧ ws.getD 6 [] = toL ∧ (8 < ws.length → ws.getD 8 [] = butL ∧ ws.length ≠ 9)
/-- What words of the form are read as. -/
def ruleW (ws : List (List UInt8)) : Rul := ⟨numV (ws.getD 1 []), numV (ws.getD 3 []), numV (ws.getD 5 []), numV (ws.getD 7 []), (ws.drop 9).map numV⟩
theorem nums_own : ∀ l : List Int, (∀ n ∈ l, 0 ≤ n ∧ n ≤ 999999) → (l.map itoL).map numV = l := by
  intro l h
  rw [List.map_map]
  conv => rhs; rw [← List.map_id l]
  exact List.map_congr_left fun n hn => numV_own n (h n hn).1 (h n hn).2
theorem but_bd {r : Rul} (h : RuleOk r) : ∀ n ∈ r.but, 0 ≤ n ∧ n ≤ 999999 := fun n hn => by
  obtain ⟨i, hi, rfl⟩ := List.mem_iff_getElem.1 hn
  have h1 := (h.2.2.2.2.2 i hi).1
  have h2 := (h.2.2.2.2.2 i hi).2.1
  rw [getD_at _ _ hi] at h1 h2
  omega
/-- A rule's own words are read as it. -/
theorem own_form {r : Rul} (h : RuleOk r) : Form (rulWs r) ∧ ruleW (rulWs r) = r := by
  have hb := but_bd h
  obtain ⟨⟨e1, e2⟩, ⟨a1, a2⟩, ⟨f1, f2⟩, ⟨t1, t2⟩, _, _⟩ := h
  unfold rulWs
  have n1 := numV_own r.ev (by omega) (by omega)
  have n2 := numV_own r.at_ (by omega) (by omega)
  have n3 := numV_own r.fr (by omega) (by omega)
  have n4 := numV_own r.to_ (by omega) (by omega)
  obtain ⟨ev, at_, fr, to_, but⟩ := r
  dsimp only at *
  split
  · rename_i hb
    subst hb
    exact ⟨⟨by simp, rfl, rfl, rfl, rfl, fun h => by simp at h⟩, by simp [ruleW, itoL, n1, n2, n3, n4]⟩
  · rename_i hne
    refine ⟨⟨by simp, rfl, rfl, rfl, rfl, fun _ => ⟨rfl, ?_⟩⟩, ?_⟩
    · cases but with
      | nil => exact absurd rfl hne
      | cons x l => simp
    · simp only [ruleW, List.getD_cons_succ, List.cons_append, List.nil_append, itoL, List.getD_cons_zero, n1, n2, n3, n4, List.drop_succ_cons, List.drop_zero]
      congr 1
      exact nums_own but hb
/-- What is read as a rule that is ok is its own words. -/
theorem form_own {ws : List (List UInt8)} (hf : Form ws) (h : RuleOk (ruleW ws)) : ws = rulWs (ruleW ws) := by
  obtain ⟨h8, g0, g2, g4, g6, g8⟩ := hf
  obtain ⟨⟨e1, e2⟩, ⟨a1, a2⟩, ⟨f1, f2⟩, ⟨t1, t2⟩, _, hb⟩ := h
  match ws, h8 with
  | w0 :: w1 :: w2 :: w3 :: w4 :: w5 :: w6 :: w7 :: rest, _ =>
    simp only [ruleW, List.getD_cons_succ, List.getD_cons_zero, List.drop_succ_cons, List.length_cons] at *
    subst g0 g2 g4 g6
    have t1 := numV_text (d := w1) (by omega)
    have t3 := numV_text (d := w3) (by omega)
    have t5 := numV_text (d := w5) (by omega)
    have t7 := numV_text (d := w7) (by omega)
    unfold rulWs
    simp only [itoL, ← t1, ← t3, ← t5, ← t7]
    cases rest with
    | nil => simp
    | cons w8 rest =>
      obtain ⟨rfl, hne⟩ := g8 (by simp)
      simp only [List.drop_succ_cons, List.drop_zero] at hb ⊢
      cases rest with
      | nil => simp at hne
      | cons w9 rest =>
        rw [if_neg (by simp)]
        simp only [List.cons_append, List.nil_append, List.cons.injEq, true_and, List.map_map]
        conv => lhs; rw [← List.map_id (w9 :: rest)]
        refine List.map_congr_left fun d hd => ?_
        obtain ⟨i, hi, rfl⟩ := List.mem_iff_getElem.1 hd
        have := (hb i (by simpa using hi)).1
        rw [getD_at _ _ (by simpa using hi), List.getElem_map] at this
        exact numV_text this
/-- A line is a rule's text just if its words have the form and make a rule that is ok. -/
theorem line_yes {l : List UInt8} (hf : Form (cutL 32 l)) (h : RuleOk (ruleW (cutL 32 l))) : (rulT (ruleW (cutL 32 l))).data.toList = l := by
  have e := form_own hf h
  rw [rul_glue, ← e, glue_cut]
theorem line_no {l : List UInt8} (hno : ¬ Form (cutL 32 l) ∨ ¬ RuleOk (ruleW (cutL 32 l))) : ∀ r, RuleOk r → (rulT r).data.toList ≠ l := by
  rintro r hr rfl
  rw [cut_rul hr] at hno
  obtain ⟨h1, h2⟩ := own_form hr
  rw [h2] at hno
  rcases hno with h | h
  · exact h h1
  · exact h hr

/-- A text of rules. -/
def IsCal (s : ByteArray) (rs : List Rul) : Prop := calOk rs = true ∧ calT rs = s ∧ s.size ≤ 800
theorem unc_flat : ∀ xs : List (List UInt8), glue 10 (xs ++ [[]]) = (xs.map (· ++ [10])).flatten := by
  intro xs
  induction xs with
  | nil => rfl
  | cons x t ih =>
    cases t with
    | nil => simp [glue]
    | cons y t => rw [List.cons_append, List.cons_append, glue, ← List.cons_append, ih]; simp
theorem calT_bytes (rs : List Rul) : (calT rs).data.toList = ((rs.map fun r => (rulT r).data.toList).map (· ++ [10])).flatten := by
  have : ∀ (rs : List Rul) (b : ByteArray), (rs.foldl (fun o r => o ++ rulT r ++ nlB) b).data.toList = b.data.toList ++ ((rs.map fun r => (rulT r).data.toList).map (· ++ [10])).flatten := by
    intro rs
    induction rs with
    | nil => intro b; simp
    | cons r rs ih => intro b; rw [List.foldl_cons, ih]; simp [nlB]
  rw [calT, this]; simp
theorem cal_lines {rs : List Rul} (h : ∀ r ∈ rs, RuleOk r) : cutL 10 (calT rs).data.toList = (rs.map fun r => (rulT r).data.toList) ++ [[]] := by
  rw [calT_bytes, ← unc_flat]
  refine cut_glue 10 _ (by simp) ?_
  intro x hx b hb
  rw [List.mem_append, List.mem_singleton] at hx
  rcases hx with hx | rfl
  · obtain ⟨r, hr, rfl⟩ := List.mem_map.1 hx
    exact rul_no10 (h r hr) b hb
  · simp at hb
theorem lines_cal {s : ByteArray} {rs : List Rul} (h : cutL 10 s.data.toList = (rs.map fun r => (rulT r).data.toList) ++ [[]]) : calT rs = s := by
  have h1 := glue_cut 10 s.data.toList
  rw [h, unc_flat, ← calT_bytes] at h1
  cases s
  exact ByteArray.ext (Array.toList_inj.1 h1)
theorem cal_all {rs : List Rul} (h : calOk rs = true) : ∀ r ∈ rs, RuleOk r := fun r hr => by
  obtain ⟨i, hi, rfl⟩ := List.mem_iff_getElem.1 hr
  exact calOk_rules h i hi
/-- A text is of one list of rules at most. -/
theorem IsCal.one {s : ByteArray} {a b : List Rul} (ha : IsCal s a) (hb : IsCal s b) : a = b := by
  have h1 := cal_lines (cal_all ha.1)
  have h2 := cal_lines (cal_all hb.1)
  rw [ha.2.1] at h1
  rw [hb.2.1, h1] at h2
  have h3 := List.append_cancel_right h2
  have key : ∀ r, RuleOk r → ruleW (cutL 32 (rulT r).data.toList) = r := fun r hr => by rw [cut_rul hr]; exact (own_form hr).2
  have h4 : ∀ rs : List Rul, (∀ r ∈ rs, RuleOk r) → (rs.map fun r => (rulT r).data.toList).map (fun l => ruleW (cutL 32 l)) = rs := fun rs hrs => by
    rw [List.map_map]
    conv => rhs; rw [← List.map_id rs]
    exact List.map_congr_left fun r hr => key r (hrs r hr)
  rw [← h4 a (cal_all ha.1), h3, h4 b (cal_all hb.1)]
end Cal
end Go.Proofs.YtkemfifkjaclhaaGreatDoor
