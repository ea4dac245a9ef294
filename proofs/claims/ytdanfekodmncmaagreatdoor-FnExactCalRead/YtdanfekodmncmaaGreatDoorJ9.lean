/- Contracts of the library's functions, laid for this program (each an application of the library's own theorem). -/
import Derived.Test.YtdanfekodmncmaaGreatDoorJ8
import Derived.Test.YtdanfekodmncmaaGreatDoorJ5
import Derived.Laws.OwnMore
import Derived.Shelf.LaysM
import Derived.Shelf.Strconv.Itoa3
import Derived.Test.YtdanfekodmncmaaGreatDoorProg
namespace Go.Proofs.YtdanfekodmncmaaGreatDoor
set_option linter.unusedVariables false
set_option linter.unusedSimpArgs false
open Go
namespace Cal

def eveL : List UInt8 := [101, 118, 101, 114, 121]
def atL : List UInt8 := [97, 116]
def froL : List UInt8 := [102, 114, 111, 109]
def toL : List UInt8 := [116, 111]
def butL : List UInt8 := [98, 117, 116]
def itoL (n : Int) : List UInt8 := (itoB n).data.toList
/-- The words of a rule. -/
def rulWs (r : Rul) : List (List UInt8) := [eveL, itoL r.ev, atL, itoL r.at_, froL, itoL r.fr, toL, itoL r.to_] ++ (if r.but = [] then [] else butL :: r.but.map itoL)
theorem head_glue (r : Rul) : (headT r).data.toList = glue 32 [eveL, itoL r.ev, atL, itoL r.at_, froL, itoL r.fr, toL, itoL r.to_] := by
  simp [headT, glue, w1B, w2B, w3B, w4B, eveL, atL, froL, toL, itoL]
theorem rul_glue (r : Rul) : (rulT r).data.toList = glue 32 (rulWs r) := by
  unfold rulT rulWs
  split
  · rename_i h
    rw [h, List.append_nil]
    exact head_glue r
  · rw [fold_glue r.but (headT r ++ w5B) ([eveL, itoL r.ev, atL, itoL r.at_, froL, itoL r.fr, toL, itoL r.to_] ++ [butL]) (by simp) ?_]
    · simp only [List.append_assoc, List.singleton_append]; rfl
    · rw [glue_snoc 32 butL _ (by simp), ← head_glue]
      simp [w5B, butL]
theorem rul_fine {r : Rul} (h : RuleOk r) : ∀ x ∈ rulWs r, ∀ c ∈ x, c ≠ 32 ∧ c ≠ 10 := by
  obtain ⟨⟨e1, e2⟩, ⟨a1, a2⟩, ⟨f1, f2⟩, ⟨t1, t2⟩, _, hb⟩ := h
  intro x hx
  unfold rulWs at hx
  have hbut : x ∈ r.but.map itoL → ∀ c ∈ x, c ≠ 32 ∧ c ≠ 10 := fun hx => by
    obtain ⟨n, hn, rfl⟩ := List.mem_map.1 hx
    obtain ⟨i, hi, rfl⟩ := List.mem_iff_getElem.1 hn
    have := (hb i hi).1
    rw [getD_at _ _ hi] at this
    exact ito_no _ this
  rw [List.mem_append] at hx
  rcases hx with hx | hx
  · simp only [List.mem_cons, List.not_mem_nil, or_false] at hx
    rcases hx with rfl | rfl | rfl | rfl | rfl | rfl | rfl | rfl
    · decide
    · exact ito_no _ (by omega)
    · decide
    · exact ito_no _ (by omega)
    · decide
    · exact ito_no _ (by omega)
    · decide
    · exact ito_no _ (by omega)
  · split at hx
    · simp at hx
    · rcases List.mem_cons.1 hx with rfl | hx
      · decide
      · exact hbut hx
theorem rulWs_ne (r : Rul) : rulWs r ≠ [] := by unfold rulWs; simp
theorem cut_rul {r : Rul} (h : RuleOk r) : cutL 32 (rulT r).data.toList = rulWs r := by
  rw [rul_glue, cut_glue 32 _ (rulWs_ne r) (fun x hx b hb => (rul_fine h x hx b hb).1)]
theorem rul_no10 {r : Rul} (h : RuleOk r) : ∀ c ∈ (rulT r).data.toList, c ≠ 10 := by
  rw [rul_glue]
  have hf := rul_fine h
  generalize rulWs r = ws at hf
  induction ws with
  | nil => intro c hc; simp [glue] at hc
  | cons x ws ih =>
    cases ws with
    | nil => exact fun c hc => (hf x (by simp) c hc).2
    | cons y t =>
      intro c hc
      rw [glue, List.mem_append, List.mem_cons] at hc
      rcases hc with hc | rfl | hc
      · exact (hf x (by simp) c hc).2
      · decide
      · exact ih (fun z hz => hf z (List.mem_cons_of_mem _ hz)) c hc

/-- The form that words of a rule have. -/
def Form (ws : List (List UInt8)) : Prop := 8 ≤ ws.length ∧ ws.getD 0 [] = eveL ∧ ws.getD 2 [] = atL ∧ ws.getD 4 [] = froL ∧ ws.getD 6 [] = toL ∧ (8 < ws.length → ws.getD 8 [] = butL ∧ ws.length ≠ 9)
/-- What words of the form are read as. -/
def ruleW (ws : List (List UInt8)) : Rul := ⟨numV (ws.getD 1 []), numV (ws.getD 3 []), numV (ws.getD 5 []), numV (ws.getD 7 []), (ws.drop 9).map numV⟩
theorem nums_own : ∀ l : List Int, (∀ n ∈ l, 0 ≤ n ∧ n ≤ 999999) → (l.map itoL).map numV = l := by
  intro l h
  rw [List.map_map]
  conv => rhs; rw [← List.map_id l]
  exact List.map_congr_left fun n hn => numV_own n (h n hn).1 (h n hn).2
theorem but_bd {r : Rul} (h : RuleOk r) : ∀ n ∈ r.but, 0 ≤ n ∧ n ≤ 999999 := fun n hn => by
  obtain ⟨i, hi, rfl⟩ := List.mem_iff_getElem.1 hn
  have h1 := (h.2.2.2.2.2 i hi).1
  have h2 := (h.2.2.2.2.2 i hi).2.1
  rw [getD_at _ _ hi] at h1 h2
  omega
/-- A rule's own words are read as it. -/
theorem own_form {r : Rul} (h : RuleOk r) : Form (rulWs r) ∧ ruleW (rulWs r) = r := by
  have hb := but_bd h
  obtain ⟨⟨e1, e2⟩, ⟨a1, a2⟩, ⟨f1, f2⟩, ⟨t1, t2⟩, _, _⟩ := h
  unfold rulWs
  have n1 := numV_own r.ev (by omega) (by omega)
  have n2 := numV_own r.at_ (by omega) (by omega)
  have n3 := numV_own r.fr (by omega) (by omega)
  have n4 := numV_own r.to_ (by omega) (by omega)
  obtain ⟨ev, at_, fr, to_, but⟩ := r
  dsimp only at *
  split
  · rename_i hb
    subst hb
    exact ⟨⟨by simp, rfl, rfl, rfl, rfl, fun h => by simp at h⟩, by simp [ruleW, itoL, n1, n2, n3, n4]⟩
  · rename_i hne
    refine ⟨⟨by simp, rfl, rfl, rfl, rfl, fun _ => ⟨rfl, ?_⟩⟩, ?_⟩
    · cases but with
      | nil => exact absurd rfl hne
      | cons x l => simp
    · simp only [ruleW, List.getD_cons_succ, List.cons_append, List.nil_append, itoL, List.getD_cons_zero, n1, n2, n3, n4, List.drop_succ_cons, List.drop_zero]
      congr 1
      exact nums_own but hb
/-- What is read as a rule that is ok is its own words. -/
theorem form_own {ws : List (List UInt8)} (hf : Form ws) (h : RuleOk (ruleW ws)) : ws = rulWs (ruleW ws) := by
  obtain ⟨h8, g0, g2, g4, g6, g8⟩ := hf
  obtain ⟨⟨e1, e2⟩, ⟨a1, a2⟩, ⟨f1, f2⟩, ⟨t1, t2⟩, _, hb⟩ := h
  match ws, h8 with
  | w0 :: w1 :: w2 :: w3 :: w4 :: w5 :: w6 :: w7 :: rest, _ =>
    simp only [ruleW, List.getD_cons_succ, List.getD_cons_zero, List.drop_succ_cons, List.length_cons] at *
    subst g0 g2 g4 g6
    have t1 := numV_text (d := w1) (by omega)
    have t3 := numV_text (d := w3) (by omega)
    have t5 := numV_text (d := w5) (by omega)
    have t7 := numV_text (d := w7) (by omega)
    unfold rulWs
    simp only [itoL, ← t1, ← t3, ← t5, ← t7]
    cases rest with
    | nil => simp
    | cons w8 rest =>
      obtain ⟨rfl, hne⟩ := g8 (by simp)
      simp only [List.drop_succ_cons, List.drop_zero] at hb ⊢
      cases rest with
      | nil => simp at hne
      | cons w9 rest =>
        rw [if_neg (by simp)]
        simp only [List.cons_append, List.nil_append, List.cons.injEq, true_and, List.map_map]
        conv => lhs; rw [← List.map_id (w9 :: rest)]
        refine List.map_congr_left fun d hd => ?_
        obtain ⟨i, hi, rfl⟩ := List.mem_iff_getElem.1 hd
        have := (hb i (by simpa using hi)).1
        rw [getD_at _ _ (by simpa using hi), List.getElem_map] at this
        exact numV_text this
/-- A line is a rule's text just if its words have the form and make a rule that is ok. -/
theorem line_yes {l : List UInt8} (hf : Form (cutL 32 l)) (h : RuleOk (ruleW (cutL 32 l))) : (rulT (ruleW (cutL 32 l))).data.toList = l := by
  have e := form_own hf h
  rw [rul_glue, ← e, glue_cut]
theorem line_no {l : List UInt8} (hno : ¬ Form (cutL 32 l) ∨ ¬ RuleOk (ruleW (cutL 32 l))) : ∀ r, RuleOk r → (rulT r).data.toList ≠ l := by
  rintro r hr rfl
  rw [cut_rul hr] at hno
  obtain ⟨h1, h2⟩ := own_form hr
  rw [h2] at hno
  rcases hno with h | h
  · exact h h1
  · exact h hr

/-- A text of rules. -/
def IsCal (s : ByteArray) (rs : List Rul) : Prop := calOk rs = true ∧ calT rs = s ∧ s.size ≤ 800
theorem unc_flat : ∀ xs : List (List UInt8), glue 10 (xs ++ [[]]) = (xs.map (· ++ [10])).flatten := by
  intro xs
  induction xs with
  | nil => rfl
  | cons x t ih =>
    cases t with
    | nil => simp [glue]
    | cons y t => rw [List.cons_append, List.cons_append, glue, ← List.cons_append, ih]; simp
theorem calT_bytes (rs : List Rul) : (calT rs).data.toList = ((rs.map fun r => (rulT r).data.toList).map (· ++ [10])).flatten := by
  have : ∀ (rs : List Rul) (b : ByteArray), (rs.foldl (fun o r => o ++ rulT r ++ nlB) b).data.toList = b.data.toList ++ ((rs.map fun r => (rulT r).data.toList).map (· ++ [10])).flatten := by
    intro rs
    induction rs with
    | nil => intro b; simp
    | cons r rs ih => intro b; rw [List.foldl_cons, ih]; simp [nlB]
  rw [calT, this]; simp
theorem cal_lines {rs : List Rul} (h : ∀ r ∈ rs, RuleOk r) : cutL 10 (calT rs).data.toList = (rs.map fun r => (rulT r).data.toList) ++ [[]] := by
  rw [calT_bytes, ← unc_flat]
  refine cut_glue 10 _ (by simp) ?_
  intro x hx b hb
  rw [List.mem_append, List.mem_singleton] at hx
  rcases hx with hx | rfl
  · obtain ⟨r, hr, rfl⟩ := List.mem_map.1 hx
    exact rul_no10 (h r hr) b hb
  · simp at hb
theorem lines_cal {s : ByteArray} {rs : List Rul} (h : cutL 10 s.data.toList = (rs.map fun r => (rulT r).data.toList) ++ [[]]) : calT rs = s := by
  have h1 := glue_cut 10 s.data.toList
  rw [h, unc_flat, ← calT_bytes] at h1
  cases s
  exact ByteArray.ext (Array.toList_inj.1 h1)
theorem cal_all {rs : List Rul} (h : calOk rs = true) : ∀ r ∈ rs, RuleOk r := fun r hr => by
  obtain ⟨i, hi, rfl⟩ := List.mem_iff_getElem.1 hr
  exact calOk_rules h i hi
/-- A text is of one list of rules at most. -/
theorem IsCal.one {s : ByteArray} {a b : List Rul} (ha : IsCal s a) (hb : IsCal s b) : a = b := by
  have h1 := cal_lines (cal_all ha.1)
  have h2 := cal_lines (cal_all hb.1)
  rw [ha.2.1] at h1
  rw [hb.2.1, h1] at h2
  have h3 := List.append_cancel_right h2
  have key : ∀ r, RuleOk r → ruleW (cutL 32 (rulT r).data.toList) = r := fun r hr => by rw [cut_rul hr]; exact (own_form hr).2
  have h4 : ∀ rs : List Rul, (∀ r ∈ rs, RuleOk r) → (rs.map fun r => (rulT r).data.toList).map (fun l => ruleW (cutL 32 l)) = rs := fun rs hrs => by
    rw [List.map_map]
    conv => rhs; rw [← List.map_id rs]
    exact List.map_congr_left fun r hr => key r (hrs r hr)
  rw [← h4 a (cal_all ha.1), h3, h4 b (cal_all hb.1)]
end Cal
end Go.Proofs.YtdanfekodmncmaaGreatDoor

namespace Go.Proofs.YtdanfekodmncmaaGreatDoor
set_option linter.unusedVariables false
set_option linter.unusedSimpArgs false
open Go.RowKit

theorem append_none {P : Program} (w : World) (t ty e : TypeId) (i : TypeInfo) (ht : P.underlying t = some (.slice e)) (hi : P.info? e = some i) (b x : Option Addr) (c : Nat) :
    (Builtin.append_ #[t, t] ty #[.slice b 0 0, .slice x 0 c]).run P w = .ok (.slice b 0 0) w := by
  cases b <;> cases x <;> simp [Builtin.append_, run_underlying ht, sizeOf, typeInfo, hi, Builtin.lenOf, Builtin.firstCells, loadCells, loadCellsFrom, storeCells]

/-- A whole list is appended onto an empty slice without room. -/
theorem wp_copy_str {w : World} {ops : Array Oper} {rest : List Oper} {o : Oper} {a : Act} {Q : Exit → Act → World → Prop} (hgd : o.guard = none) (s x : Operand)
    (ho : o.op = .call { callee := .builtin .append, args := #[s, x], argTypes := #[28, 28] })
    (F : Nat) (v vx : Value) (xs : List ByteArray) (hs : a.eval s = v) (hacc : Acc w F 9 1 v 0 []) (hv : ∃ b, v = .slice b 0 0)
    (hx : a.eval x = vx) (hr : Row w vx (sv xs)) (hn : xs.length ≤ 1099511627776) (hF : F ≤ w.heap.size)
    (h : ∀ v' w', Acc w' F 9 1 v' xs.length (sv xs) → Below F w w' → wpList Tryz.prog ops Q rest (a.put o.dst v') w') : wpList Tryz.prog ops Q (o :: rest) a w := by
  by_cases h0 : xs.length = 0
  · have hxs : xs = [] := List.length_eq_zero_iff.1 h0
    subst hxs
    obtain ⟨b, rfl⟩ := hv
    obtain ⟨a1, c1, hvx⟩ := hr.form
    simp only [sv, List.map_nil, List.length_nil] at hvx
    subst hvx
    obtain ⟨i, hi, _⟩ := Option.map_eq_some_iff.1 Tryz.infoS
    refine wpList_plain hgd fun K hK => ?_
    have hrun := append_none (P := Tryz.prog) w 28 o.type 9 i Tryz.underlying28 hi b a1 c1
    unfold Oper.wp execOp
    simp only [ho, resolve, invoke, builtin, Sem.run_bind, Sem.run_pure, Result.andThen_ok, List.map_toArray, List.map_cons, List.map_nil, hs, hx, hrun]
    exact hK _ _ (h _ w hacc (Below.refl _ _))
  · obtain ⟨b1, off1, cap1, rfl⟩ : ∃ b1 off1 cap1, vx = .slice (some ⟨b1, off1, none⟩) xs.length cap1 := by
      rcases hr with ⟨_, h'⟩ | ⟨b1, off1, cap1, h', _⟩
      · exact absurd (by simpa [sv] using congrArg List.length h') h0
      · exact ⟨b1, off1, cap1, by rw [h', sv_len]⟩
    have hcell : ∀ j u, (sv xs)[j]? = some u → w.cell? ((⟨b1, off1, none⟩ : Addr).add j) = some u := by
      rcases hr with ⟨h', _⟩ | ⟨b2, off2, cap2, h', _, _, _, hc⟩
      · simp at h'
      · simp only [Value.slice.injEq, Option.some.injEq, Addr.mk.injEq] at h'
        obtain ⟨⟨rfl, rfl, _⟩, _, _⟩ := h'
        intro j u hj
        rw [Addr.add_lit]; exact hc j u hj
    refine wp_acc hgd s x 28 ho F 9 _ 1 16 Tryz.underlying28 Tryz.infoS rfl (by decide) v 0 [] hs hacc ⟨b1, off1, none⟩ xs.length cap1 (sv xs) hx (by omega) (by rw [sv_len, Nat.mul_one]) hcell ?_ (by unfold maxLen; omega) (by omega) hF ?_
    · intro u hu
      simp only [sv, List.mem_map] at hu
      obtain ⟨q, _, rfl⟩ := hu
      rfl
    · intro v' w' h1 h2
      exact h v' w' (by simpa using h1) h2
end Go.Proofs.YtdanfekodmncmaaGreatDoor

namespace Go.Proofs.YtdanfekodmncmaaGreatDoor
set_option linter.unusedVariables false
set_option linter.unusedSimpArgs false
open Go.RowKit

theorem wp_app_strs {w : World} {ops : Array Oper} {rest : List Oper} {o : Oper} {a : Act} {Q : Exit → Act → World → Prop} (hgd : o.guard = none) (s x : Operand)
    (ho : o.op = .call { callee := .builtin .append, args := #[s, x], argTypes := #[28, 28] })
    (F : Nat) (v vx : Value) (n : Nat) (xs ys : List ByteArray) (hs : a.eval s = v) (hacc : w.ownsRow F 9 1 v n (sv xs))
    (hx : a.eval x = vx) (hr : Row w vx (sv ys)) (hn : n + ys.length ≤ 1099511627776) (hF : F ≤ w.heap.size)
    (h : ∀ v' w', w'.ownsRow F 9 1 v' (n + ys.length) (sv (xs ++ ys)) → Below F w w' → w.grownBy w' v.ownBlock → wpList Tryz.prog ops Q rest (a.put o.dst v') w') : wpList Tryz.prog ops Q (o :: rest) a w := by
  obtain ⟨i, hi, hzz⟩ := Option.map_eq_some_iff.1 Tryz.infoS
  simp only [Prod.mk.injEq] at hzz
  obtain ⟨hz, hsize, hby⟩ := hzz
  have fin : ∃ v' w', (Builtin.append_ #[28, 28] o.type #[v, vx]).run Tryz.prog w = .ok v' w' ∧ w'.ownsRow F 9 1 v' (n + ys.length) (sv (xs ++ ys)) ∧ Below F w w' ∧ w.grownBy w' v.ownBlock := by
    rcases hr with ⟨rfl, he⟩ | ⟨b, off, cap, rfl, h1, h2, hb, hc⟩
    · have hy : ys = [] := by cases ys with | nil => rfl | cons y r => simp [sv] at he
      subst hy
      exact ⟨v, w, run_append_owned_none (w := w) F 28 o.type 9 i 1 Tryz.underlying28 hi v n (sv xs) hacc, by simpa using hacc, Below.refl _ _, ⟨rfl, rfl, rfl, Nat.le_refl _, fun _ _ _ => rfl⟩⟩
    · obtain ⟨v', w', hr, h2, h3, _⟩ := run_append_own (P := Tryz.prog) w F 28 o.type 9 i _ 1 16 Tryz.underlying28 hi hz hsize hby rfl (by decide) v n (sv xs) hacc ⟨b, off, none⟩ (sv ys).length cap (sv ys) (by rw [Nat.mul_one]) (fun j u hj => by rw [Addr.add_lit]; exact hc j u hj) (fun u hu => by simp only [sv, List.mem_map] at hu; obtain ⟨q, _, rfl⟩ := hu; rfl) (by rw [sv_len]; unfold maxLen; omega) (by rw [sv_len]; omega) hF
      refine ⟨v', w', hr, ?_, (Below.refl F w).grown h3 hF (fun k hk => (hacc.lt k hk).1), h3⟩
      rw [sv_len] at h2
      rw [sv_app]; exact h2
  obtain ⟨v', w', hrun, h2, h3, h4⟩ := fin
  refine wpList_plain hgd fun K hK => ?_
  unfold Oper.wp execOp
  simp only [ho, resolve, invoke, builtin, Sem.run_bind, Sem.run_pure, Result.andThen_ok, List.map_toArray, List.map_cons, List.map_nil, hs, hx, hrun]
  exact hK _ _ (h v' w' h2 h3 h4)
end Go.Proofs.YtdanfekodmncmaaGreatDoor

namespace Go.Proofs.YtdanfekodmncmaaGreatDoor
set_option linter.unusedVariables false
set_option linter.unusedSimpArgs false
open Go.Shelf Go
def laysM171_ren : Go.Shelf.Ren := ⟨fun | 171 => 50 | 243 => 64 | 246 => 75 | 283 => 84 | 284 => 85 | 285 => 86 | 286 => 87 | 129 => 93 | 317 => 92 | 318 => 94 | 319 => 95 | 320 => 96 | 337 => 97 | 338 => 98 | n => n, fun | 3 => 3 | 9 => 9 | 2 => 2 | 4 => 4 | 171 => 133 | 0 => 0 | 53 => 126 | 37 => 69 | 5 => 5 | 173 => 136 | 212 => 149 | 51 => 110 | 20 => 20 | 213 => 150 | 46 => 114 | 232 => 153 | 233 => 154 | n => n, fun | 17 => 6 | 18 => 7 | 19 => 8 | n => n⟩
theorem laysM171 : Go.Proofs.LaysM.n171 Tryz.prog laysM171_ren := {
  mixed := by kernel_rfl
  f129 := Tryz.func93.trans (congrArg some (by kernel_rfl))
  f171 := Tryz.func50.trans (congrArg some (by kernel_rfl))
  f243 := Tryz.func64.trans (congrArg some (by kernel_rfl))
  f246 := Tryz.func75.trans (congrArg some (by kernel_rfl))
  f283 := Tryz.func84.trans (congrArg some (by kernel_rfl))
  f284 := Tryz.func85.trans (congrArg some (by kernel_rfl))
  f285 := Tryz.func86.trans (congrArg some (by kernel_rfl))
  f286 := Tryz.func87.trans (congrArg some (by kernel_rfl))
  f317 := Tryz.func92.trans (congrArg some (by kernel_rfl))
  f318 := Tryz.func94.trans (congrArg some (by kernel_rfl))
  f319 := Tryz.func95.trans (congrArg some (by kernel_rfl))
  f320 := Tryz.func96.trans (congrArg some (by kernel_rfl))
  f337 := Tryz.func97.trans (congrArg some (by kernel_rfl))
  f338 := Tryz.func98.trans (congrArg some (by kernel_rfl))
  t0 := Tryz.underlying0
  a0 := Tryz.isAgg0
  z0 := Tryz.sizeOf0
  v0 := Tryz.zeroValue0
  t2 := Tryz.underlying2
  a2 := Tryz.isAgg2
  z2 := Tryz.sizeOf2
  v2 := Tryz.zeroValue2
  t3 := Tryz.underlying3
  a3 := Tryz.isAgg3
  z3 := Tryz.sizeOf3
  v3 := Tryz.zeroValue3
  t4 := Tryz.underlying4
  a4 := Tryz.isAgg4
  z4 := Tryz.sizeOf4
  v4 := Tryz.zeroValue4
  t5 := Tryz.underlying5
  a5 := Tryz.isAgg5
  z5 := Tryz.sizeOf5
  v5 := Tryz.zeroValue5
  t9 := Tryz.underlying9
  a9 := Tryz.isAgg9
  z9 := Tryz.sizeOf9
  v9 := Tryz.zeroValue9
  t20 := Tryz.underlying20
  a20 := Tryz.isAgg20
  z20 := Tryz.sizeOf20
  v20 := Tryz.zeroValue20
  t37 := Tryz.underlying69
  a37 := Tryz.isAgg69
  z37 := Tryz.sizeOf69
  v37 := Tryz.zeroValue69
  t46 := Tryz.underlying114
  a46 := Tryz.isAgg114
  z46 := Tryz.sizeOf114
  v46 := Tryz.zeroValue114
  t51 := Tryz.underlying110
  a51 := Tryz.isAgg110
  z51 := Tryz.sizeOf110
  v51 := Tryz.zeroValue110
  t53 := Tryz.underlying126
  a53 := Tryz.isAgg126
  z53 := Tryz.sizeOf126
  v53 := Tryz.zeroValue126
  t171 := Tryz.underlying133
  a171 := Tryz.isAgg133
  z171 := Tryz.sizeOf133
  v171 := Tryz.zeroValue133
  t173 := Tryz.underlying136
  a173 := Tryz.isAgg136
  z173 := Tryz.sizeOf136
  v173 := Tryz.zeroValue136
  t212 := Tryz.underlying149
  a212 := Tryz.isAgg149
  z212 := Tryz.sizeOf149
  v212 := Tryz.zeroValue149
  t213 := Tryz.underlying150
  a213 := Tryz.isAgg150
  z213 := Tryz.sizeOf150
  t232 := Tryz.underlying153
  a232 := Tryz.isAgg153
  z232 := Tryz.sizeOf153
  v232 := Tryz.zeroValue153
  t233 := Tryz.underlying154
  a233 := Tryz.isAgg154
  z233 := Tryz.sizeOf154
  v233 := Tryz.zeroValue154
  g17 := by kernel_rfl
  g18 := by kernel_rfl
  g19 := by kernel_rfl
  i0 := by kernel_rfl
  i2 := by kernel_rfl
  i3 := by kernel_rfl
  i4 := by kernel_rfl
  i5 := by kernel_rfl
  i9 := by kernel_rfl
  i20 := by kernel_rfl
  i37 := by kernel_rfl
  i46 := by kernel_rfl
  i51 := by kernel_rfl
  i53 := by kernel_rfl
  i171 := by kernel_rfl
  i173 := by kernel_rfl
  i212 := by kernel_rfl
  i232 := by kernel_rfl
  i233 := by kernel_rfl
  m17 := by kernel_rfl
  m18 := by kernel_rfl
  m19 := by kernel_rfl }
open Go.RowKit Go.Sort Go.Lib in
theorem strconv_Itoa (n : Int) (h0 : -9223372036854775808 ≤ n) (h1 : n ≤ 9223372036854775807) (w : World) (htab : Lib.TabIs Tryz.prog w "internal/strconv.uint64pow10" .u64 Lib.pow10Tab) :
    Calls Tryz.prog 50 #[.int .i64 n] w fun e w' => e = .returned (.string ⟨(Lib.itoa n).toArray⟩) ∧ ∃ k os, w' = grow (w.drewN k) os := Any.strconv_Itoa laysM171 n h0 h1 w htab
end Go.Proofs.YtdanfekodmncmaaGreatDoor
