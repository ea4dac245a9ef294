/- The model's CalNext. -/
import Derived.Test.YtkemfifkjaclhaaDoorCA9
namespace Go.Proofs.YtkemfifkjaclhaaDoor
set_option linter.unusedVariables false
set_option linter.unusedSimpArgs false
open Go.RowKit Go

theorem FirstR.unique {P : Int → Prop} (hP : ∀ u, P u → 0 ≤ u) {t m n : Int} (h1 : FirstR P t m) (h2 : FirstR P t n) : m = n := by
  rcases h1 with ⟨rfl, h1⟩ | ⟨a1, b1, c1⟩
  · rcases h2 with ⟨rfl, _⟩ | ⟨a2, b2, _⟩
    · rfl
    · exact absurd a2 (h1 n b2)
  · rcases h2 with ⟨rfl, h2⟩ | ⟨a2, b2, c2⟩
    · exact absurd a1 (h2 m b1)
    · rcases Int.lt_trichotomy m n with h | h | h
      · exact absurd a1 (c2 m b1 h)
      · exact h
      · exact absurd a2 (c1 n b2 h)
theorem FirstR.nonneg {P : Int → Prop} (hP : ∀ u, P u → 0 ≤ u) {t n : Int} (h : FirstR P t n) : n = -1 ∨ 0 ≤ n := by
  rcases h with ⟨rfl, _⟩ | ⟨a, _, _⟩
  · exact .inl rfl
  · exact .inr (hP n a)
/-- The first of two kinds. -/
theorem FirstR.take {P Q : Int → Prop} {t b n : Int} (hb : FirstR P t b) (hn : FirstR Q t n) (hP : ∀ u, P u → 0 ≤ u) (h0 : 0 ≤ n) (h1 : b < 0 ∨ n < b) : FirstR (fun u => P u ∨ Q u) t n := by
  rcases hn with ⟨rfl, _⟩ | ⟨a, c, d⟩
  · omega
  · refine .inr ⟨.inr a, c, fun u h2 h3 h4 => ?_⟩
    rcases h4 with h4 | h4
    · rcases hb with ⟨_, hb⟩ | ⟨pb, _, hb⟩
      · exact hb u h2 h4
      · by_cases e : u < b
        · exact hb u h2 e h4
        · rcases h1 with h1 | h1
          · have := hP b pb; omega
          · omega
    · exact d u h2 h3 h4
theorem FirstR.keep {P Q : Int → Prop} {t b n : Int} (hb : FirstR P t b) (hn : FirstR Q t n) (hP : ∀ u, P u → 0 ≤ u) (hQ : ∀ u, Q u → 0 ≤ u) (h : n < 0 ∨ (0 ≤ b ∧ b ≤ n)) : FirstR (fun u => P u ∨ Q u) t b := by
  rcases hb with ⟨rfl, hb⟩ | ⟨a, c, d⟩
  · refine .inl ⟨rfl, fun u h1 h2 => ?_⟩
    rcases h2 with h2 | h2
    · exact hb u h1 h2
    · rcases hn with ⟨_, hn⟩ | ⟨a, _, _⟩
      · exact hn u h1 h2
      · have := hQ n a; omega
  · refine .inr ⟨.inl a, c, fun u h1 h2 h3 => ?_⟩
    rcases h3 with h3 | h3
    · exact d u h1 h2 h3
    · rcases hn with ⟨_, hn⟩ | ⟨a', _, hn⟩
      · exact hn u h1 h3
      · have h0 := hQ n a'
        exact hn u h1 (by omega) h3
theorem FirstR.congr {P Q : Int → Prop} (h : ∀ u, P u ↔ Q u) {t n : Int} (hn : FirstR P t n) : FirstR Q t n := by
  have : P = Q := funext fun u => propext (h u)
  rw [← this]; exact hn

/-- A tick of one of the first q rules. -/
def OfTo (rs : List Rul) (q : Nat) (u : Int) : Prop := ∃ i, ∃ h : i < rs.length, i < q ∧ OfRule rs[i] u
theorem ofTo_nonneg {rs : List Rul} (hok : ∀ i (hi : i < rs.length), RuleOk rs[i]) (q : Nat) : ∀ u, OfTo rs q u → 0 ≤ u := by
  rintro u ⟨i, hi, _, h⟩
  have h1 := (hok i hi).2.2.1.1
  have h2 := h.1.1
  omega
theorem of_nonneg {r : Rul} (h : RuleOk r) : ∀ u, OfRule r u → 0 ≤ u := fun u hu => by
  have h1 := h.2.2.1.1
  have h2 := hu.1.1
  omega
theorem ofTo_step {rs : List Rul} {q : Nat} (hq : q < rs.length) (u : Int) : (OfTo rs q u ∨ OfRule rs[q] u) ↔ OfTo rs (q + 1) u := by
  constructor
  · rintro (⟨i, hi, h1, h2⟩ | h)
    · exact ⟨i, hi, by omega, h2⟩
    · exact ⟨q, hq, by omega, h⟩
  · rintro ⟨i, hi, h1, h2⟩
    by_cases e : i = q
    · subst e; exact .inr h2
    · exact .inl ⟨i, hi, by omega, h2⟩

set_option maxHeartbeats 2000000 in
theorem l41Next (a : Option Addr) (len cap : Nat) (rs : List Rul) (t : Int) (w : World) (hr : IsRuls w a len cap rs) (hok : ∀ i (hi : i < rs.length), RuleOk rs[i]) (ht : -1 ≤ t ∧ t ≤ 100000) :
    Calls Tryd.prog 20 #[.slice a len cap, .int .i64 t] w fun e w' => (∃ n : Int, e = .returned (.int .i64 n) ∧ FirstR (OfTo rs rs.length) t n) ∧ Below w.heap.size w w' := by
  obtain ⟨hz, hm⟩ := IsRecs.len hr
  unfold maxLen at hm
  have HR : Hid (IsRuls w a len cap rs) := hr
  have HOK : Hid (∀ i (hi : i < rs.length), RuleOk rs[i]) := hok
  clear hr hok
  go_enter Tryd.func20, Tryd.ntmps20
  go_wp2
  go_loopw [5, 6] (fun v i wr => ∃ (q : Nat) (b : Int), i = .int .i64 q ∧ v = .int .i64 b ∧ q ≤ len ∧ FirstR (OfTo rs q) t b ∧ Below w.heap.size w wr) (fun _ i _ => len - (intOf i).toNat)
  case atStart => exact ⟨0, -1, rfl, rfl, Nat.zero_le _, .inl ⟨rfl, fun u _ ⟨i, _, h, _⟩ => by omega⟩, Below.refl _ _⟩
  case round =>
    obtain ⟨q, b, rfl, rfl, hq, hf, hb⟩ := hrel
    have HF : Hid (FirstR (OfTo rs q) t b) := hf
    by_cases hlt : q < len
    · have hbn := hf.nonneg (ofTo_nonneg HOK.out q)
      clear hf
      obtain ⟨bk, off, rfl, h1, hbl, a1, l1, k1, c0, c1, c2, c3, c4, hrow1, _⟩ := IsRuls.at (IsRuls.below HR.out hb) (i := q) (by omega)
      have HE : Hid _ := l41First rs[q] a1 l1 k1 t wr hrow1 (HOK.out q (by omega)) ht
      go_wp2_with fail
      refine Calls.mono HE.out ?_
      rintro e w1 ⟨n, rfl, hn, hw1⟩
      have hnn := hn.nonneg (of_nonneg (HOK.out q (by omega)))
      have HN : Hid (FirstR (OfRule rs[q]) t n) := hn
      have HBB : Hid (Below w.heap.size w w1) := bcall hb hb.size hw1
      clear hn hw1 hb c0 c1 c2 c3 c4
      by_cases h0 : 0 ≤ n
      · by_cases hb0 : b < 0
        · have HT : Hid (FirstR (OfTo rs (q + 1)) t n) := (HF.out.take HN.out (ofTo_nonneg HOK.out q) h0 (.inl hb0)).congr (ofTo_step (by omega))
          go_wp2_with fail
          go_roundw
          case rel => exact ⟨q + 1, n, by go_num, rfl, by omega, HT.out, HBB.out⟩
          case measure => simp [intOf]; omega
        · by_cases hnb : n < b
          · have HT : Hid (FirstR (OfTo rs (q + 1)) t n) := (HF.out.take HN.out (ofTo_nonneg HOK.out q) h0 (.inr hnb)).congr (ofTo_step (by omega))
            go_wp2_with fail
            go_roundw
            case rel => exact ⟨q + 1, n, by go_num, rfl, by omega, HT.out, HBB.out⟩
            case measure => simp [intOf]; omega
          · have HT : Hid (FirstR (OfTo rs (q + 1)) t b) := (HF.out.keep HN.out (ofTo_nonneg HOK.out q) (of_nonneg (HOK.out q (by omega))) (.inr ⟨by omega, by omega⟩)).congr (ofTo_step (by omega))
            go_wp2_with fail
            go_roundw
            case rel => exact ⟨q + 1, b, by go_num, rfl, by omega, HT.out, HBB.out⟩
            case measure => simp [intOf]; omega
      · have HT : Hid (FirstR (OfTo rs (q + 1)) t b) := (HF.out.keep HN.out (ofTo_nonneg HOK.out q) (of_nonneg (HOK.out q (by omega))) (.inl (by omega))).congr (ofTo_step (by omega))
        go_wp2_with fail
        go_roundw
        case rel => exact ⟨q + 1, b, by go_num, rfl, by omega, HT.out, HBB.out⟩
        case measure => simp [intOf]; omega
    · have he : q = rs.length := by omega
      clear hf
      go_wp2_with fail
      go_ret
      exact ⟨⟨b, rfl, by rw [← he]; exact HF.out⟩, hb⟩

theorem ofTo_due {rs : List Rul} (h : calOk rs = true) (u : Int) : OfTo rs rs.length u ↔ calDue rs u = true := by
  unfold calDue due
  rw [h, Bool.true_and, List.any_eq_true]
  constructor
  · rintro ⟨i, hi, _, h⟩; exact ⟨_, List.getElem_mem hi, decide_eq_true h⟩
  · rintro ⟨r, hr, h⟩
    obtain ⟨i, hi, rfl⟩ := List.mem_iff_getElem.1 hr
    exact ⟨i, hi, hi, of_decide_eq_true h⟩
theorem due_bd {rs : List Rul} {u : Int} (h : calDue rs u = true) : 0 ≤ u ∧ u ≤ 100000 := by
  have hok : calOk rs = true := by unfold calDue at h; simp only [Bool.and_eq_true] at h; exact h.1
  obtain ⟨i, hi, _, h⟩ := (ofTo_due hok u).2 h
  have h1 := (calOk_rules hok i hi).2.2.1.1
  have h2 := (calOk_rules hok i hi).2.2.2.1.2
  have h3 := h.1
  omega
/-- The next tick that is due. -/
def IsNext (rs : List Rul) (t n : Int) : Prop := FirstR (fun u => calDue rs u = true) t n
open Classical in
noncomputable def calNext (rs : List Rul) (t : Int) : Int := if h : ∃ n, IsNext rs t n then Classical.choose h else -1
theorem calNext_eq {rs : List Rul} {t n : Int} (h : IsNext rs t n) : calNext rs t = n := by
  have he : ∃ n, IsNext rs t n := ⟨n, h⟩
  unfold calNext
  rw [dif_pos he]
  exact FirstR.unique (fun u hu => (due_bd hu).1) (Classical.choose_spec he) h
end Go.Proofs.YtkemfifkjaclhaaDoor
