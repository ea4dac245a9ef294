/- Plain: the text of rules, read back. -/
import Derived.Test.YtdanfekodmncmaaGreatDoorJ6
import Derived.Test.YtdanfekodmncmaaGreatDoorJ7
import Derived.Deep.RegionWith
import Derived.BigGuard
import Derived.BigRegion
namespace Go.Proofs.YtdanfekodmncmaaGreatDoor
set_option linter.unusedVariables false
set_option linter.unusedSimpArgs false
open Go.RowKit Go

def w1B : ByteArray := ⟨#[101, 118, 101, 114, 121, 32]⟩
def w2B : ByteArray := ⟨#[32, 97, 116, 32]⟩
def w3B : ByteArray := ⟨#[32, 102, 114, 111, 109, 32]⟩
def w4B : ByteArray := ⟨#[32, 116, 111, 32]⟩
def w5B : ByteArray := ⟨#[32, 98, 117, 116]⟩
def spB : ByteArray := ⟨#[32]⟩
theorem e_spB : (⟨#[32]⟩ : ByteArray) = spB := rfl
theorem spB_size : spB.size = 1 := rfl
/-- Numbers behind a text, a space ahead of each. -/
def numsT (b : ByteArray) (l : List Int) : ByteArray := l.foldl (fun o n => o ++ spB ++ itoB n) b
theorem numsT_snoc (b : ByteArray) (l : List Int) (n : Int) : numsT b (l ++ [n]) = numsT b l ++ spB ++ itoB n := by simp [numsT]
def Fits (n : Int) : Prop := -9223372036854775807 ≤ n ∧ n ≤ 9223372036854775807
theorem numsT_size (l : List Int) (h : ∀ n ∈ l, Fits n) (b : ByteArray) : (numsT b l).size ≤ b.size + 22 * l.length := by
  induction l generalizing b with
  | nil => simp [numsT]
  | cons n l ih =>
    have h1 := ih (fun x hx => h x (List.mem_cons_of_mem _ hx)) (b ++ spB ++ itoB n)
    have h0 : Fits n := h n List.mem_cons_self
    have h2 := itoB_size n (by have := h0.1; omega) h0.2
    have e : numsT b (n :: l) = numsT (b ++ spB ++ itoB n) l := rfl
    rw [e]
    simp only [ByteArray.size_append, spB_size, List.length_cons] at h1 ⊢
    omega
def headT (r : Rul) : ByteArray := w1B ++ itoB r.ev ++ w2B ++ itoB r.at_ ++ w3B ++ itoB r.fr ++ w4B ++ itoB r.to_
/-- A rule's text, with no newline. -/
def rulT (r : Rul) : ByteArray := numsT (if r.but = [] then headT r else headT r ++ w5B) r.but
theorem rule_fits {r : Rul} (h : RuleOk r) : ∀ i, i < r.but.length → Fits (r.but.getD i 0) := fun i hi => ⟨by have := (h.2.2.2.2.2 i hi).1; omega, by have := (h.2.2.2.2.2 i hi).2.1; omega⟩
theorem fits_all {l : List Int} (h : ∀ i, i < l.length → Fits (l.getD i 0)) : ∀ n ∈ l, Fits n := fun n hn => by
  obtain ⟨i, hi, rfl⟩ := List.mem_iff_getElem.mp hn
  have := h i hi
  rwa [getD_at l i hi] at this

end Go.Proofs.YtdanfekodmncmaaGreatDoor

namespace Go.Proofs.YtdanfekodmncmaaGreatDoor
set_option linter.unusedVariables false
set_option linter.unusedSimpArgs false
open Go.RowKit Go

def CalOk (rs : List Rul) : Prop := (∀ i (h : i < rs.length), RuleOk rs[i]) ∧ 1 ≤ rs.length ∧ rs.length ≤ 4
def calOk (rs : List Rul) : Bool := rs.all ruleOk && decide ((1 : Int) ≤ (rs.length : Int) ∧ (rs.length : Int) ≤ 4)
theorem calOk_no {rs : List Rul} {k : Nat} (hk : k < rs.length) (h : ruleOk rs[k] = false) : calOk rs = false := by
  have : rs.all ruleOk = false := by rw [List.all_eq_false]; exact ⟨rs[k], List.getElem_mem hk, by simp [h]⟩
  simp [calOk, this]
theorem calOk_all {rs : List Rul} (h : ∀ i (hi : i < rs.length), ruleOk rs[i] = true) : calOk rs = decide ((1 : Int) ≤ (rs.length : Int) ∧ (rs.length : Int) ≤ 4) := by
  have : rs.all ruleOk = true := by rw [List.all_eq_true]; intro x hx; obtain ⟨i, hi, rfl⟩ := List.mem_iff_getElem.1 hx; exact h i hi
  simp only [calOk, this, Bool.true_and]
theorem calOk_rules {rs : List Rul} (h : calOk rs = true) : ∀ i (hi : i < rs.length), RuleOk rs[i] := by
  intro i hi
  simp only [calOk, Bool.and_eq_true, List.all_eq_true] at h
  have := h.1 _ (List.getElem_mem hi)
  simpa [ruleOk] using this

set_option maxHeartbeats 1000000 in
theorem specCalOk (a : Option Addr) (len cap : Nat) (rs : List Rul) (w : World) (hr : IsRuls w a len cap rs) :
    Calls Tryz.prog 11 #[.slice a len cap] w fun e w' => e = .returned (.bool (calOk rs)) ∧ Below w.heap.size w w' := by
  obtain ⟨hz, hm⟩ := IsRecs.len hr
  unfold maxLen at hm
  have HR : Hid (IsRuls w a len cap rs) := hr
  clear hr
  have HI : Hid (∀ n lo hi w, Calls Tryz.prog 19 #[.int .i64 n, .int .i64 lo, .int .i64 hi] w fun x w' => x = .returned (.bool (decide (lo ≤ n ∧ n ≤ hi))) ∧ w' = w) := l41In
  go_enter Tryz.func11, Tryz.ntmps11
  go_wp2
  go_loopw [3] (fun i wr => ∃ q : Nat, i = .int .i64 q ∧ q ≤ len ∧ (∀ i (hi : i < rs.length), i < q → ruleOk rs[i] = true) ∧ Below w.heap.size w wr) (fun i _ => len - (intOf i).toNat)
  case atStart => exact ⟨0, rfl, Nat.zero_le _, fun i _ h => by omega, Below.refl _ _⟩
  case round =>
    obtain ⟨q, rfl, hq, hok, hb⟩ := hrel
    by_cases hlt : q < len
    · obtain ⟨b, off, rfl, h1, hbl, a1, l1, k1, c0, c1, c2, c3, c4, hrow1, _⟩ := IsRuls.at (IsRuls.below HR.out hb) (i := q) (by omega)
      have HE := l41RuleOk rs[q] a1 l1 k1 wr hrow1
      by_cases hy : ruleOk rs[q] = true
      · have HOK : Hid (∀ i (hi : i < rs.length), i < q + 1 → ruleOk rs[i] = true) := fun i hi hiq => by
          by_cases e : i = q
          · subst e; exact hy
          · exact hok i hi (by omega)
        rw [hy] at HE
        have HE : Hid _ := HE
        clear hok hy
        go_wp2_with fail
        refine Calls.mono HE.out ?_
        rintro e w1 ⟨rfl, hw1⟩
        go_wp2_with fail
        go_roundw
        case rel => exact ⟨q + 1, by go_num, by omega, HOK.out, bcall hb hb.size hw1⟩
        case measure => simp [intOf]; omega
      · have hy : ruleOk rs[q] = false := by simpa using hy
        have HF : Hid (calOk rs = false) := calOk_no (by omega) hy
        rw [hy] at HE
        have HE : Hid _ := HE
        clear hok hy
        go_wp2_with fail
        refine Calls.mono HE.out ?_
        rintro e w1 ⟨rfl, hw1⟩
        go_wp2_with fail
        go_ret
        exact ⟨ret_bool HF.out.symm, bcall hb hb.size hw1⟩
    · have hf := calOk_all fun i hi => hok i hi (by omega)
      rw [hz] at hf
      have HF : Hid (calOk rs = decide ((1 : Int) ≤ (len : Int) ∧ (len : Int) ≤ 4)) := hf
      clear hok hf
      go_wp2_with (go_at_call 19; refine (HI.out _ _ _ _).mono ?_; rintro e w1 ⟨rfl, rfl⟩)
      go_ret
      refine ⟨?_, hb⟩
      rw [HF.out]
      simp

end Go.Proofs.YtdanfekodmncmaaGreatDoor

namespace Go.Proofs.YtdanfekodmncmaaGreatDoor
set_option linter.unusedVariables false
set_option linter.unusedSimpArgs false
open Go.RowKit Go

def nlB : ByteArray := ⟨#[10]⟩
theorem e_nlB : (⟨#[10]⟩ : ByteArray) = nlB := rfl
theorem nlB_size : nlB.size = 1 := rfl
/-- The text of rules: a newline behind each. -/
def calT (rs : List Rul) : ByteArray := rs.foldl (fun o r => o ++ rulT r ++ nlB) ⟨#[]⟩
theorem calT_snoc (rs : List Rul) (r : Rul) : calT (rs ++ [r]) = calT rs ++ rulT r ++ nlB := by simp [calT]
theorem rulT_size {r : Rul} (h : RuleOk r) : (rulT r).size ≤ 300 := by
  have h1 := numsT_size r.but (fits_all (rule_fits h)) (if r.but = [] then headT r else headT r ++ w5B)
  have h8 : r.but.length ≤ 8 := h.2.2.2.2.1
  obtain ⟨⟨e1, e2⟩, ⟨a1, a2⟩, ⟨f1, f2⟩, ⟨t1, t2⟩, _, _⟩ := h
  have s1 := itoB_size r.ev (by omega) (by omega)
  have s2 := itoB_size r.at_ (by omega) (by omega)
  have s3 := itoB_size r.fr (by omega) (by omega)
  have s4 := itoB_size r.to_ (by omega) (by omega)
  have z1 : w1B.size = 6 := rfl
  have z2 : w2B.size = 4 := rfl
  have z3 : w3B.size = 6 := rfl
  have z4 : w4B.size = 4 := rfl
  have z5 : w5B.size = 4 := rfl
  have hh : (headT r).size ≤ 104 := by unfold headT; simp only [ByteArray.size_append]; omega
  have : (if r.but = [] then headT r else headT r ++ w5B).size ≤ 108 := by
    split
    · omega
    · rw [ByteArray.size_append]; omega
  unfold rulT
  omega
theorem calT_size {rs : List Rul} (h : ∀ i (hi : i < rs.length), RuleOk rs[i]) : ∀ q, q ≤ rs.length → (calT (rs.take q)).size ≤ 301 * q := by
  intro q
  induction q with
  | zero => intro _; simp only [List.take_zero, calT, List.foldl_nil]; exact Nat.le_refl 0
  | succ q ih =>
    intro hq
    have e : rs.take (q + 1) = rs.take q ++ [rs[q]] := (List.take_append_getElem (by omega)).symm
    rw [e, calT_snoc, ByteArray.size_append, ByteArray.size_append]
    have h1 := ih (by omega)
    have h2 := rulT_size (h q (by omega))
    have h3 := nlB_size
    omega
/-- What the model writes. -/
def calW (rs : List Rul) : ByteArray := if calOk rs = true then calT rs else ⟨#[]⟩

end Go.Proofs.YtdanfekodmncmaaGreatDoor

namespace Go.Proofs.YtdanfekodmncmaaGreatDoor
set_option linter.unusedVariables false
set_option linter.unusedSimpArgs false
open Go
namespace Cal

/-- Words with a byte between. -/
def glue (c : UInt8) : List (List UInt8) → List UInt8
  | [] => []
  | [x] => x
  | x :: y :: t => x ++ c :: glue c (y :: t)
theorem glue_cut (c : UInt8) (l : List UInt8) : glue c (cutL c l) = l := by
  induction l with
  | nil => rfl
  | cons y l ih =>
    rw [cutL]
    have hne := cutL_ne c l
    split
    · rename_i h
      cases hc : cutL c l with
      | nil => exact absurd hc hne
      | cons a t => rw [glue, ← hc, ih]; simp [h]
    · split
      · rename_i a t hc
        rw [hc] at ih
        cases t with
        | nil => simp only [glue] at ih ⊢; rw [ih]
        | cons b t => simp only [glue, List.cons_append] at ih ⊢; rw [ih]
      · rename_i hc; exact absurd hc hne
theorem cut_glue (c : UInt8) : ∀ (ws : List (List UInt8)), ws ≠ [] → (∀ x ∈ ws, ∀ b ∈ x, b ≠ c) → cutL c (glue c ws) = ws := by
  intro ws
  induction ws with
  | nil => intro h; exact absurd rfl h
  | cons x ws ih =>
    intro _ h
    cases ws with
    | nil => exact cutL_none c x (h x (by simp))
    | cons y t =>
      show cutL c (x ++ c :: glue c (y :: t)) = _
      rw [cutL_piece c x _ (h x (by simp)), ih (by simp) (fun z hz => h z (List.mem_cons_of_mem _ hz))]
theorem glue_snoc (c : UInt8) (x : List UInt8) : ∀ ws : List (List UInt8), ws ≠ [] → glue c (ws ++ [x]) = glue c ws ++ c :: x := by
  intro ws
  induction ws with
  | nil => intro h; exact absurd rfl h
  | cons y ws ih =>
    intro _
    cases ws with
    | nil => rfl
    | cons z t =>
      rw [List.cons_append, List.cons_append, glue, ← List.cons_append, ih (by simp), glue, List.append_assoc, List.cons_append]
theorem fold_glue : ∀ (l : List Int) (b : ByteArray) (ws : List (List UInt8)), ws ≠ [] → b.data.toList = glue 32 ws → (numsT b l).data.toList = glue 32 (ws ++ l.map fun n => (itoB n).data.toList) := by
  intro l
  induction l with
  | nil => intro b ws _ h; simpa [numsT] using h
  | cons n l ih =>
    intro b ws hne h
    have e : numsT b (n :: l) = numsT (b ++ spB ++ itoB n) l := rfl
    rw [e, ih (b ++ spB ++ itoB n) (ws ++ [(itoB n).data.toList]) (by simp) (by rw [glue_snoc 32 _ ws hne, ← h]; simp [spB])]
    simp

/-- Decimals. -/
theorem dec_dig (u : Nat) : ∀ c ∈ Lib.decDigits u, isDig c = true := by
  induction u using Nat.strongRecOn with
  | _ u ih =>
    have hd : ∀ v, v < 10 → isDig (UInt8.ofNat (48 + v)) = true := by decide
    rw [Lib.decDigits]
    split
    · rename_i h; intro c hc; simp only [List.mem_singleton] at hc; subst hc; exact hd u h
    · intro c hc
      rw [List.mem_append, List.mem_singleton] at hc
      rcases hc with hc | rfl
      · exact ih (u / 10) (by omega) c hc
      · exact hd _ (by omega)
theorem dec_val (u : Nat) : digVal 0 (Lib.decDigits u) = u := by
  induction u using Nat.strongRecOn with
  | _ u ih =>
    have hd : ∀ v : Nat, v < 10 → ((UInt8.ofNat (48 + v)).toNat : Int) - 48 = v := by decide
    rw [Lib.decDigits]
    split
    · rename_i h; show 0 * 10 + _ = _; rw [hd u h]; omega
    · rw [digVal_snoc, ih (u / 10) (by omega), hd _ (by omega)]; omega
theorem dec_len (u : Nat) : 1 ≤ (Lib.decDigits u).length := by
  rw [Lib.decDigits]; split <;> simp
theorem dec_len_le : ∀ (k u : Nat), u < 10 ^ (k + 1) → (Lib.decDigits u).length ≤ k + 1 := by
  intro k
  induction k with
  | zero => intro u h; rw [Lib.decDigits, dif_pos (by simpa using h)]; simp
  | succ k ih =>
    intro u h
    rw [Lib.decDigits]; split
    · simp
    · have := ih (u / 10) (by rw [Nat.pow_succ] at h; omega)
      simp; omega
theorem dec_head (u : Nat) (h : 1 ≤ u) : (Lib.decDigits u).head? ≠ some 48 := by
  induction u using Nat.strongRecOn with
  | _ u ih =>
    rw [Lib.decDigits]; split
    · rename_i h1
      have : ∀ v : Nat, v < 10 → 1 ≤ v → UInt8.ofNat (48 + v) ≠ 48 := by decide
      simpa using this u h1 h
    · rw [List.head?_append]
      have h2 := ih (u / 10) (by omega) (by omega)
      have h3 := dec_len (u / 10)
      cases hx : Lib.decDigits (u / 10) with
      | nil => rw [hx] at h3; simp at h3
      | cons c l => rw [hx] at h2; simpa using h2
theorem dec_good (u : Nat) (h : u ≤ 999999) : numGood (Lib.decDigits u) = true := by
  refine numGood_good (dec_len u) (dec_len_le 5 u (by omega)) ?_ (fun i hi => dec_dig u _ (List.getElem_mem hi))
  rintro ⟨h1, h2⟩
  by_cases hu : 1 ≤ u
  · exact dec_head u hu h2
  · have : u = 0 := by omega
    subst this
    rw [Lib.decDigits, dif_pos (by omega)] at h1; simp at h1
theorem ito_bytes (n : Int) (h : 0 ≤ n) : (itoB n).data.toList = Lib.decDigits n.toNat := by
  obtain ⟨u, rfl⟩ : ∃ u : Nat, n = (u : Int) := ⟨n.toNat, by omega⟩
  rw [itoB_nat]; simp [decB]
/-- A number's own text is read as it. -/
theorem numV_own (n : Int) (h0 : 0 ≤ n) (h1 : n ≤ 999999) : numV (itoB n).data.toList = n := by
  rw [ito_bytes n h0, numV_yes (dec_good _ (by omega)), dec_val]; omega
theorem dig_nat {c : UInt8} (h : isDig c = true) : UInt8.ofNat (48 + (c.toNat - 48)) = c := by
  obtain ⟨h1, h2⟩ := isDig_bd h
  rw [Nat.add_sub_cancel' h1]; simp
theorem digVal_pos : ∀ (l : List UInt8), l ≠ [] → l.head? ≠ some 48 → l.all isDig = true → 1 ≤ digVal 0 l := by
  intro l hne h0 ha
  cases l with
  | nil => exact absurd rfl hne
  | cons c t =>
    simp only [List.all_cons, Bool.and_eq_true] at ha
    obtain ⟨h1, h2⟩ := isDig_bd ha.1
    have hc : c.toNat ≠ 48 := fun e => h0 (by simp only [List.head?_cons, Option.some.injEq]; exact UInt8.toNat_inj.1 (by rw [e]; rfl))
    have e : digVal 0 (c :: t) = digVal ((c.toNat : Int) - 48) t := by simp [digVal]
    have mono : ∀ (t : List UInt8) (n : Int), 1 ≤ n → t.all isDig = true → 1 ≤ digVal n t := by
      intro t
      induction t with
      | nil => intro n hn _; exact hn
      | cons d t ih =>
        intro n hn ht
        simp only [List.all_cons, Bool.and_eq_true] at ht
        obtain ⟨d1, d2⟩ := isDig_bd ht.1
        exact ih (n * 10 + ((d.toNat : Int) - 48)) (by omega) ht.2
    rw [e]
    exact mono t _ (by omega) ha.2
theorem dec_of_dig : ∀ (k : Nat) (l : List UInt8), l.length = k + 1 → (k = 0 ∨ l.head? ≠ some 48) → l.all isDig = true → Lib.decDigits (digVal 0 l).toNat = l := by
  intro k
  induction k with
  | zero =>
    intro l hl _ ha
    match l, hl with
    | [c], _ =>
      simp only [List.all_cons, List.all_nil, Bool.and_true] at ha
      obtain ⟨h1, h2⟩ := isDig_bd ha
      have e : digVal 0 [c] = ((c.toNat : Int) - 48) := by simp [digVal]
      have e2 : ((c.toNat : Int) - 48).toNat = c.toNat - 48 := by omega
      rw [e, e2, Lib.decDigits, dif_pos (by omega), dig_nat ha]
  | succ k ih =>
    intro l hl hh ha
    obtain ⟨t, c, rfl⟩ : ∃ t c, l = t ++ [c] := by
      have hne : l ≠ [] := fun e => by rw [e] at hl; simp at hl
      exact ⟨l.dropLast, l.getLast hne, (List.dropLast_concat_getLast hne).symm⟩
    have ht : t.length = k + 1 := by simpa using hl
    have hne : t ≠ [] := fun e => by rw [e] at ht; simp at ht
    have hh2 : t.head? ≠ some 48 := by
      rcases hh with h | h
      · omega
      · cases t with
        | nil => exact absurd rfl hne
        | cons a t => simpa using h
    rw [List.all_append, Bool.and_eq_true] at ha
    have hc : isDig c = true := by simpa using ha.2
    have hp := digVal_pos t hne hh2 ha.1
    obtain ⟨c1, c2⟩ := isDig_bd hc
    have h10 := ih t ht (.inr hh2) ha.1
    rw [digVal_snoc]
    generalize digVal 0 t = v at hp h10
    have e1 : (v * 10 + ((c.toNat : Int) - 48)).toNat / 10 = v.toNat := by omega
    have e2 : (v * 10 + ((c.toNat : Int) - 48)).toNat % 10 = c.toNat - 48 := by omega
    rw [Lib.decDigits, dif_neg (by omega), e1, h10, e2, dig_nat hc]
/-- What is read as a number is its own text. -/
theorem numV_text {d : List UInt8} (h : 0 ≤ numV d) : d = (itoB (numV d)).data.toList := by
  cases hg : numGood d with
  | false => rw [numV_no hg] at h; omega
  | true =>
    rw [numV_yes hg] at h ⊢
    rw [ito_bytes _ h]
    simp only [numGood, Bool.and_eq_true, decide_eq_true_eq, Bool.not_eq_true', Bool.and_eq_false_iff, decide_eq_false_iff_not] at hg
    obtain ⟨⟨⟨h1, h2⟩, h3⟩, h4⟩ := hg
    refine (dec_of_dig (d.length - 1) d (by omega) ?_ h4).symm
    rcases h3 with h3 | h3
    · exact .inl (by omega)
    · exact .inr h3
theorem numV_bd (d : List UInt8) : -1 ≤ numV d ∧ numV d ≤ 999999 := by
  cases hg : numGood d with
  | false => rw [numV_no hg]; omega
  | true =>
    rw [numV_yes hg]
    simp only [numGood, Bool.and_eq_true, decide_eq_true_eq] at hg
    have h := digVal_bd d 0 (Int.le_refl _) hg.2
    have := pow_bd _ hg.1.1.2
    omega
theorem ito_no (n : Int) (h : 0 ≤ n) : ∀ c ∈ (itoB n).data.toList, c ≠ 32 ∧ c ≠ 10 := by
  rw [ito_bytes n h]
  intro c hc
  have := isDig_bd (dec_dig _ c hc)
  refine ⟨?_, ?_⟩ <;> (rintro rfl; simp at this)
end Cal
end Go.Proofs.YtdanfekodmncmaaGreatDoor
