/- Plain: the text of rules, read back. -/
import Derived.Test.YtkemfifkjaclhaaGreatDoorJ15
import Derived.Test.YtkemfifkjaclhaaGreatDoorJ12
import Derived.Test.YtkemfifkjaclhaaGreatDoorJ13
namespace Go.Proofs.YtkemfifkjaclhaaGreatDoor
set_option linter.unusedVariables false
set_option linter.unusedSimpArgs false
open Go.RowKit
namespace Cal

/-- A number of at most six figures, with no needless nought. -/
def numGood (d : List UInt8) : Bool := decide (1 ≤ d.length) && decide (d.length ≤ 6) && !(decide (1 < d.length) && decide (d.head? = some 48)) && d.all isDig
def numV (d : List UInt8) : Int := if numGood d = true then digVal 0 d else -1
theorem numV_no {d : List UInt8} (h : numGood d = false) : numV d = -1 := by simp [numV, h]
theorem numV_yes {d : List UInt8} (h : numGood d = true) : numV d = digVal 0 d := by simp [numV, h]
theorem numGood_len {d : List UInt8} (h : ¬ (1 ≤ d.length ∧ d.length ≤ 6)) : numGood d = false := by
  unfold numGood
  by_cases h1 : 1 ≤ d.length <;> by_cases h2 : d.length ≤ 6 <;> simp [h1, h2] <;> omega
theorem numGood_zero {d : List UInt8} (h : 1 < d.length) (h0 : d.head? = some 48) : numGood d = false := by simp [numGood, h, h0]
theorem numGood_at {d : List UInt8} {k : Nat} (hk : k < d.length) (h : isDig d[k] = false) : numGood d = false := by
  have : d.all isDig = false := by rw [List.all_eq_false]; exact ⟨d[k], List.getElem_mem hk, by simp [h]⟩
  simp [numGood, this]
theorem numGood_good {d : List UInt8} (h1 : 1 ≤ d.length) (h2 : d.length ≤ 6) (h3 : ¬ (1 < d.length ∧ d.head? = some 48)) (h4 : ∀ i (hi : i < d.length), isDig d[i] = true) : numGood d = true := by
  have : d.all isDig = true := by rw [List.all_eq_true]; intro x hx; obtain ⟨i, hi, rfl⟩ := List.mem_iff_getElem.1 hx; exact h4 i hi
  unfold numGood
  rw [this]
  simp only [h1, h2, decide_true, Bool.true_and, Bool.and_true, Bool.not_eq_true']
  rw [Bool.and_eq_false_iff]
  by_cases h : 1 < d.length
  · exact .inr (by simpa using fun e => h3 ⟨h, e⟩)
  · exact .inl (by simpa using h)

theorem head_at (s : ByteArray) (h : 0 < s.size) : s.data.toList.head? = some s[0] := by
  rw [← bget s 0 h, List.head?_eq_getElem?, List.getElem?_eq_getElem]
theorem byte_eq {c : UInt8} {n : Nat} (hn : n < 256) : ((c.toNat : Int) == (n : Int)) = decide (c = UInt8.ofNat n) := by
  rw [Bool.eq_iff_iff, beq_iff_eq, decide_eq_true_eq]
  constructor
  · intro h; apply UInt8.toNat_inj.1; rw [UInt8.toNat_ofNat_of_lt' (by simpa using hn)]; omega
  · rintro rfl; rw [UInt8.toNat_ofNat_of_lt' (by simpa using hn)]
theorem dig_step {s : ByteArray} {k : Nat} (h : k < s.size) (ha : ∀ j (hj : j < s.size), j < k → isDig s[j] = true) (hw : isDig s[k] = true) : ∀ j (hj : j < s.size), j < k + 1 → isDig s[j] = true := by
  intro j hj hjk
  by_cases e : j = k
  · subst e; exact hw
  · exact ha j hj (by omega)
theorem dig_take {s : ByteArray} {k : Nat} (hk : k ≤ s.size) (ha : ∀ j (hj : j < s.size), j < k → isDig s[j] = true) : (s.data.toList.take k).all isDig = true := by
  rw [List.all_eq_true]; intro x hx
  obtain ⟨i, hi, rfl⟩ := List.mem_iff_getElem.1 hx
  simp only [List.length_take] at hi
  rw [List.getElem_take, bget s i (by simp at hi; omega)]
  exact ha i _ (by omega)
theorem pow_bd (m : Nat) (h : m ≤ 6) : (10 : Int) ^ m ≤ 1000000 := by
  match m, h with
  | 0, _ => decide
  | 1, _ => decide
  | 2, _ => decide
  | 3, _ => decide
  | 4, _ => decide
  | 5, _ => decide
  | 6, _ => decide
theorem dig_bd {s : ByteArray} {k : Nat} (hk : k ≤ s.size) (h4 : s.size ≤ 6) (ha : ∀ j (hj : j < s.size), j < k → isDig s[j] = true) : 0 ≤ digVal 0 (s.data.toList.take k) ∧ digVal 0 (s.data.toList.take k) ≤ 999999 := by
  have h := digVal_bd (s.data.toList.take k) 0 (Int.le_refl _) (dig_take hk ha)
  have hl : (s.data.toList.take k).length ≤ 6 := by simp; omega
  have := pow_bd _ hl
  omega
theorem dig_val {s : ByteArray} {k : Nat} (h : k < s.size) :
    Value.int .i64 (digVal 0 (s.data.toList.take k) * 10 + ((s[k].toNat : Int) - 48)) = .int .i64 (digVal 0 (s.data.toList.take (k + 1))) := by
  rw [take_snoc s k h, digVal_snoc]
theorem digNot {c : UInt8} (h : isDig c = false) : ((c.toNat : Int) < 48) ∨ ((57 : Int) < (c.toNat : Int)) := by
  simp only [isDig, Bool.and_eq_false_iff, decide_eq_false_iff_not] at h; omega

set_option maxHeartbeats 1000000 in
theorem l41Num (s : ByteArray) (w : World) (hs : s.size ≤ maxLen) :
    Calls Tryz.prog 38 #[.string s] w fun e w' => e = .returned (.int .i64 (numV s.data.toList)) ∧ w' = w := by
  unfold maxLen at hs
  have HT : Hid (∀ n lo hi w, lo ≤ n ∧ n ≤ hi → Calls Tryz.prog 28 #[.int .i64 n, .int .i64 lo, .int .i64 hi] w fun x w' => x = .returned (.bool true) ∧ w' = w) := fun n lo hi w h => by have := l41In n lo hi w; rwa [decide_eq_true h] at this
  have HN : Hid (∀ n lo hi w, ¬ (lo ≤ n ∧ n ≤ hi) → Calls Tryz.prog 28 #[.int .i64 n, .int .i64 lo, .int .i64 hi] w fun x w' => x = .returned (.bool false) ∧ w' = w) := fun n lo hi w h => by have := l41In n lo hi w; rwa [decide_eq_false h] at this
  by_cases hl : 1 ≤ s.size ∧ s.size ≤ 6
  · obtain ⟨hl1, hl2⟩ := hl
    have d0 : 0 < s.size := by omega
    by_cases h1 : 1 < s.size
    · by_cases hz2 : s[0] = 48
      · have HF : Hid (numV s.data.toList = -1) := numV_no (numGood_zero (by simpa using h1) (by rw [head_at s d0, hz2]))
        have hz3 : ((s[0].toNat : Int) == 48) = true := by rw [show (48 : Int) = ((48 : Nat) : Int) from rfl, byte_eq (by decide)]; simpa using hz2
        clear hz2
        go_enter Tryz.func38, Tryz.ntmps38
        go_wp2_with (go_at_call 28; refine (HT.out _ _ _ _ (by omega)).mono ?_; rintro e w' ⟨rfl, rfl⟩)
        go_ret
        exact ⟨ret_int HF.out.symm, rfl⟩
      have HZ : Hid (¬ (1 < s.data.toList.length ∧ s.data.toList.head? = some 48)) := fun h => hz2 (by have := h.2; rw [head_at s d0] at this; simpa using this)
      have hz3 : ((s[0].toNat : Int) == 48) = false := by rw [show (48 : Int) = ((48 : Nat) : Int) from rfl, byte_eq (by decide)]; simpa using hz2
      clear hz2
      go_enter Tryz.func38, Tryz.ntmps38
      go_wp2_with (go_at_call 28; refine (HT.out _ _ _ _ (by omega)).mono ?_; rintro e w' ⟨rfl, rfl⟩)
      go_loop [3, 4] (fun n i => ∃ k : Nat, k ≤ s.size ∧ i = .int .i64 k ∧ n = .int .i64 (digVal 0 (s.data.toList.take k)) ∧ ∀ j (hj : j < s.size), j < k → isDig s[j] = true) (fun _ i => s.size - (intOf i).toNat)
      case atStart => exact ⟨0, Nat.zero_le _, rfl, rfl, fun j hj h => by omega⟩
      case round =>
        obtain ⟨k, hk, rfl, rfl, ha⟩ := hrel
        have HA : Hid (∀ j (hj : j < s.size), j < k → isDig s[j] = true) := ha
        obtain ⟨b0, b1⟩ := dig_bd hk hl2 ha
        clear ha
        by_cases hlt : k < s.size
        · by_cases hd : isDig s[k] = true
          · have HD : Hid (isDig s[k] = true) := hd
            obtain ⟨c1, c2⟩ := isDig_bd hd
            have c1 : (48 : Int) ≤ (s[k].toNat : Int) := by omega
            have c2 : (s[k].toNat : Int) ≤ 57 := by omega
            clear hd
            go_wp2
            go_round
            case rel => exact ⟨k + 1, by omega, by go_num, dig_val hlt, dig_step hlt HA.out HD.out⟩
            case measure => simp [intOf]; omega
          · have hd0 : isDig s[k] = false := by simpa using hd
            have HF : Hid (numV s.data.toList = -1) := numV_no (numGood_at (k := k) (by simpa using hlt) (by rw [bget s k hlt]; exact hd0))
            rcases digNot hd0 with c1 | c1
            · clear hd hd0
              go_wp2
              go_ret
              exact ⟨ret_int HF.out.symm, rfl⟩
            · have c2 : ¬ ((s[k].toNat : Int) < 48) := by omega
              clear hd hd0
              go_wp2
              go_ret
              exact ⟨ret_int HF.out.symm, rfl⟩
        · have hke : s.data.toList.take k = s.data.toList := List.take_of_length_le (by simp; omega)
          have HF : Hid (numV s.data.toList = digVal 0 s.data.toList) := numV_yes (numGood_good (by simpa using hl1) (by simpa using hl2) HZ.out (fun i hi => by rw [bget s i (by simpa using hi)]; exact HA.out i _ (by simp at hi; omega)))
          rw [hke] at b0 b1
          rw [hke]
          clear hke
          go_wp2
          go_ret
          exact ⟨ret_int HF.out.symm, rfl⟩
    · have HZ : Hid (¬ (1 < s.data.toList.length ∧ s.data.toList.head? = some 48)) := fun h => h1 (by simpa using h.1)
      go_enter Tryz.func38, Tryz.ntmps38
      go_wp2_with (go_at_call 28; refine (HT.out _ _ _ _ (by omega)).mono ?_; rintro e w' ⟨rfl, rfl⟩)
      go_loop [3, 4] (fun n i => ∃ k : Nat, k ≤ s.size ∧ i = .int .i64 k ∧ n = .int .i64 (digVal 0 (s.data.toList.take k)) ∧ ∀ j (hj : j < s.size), j < k → isDig s[j] = true) (fun _ i => s.size - (intOf i).toNat)
      case atStart => exact ⟨0, Nat.zero_le _, rfl, rfl, fun j hj h => by omega⟩
      case round =>
        obtain ⟨k, hk, rfl, rfl, ha⟩ := hrel
        have HA : Hid (∀ j (hj : j < s.size), j < k → isDig s[j] = true) := ha
        obtain ⟨b0, b1⟩ := dig_bd hk hl2 ha
        clear ha
        by_cases hlt : k < s.size
        · by_cases hd : isDig s[k] = true
          · have HD : Hid (isDig s[k] = true) := hd
            obtain ⟨c1, c2⟩ := isDig_bd hd
            have c1 : (48 : Int) ≤ (s[k].toNat : Int) := by omega
            have c2 : (s[k].toNat : Int) ≤ 57 := by omega
            clear hd
            go_wp2
            go_round
            case rel => exact ⟨k + 1, by omega, by go_num, dig_val hlt, dig_step hlt HA.out HD.out⟩
            case measure => simp [intOf]; omega
          · have hd0 : isDig s[k] = false := by simpa using hd
            have HF : Hid (numV s.data.toList = -1) := numV_no (numGood_at (k := k) (by simpa using hlt) (by rw [bget s k hlt]; exact hd0))
            rcases digNot hd0 with c1 | c1
            · clear hd hd0
              go_wp2
              go_ret
              exact ⟨ret_int HF.out.symm, rfl⟩
            · have c2 : ¬ ((s[k].toNat : Int) < 48) := by omega
              clear hd hd0
              go_wp2
              go_ret
              exact ⟨ret_int HF.out.symm, rfl⟩
        · have hke : s.data.toList.take k = s.data.toList := List.take_of_length_le (by simp; omega)
          have HF : Hid (numV s.data.toList = digVal 0 s.data.toList) := numV_yes (numGood_good (by simpa using hl1) (by simpa using hl2) HZ.out (fun i hi => by rw [bget s i (by simpa using hi)]; exact HA.out i _ (by simp at hi; omega)))
          rw [hke] at b0 b1
          rw [hke]
          clear hke
          go_wp2
          go_ret
          exact ⟨ret_int HF.out.symm, rfl⟩
  · have HF : Hid (numV s.data.toList = -1) := numV_no (numGood_len (by simpa using hl))
    go_enter Tryz.func38, Tryz.ntmps38
    go_wp2_with (go_at_call 28; refine (HN.out _ _ _ _ (by omega)).mono ?_; rintro e w' ⟨rfl, rfl⟩)
    go_ret
    exact ⟨ret_int HF.out.symm, rfl⟩
end Cal
end Go.Proofs.YtkemfifkjaclhaaGreatDoor

namespace Go.Proofs.YtkemfifkjaclhaaGreatDoor
set_option linter.unusedVariables false
set_option linter.unusedSimpArgs false
open Go
namespace Cal

/-- Words with a byte between. -/
def glue (c : UInt8) : List (List UInt8) → List UInt8
  | [] => []
  | [x] => x
  | x :: y :: t => x ++ c :: glue c (y :: t)
theorem glue_cut (c : UInt8) (l : List UInt8) : glue c (cutL c l) = l := by
  induction l with
  | nil => rfl
  | cons y l ih =>
    rw [cutL]
    have hne := cutL_ne c l
    split
    · rename_i h
      cases hc : cutL c l with
      | nil => exact absurd hc hne
      | cons a t => rw [glue, ← hc, ih]; simp [h]
    · split
      · rename_i a t hc
        rw [hc] at ih
        cases t with
        | nil => simp only [glue] at ih ⊢; rw [ih]
        | cons b t => simp only [glue, List.cons_append] at ih ⊢; rw [ih]
      · rename_i hc; exact absurd hc hne
theorem cut_glue (c : UInt8) : ∀ (ws : List (List UInt8)), ws ≠ [] → (∀ x ∈ ws, ∀ b ∈ x, b ≠ c) → cutL c (glue c ws) = ws := by
  intro ws
  induction ws with
  | nil => intro h; exact absurd rfl h
  | cons x ws ih =>
    intro _ h
    cases ws with
    | nil => exact cutL_none c x (h x (by simp))
    | cons y t =>
      show cutL c (x ++ c :: glue c (y :: t)) = _
      rw [cutL_piece c x _ (h x (by simp)), ih (by simp) (fun z hz => h z (List.mem_cons_of_mem _ hz))]
theorem glue_snoc (c : UInt8) (x : List UInt8) : ∀ ws : List (List UInt8), ws ≠ [] → glue c (ws ++ [x]) = glue c ws ++ c :: x := by
  intro ws
  induction ws with
  | nil => intro h; exact absurd rfl h
  | cons y ws ih =>
    intro _
    cases ws with
    | nil => rfl
    | cons z t =>
      rw [List.cons_append, List.cons_append, glue, ← List.cons_append, ih (by simp), glue, List.append_assoc, List.cons_append]
theorem fold_glue : ∀ (l : List Int) (b : ByteArray) (ws : List (List UInt8)), ws ≠ [] → b.data.toList = glue 32 ws → (numsT b l).data.toList = glue 32 (ws ++ l.map fun n => (itoB n).data.toList) := by
  intro l
  induction l with
  | nil => intro b ws _ h; simpa [numsT] using h
  | cons n l ih =>
    intro b ws hne h
    have e : numsT b (n :: l) = numsT (b ++ spB ++ itoB n) l := rfl
    rw [e, ih (b ++ spB ++ itoB n) (ws ++ [(itoB n).data.toList]) (by simp) (by rw [glue_snoc 32 _ ws hne, ← h]; simp [spB])]
    simp

/-- Decimals. -/
theorem dec_dig (u : Nat) : ∀ c ∈ Lib.decDigits u, isDig c = true := by
  induction u using Nat.strongRecOn with
  | _ u ih =>
    have hd : ∀ v, v < 10 → isDig (UInt8.ofNat (48 + v)) = true := by decide
    rw [Lib.decDigits]
    split
    · rename_i h; intro c hc; simp only [List.mem_singleton] at hc; subst hc; exact hd u h
    · intro c hc
      rw [List.mem_append, List.mem_singleton] at hc
      rcases hc with hc | rfl
      · exact ih (u / 10) (by omega) c hc
      · exact hd _ (by omega)
theorem dec_val (u : Nat) : digVal 0 (Lib.decDigits u) = u := by
  induction u using Nat.strongRecOn with
  | _ u ih =>
    have hd : ∀ v : Nat, v < 10 → ((UInt8.ofNat (48 + v)).toNat : Int) - 48 = v := by decide
    rw [Lib.decDigits]
    split
    · rename_i h; show 0 * 10 + _ = _; rw [hd u h]; omega
    · rw [digVal_snoc, ih (u / 10) (by omega), hd _ (by omega)]; omega
theorem dec_len (u : Nat) : 1 ≤ (Lib.decDigits u).length := by
  rw [Lib.decDigits]; split <;> simp
theorem dec_len_le : ∀ (k u : Nat), u < 10 ^ (k + 1) → (Lib.decDigits u).length ≤ k + 1 := by
  intro k
  induction k with
  | zero => intro u h; rw [Lib.decDigits, dif_pos (by simpa using h)]; simp
  | succ k ih =>
    intro u h
    rw [Lib.decDigits]; split
    · simp
    · have := ih (u / 10) (by rw [Nat.pow_succ] at h; omega)
      simp; omega
theorem dec_head (u : Nat) (h : 1 ≤ u) : (Lib.decDigits u).head? ≠ some 48 := by
  induction u using Nat.strongRecOn with
  | _ u ih =>
    rw [Lib.decDigits]; split
    · rename_i h1
      have : ∀ v : Nat, v < 10 → 1 ≤ v → UInt8.ofNat (48 + v) ≠ 48 := by decide
      simpa using this u h1 h
    · rw [List.head?_append]
      have h2 := ih (u / 10) (by omega) (by omega)
      have h3 := dec_len (u / 10)
      cases hx : Lib.decDigits (u / 10) with
      | nil => rw [hx] at h3; simp at h3
      | cons c l => rw [hx] at h2; simpa using h2
theorem dec_good (u : Nat) (h : u ≤ 999999) : numGood (Lib.decDigits u) = true := by
  refine numGood_good (dec_len u) (dec_len_le 5 u (by omega)) ?_ (fun i hi => dec_dig u _ (List.getElem_mem hi))
  rintro ⟨h1, h2⟩
  by_cases hu : 1 ≤ u
  · exact dec_head u hu h2
  · have : u = 0 := by omega
    subst this
    rw [Lib.decDigits, dif_pos (by omega)] at h1; simp at h1
theorem ito_bytes (n : Int) (h : 0 ≤ n) : (itoB n).data.toList = Lib.decDigits n.toNat := by
  obtain ⟨u, rfl⟩ : ∃ u : Nat, n = (u : Int) := ⟨n.toNat, by omega⟩
  rw [itoB_nat]; simp [decB]
/-- A number's own text is read as it. -/
theorem numV_own (n : Int) (h0 : 0 ≤ n) (h1 : n ≤ 999999) : numV (itoB n).data.toList = n := by
  rw [ito_bytes n h0, numV_yes (dec_good _ (by omega)), dec_val]; omega
theorem dig_nat {c : UInt8} (h : isDig c = true) : UInt8.ofNat (48 + (c.toNat - 48)) = c := by
  obtain ⟨h1, h2⟩ := isDig_bd h
  rw [Nat.add_sub_cancel' h1]; simp
theorem digVal_pos : ∀ (l : List UInt8), l ≠ [] → l.head? ≠ some 48 → l.all isDig = true → 1 ≤ digVal 0 l := by
  intro l hne h0 ha
  cases l with
  | nil => exact absurd rfl hne
  | cons c t =>
    simp only [List.all_cons, Bool.and_eq_true] at ha
    obtain ⟨h1, h2⟩ := isDig_bd ha.1
    have hc : c.toNat ≠ 48 := fun e => h0 (by simp only [List.head?_cons, Option.some.injEq]; exact UInt8.toNat_inj.1 (by rw [e]; rfl))
    have e : digVal 0 (c :: t) = digVal ((c.toNat : Int) - 48) t := by simp [digVal]
    have mono : ∀ (t : List UInt8) (n : Int), 1 ≤ n → t.all isDig = true → 1 ≤ digVal n t := by
      intro t
      induction t with
      | nil => intro n hn _; exact hn
      | cons d t ih =>
        intro n hn ht
        simp only [List.all_cons, Bool.and_eq_true] at ht
        obtain ⟨d1, d2⟩ := isDig_bd ht.1
        exact ih (n * 10 + ((d.toNat : Int) - 48)) (by omega) ht.2
    rw [e]
    exact mono t _ (by omega) ha.2
theorem dec_of_dig : ∀ (k : Nat) (l : List UInt8), l.length = k + 1 → (k = 0 ∨ l.head? ≠ some 48) → l.all isDig = true → Lib.decDigits (digVal 0 l).toNat = l := by
  intro k
  induction k with
  | zero =>
    intro l hl _ ha
    match l, hl with
    | [c], _ =>
      simp only [List.all_cons, List.all_nil, Bool.and_true] at ha
      obtain ⟨h1, h2⟩ := isDig_bd ha
      have e : digVal 0 [c] = ((c.toNat : Int) - 48) := by simp [digVal]
      have e2 : ((c.toNat : Int) - 48).toNat = c.toNat - 48 := by omega
      rw [e, e2, Lib.decDigits, dif_pos (by omega), dig_nat ha]
  | succ k ih =>
    intro l hl hh ha
    obtain ⟨t, c, rfl⟩ : ∃ t c, l = t ++ [c] := by
      have hne : l ≠ [] := fun e => by rw [e] at hl; simp at hl
      exact ⟨l.dropLast, l.getLast hne, (List.dropLast_concat_getLast hne).symm⟩
    have ht : t.length = k + 1 := by simpa using hl
    have hne : t ≠ [] := fun e => by rw [e] at ht; simp at ht
    have hh2 : t.head? ≠ some 48 := by
      rcases hh with h | h
      · omega
      · cases t with
        | nil => exact absurd rfl hne
        | cons a t => simpa using h
    rw [List.all_append, Bool.and_eq_true] at ha
    have hc : isDig c = true := by simpa using ha.2
    have hp := digVal_pos t hne hh2 ha.1
    obtain ⟨c1, c2⟩ := isDig_bd hc
    have h10 := ih t ht (.inr hh2) ha.1
    rw [digVal_snoc]
    generalize digVal 0 t = v at hp h10
    have e1 : (v * 10 + ((c.toNat : Int) - 48)).toNat / 10 = v.toNat := by omega
    have e2 : (v * 10 + ((c.toNat : Int) - 48)).toNat % 10 = c.toNat - 48 := by omega
    rw [Lib.decDigits, dif_neg (by omega), e1, h10, e2, dig_nat hc]
/-- What is read as a number is its own text. -/
theorem numV_text {d : List UInt8} (h : 0 ≤ numV d) : d = (itoB (numV d)).data.toList := by
  cases hg : numGood d with
  | false => rw [numV_no hg] at h; omega
  | true =>
    rw [numV_yes hg] at h ⊢
    rw [ito_bytes _ h]
    simp only [numGood, Bool.and_eq_true, decide_eq_true_eq, Bool.not_eq_true', Bool.and_eq_false_iff, decide_eq_false_iff_not] at hg
    obtain ⟨⟨⟨h1, h2⟩, h3⟩, h4⟩ := hg
    refine (dec_of_dig (d.length - 1) d (by omega) ?_ h4).symm
    rcases h3 with h3 | h3
    · exact .inl (by omega)
    · exact .inr h3
theorem numV_bd (d : List UInt8) : -1 ≤ numV d ∧ numV d ≤ 999999 := by
  cases hg : numGood d with
  | false => rw [numV_no hg]; omega
  | true =>
    rw [numV_yes hg]
    simp only [numGood, Bool.and_eq_true, decide_eq_true_eq] at hg
    have h := digVal_bd d 0 (Int.le_refl _) hg.2
    have := pow_bd _ hg.1.1.2
    omega
theorem ito_no (n : Int) (h : 0 ≤ n) : ∀ c ∈ (itoB n).data.toList, c ≠ 32 ∧ c ≠ 10 := by
  rw [ito_bytes n h]
  intro c hc
  have := isDig_bd (dec_dig _ c hc)
  refine ⟨?_, ?_⟩ <;> (rintro rfl; simp at this)
end Cal
end Go.Proofs.YtkemfifkjaclhaaGreatDoor
