/- The walk of the model's l41Cut. -/
import Derived.KernelRfl
import Derived.Test.YtkemfifkjaclhaaGreatDoorJ14
namespace Go.Proofs.YtkemfifkjaclhaaGreatDoor
set_option linter.unusedVariables false
set_option linter.unusedSimpArgs false

def isLow (c : UInt8) : Bool := decide (97 ≤ c.toNat) && decide (c.toNat ≤ 122)
def isDig (c : UInt8) : Bool := decide (48 ≤ c.toNat) && decide (c.toNat ≤ 57)
def wordc (c : UInt8) : Bool := isLow c || isDig c
def headLow : List UInt8 → Bool
  | c :: _ => isLow c
  | [] => false
/-- A name: 1 to 8 bytes, letters or digits, the first no digit. -/
def nameOk (s : List UInt8) : Bool := decide (1 ≤ s.length) && decide (s.length ≤ 8) && headLow s && s.all wordc

theorem nameOk_bad_len (s : List UInt8) (h : ¬ (1 ≤ s.length ∧ s.length ≤ 8)) : nameOk s = false := by
  unfold nameOk
  by_cases h1 : 1 ≤ s.length <;> by_cases h2 : s.length ≤ 8 <;> simp [h1, h2] <;> omega
theorem nameOk_bad_head (s : List UInt8) (h : headLow s = false) : nameOk s = false := by simp [nameOk, h]
theorem nameOk_bad_at (s : List UInt8) (k : Nat) (hk : k < s.length) (h : wordc s[k] = false) : nameOk s = false := by
  have : s.all wordc = false := by
    rw [List.all_eq_false]; exact ⟨s[k], List.getElem_mem hk, by simp [h]⟩
  simp [nameOk, this]
theorem nameOk_good (s : List UInt8) (h1 : 1 ≤ s.length) (h2 : s.length ≤ 8) (h3 : headLow s = true) (h4 : ∀ i (hi : i < s.length), wordc s[i] = true) : nameOk s = true := by
  have : s.all wordc = true := by
    rw [List.all_eq_true]; intro x hx; obtain ⟨i, hi, rfl⟩ := List.mem_iff_getElem.1 hx; exact h4 i hi
  simp [nameOk, h1, h2, h3, this]
theorem headLow_at (s : List UInt8) (h : 0 < s.length) : headLow s = isLow s[0] := by
  cases s with
  | nil => simp at h
  | cons c l => rfl
end Go.Proofs.YtkemfifkjaclhaaGreatDoor

namespace Go.Proofs.YtkemfifkjaclhaaGreatDoor
set_option linter.unusedVariables false
set_option linter.unusedSimpArgs false

/-- The figures of a number: 1 to 4, no nought ahead. -/
def numBody (d : List UInt8) : Bool := decide (1 ≤ d.length) && decide (d.length ≤ 4) && !(decide (1 < d.length) && decide (d.head? = some 48)) && d.all isDig
def numNeg (s : List UInt8) : Bool := decide (1 < s.length) && decide (s.head? = some 45)
/-- A number as it is written, -9999 to 9999. -/
def numOk (s : List UInt8) : Bool := if numNeg s then numBody s.tail && !decide (s.tail = [48]) else numBody s
def opOk (s : List UInt8) : Bool := numOk s || nameOk s
def digVal (n : Int) (l : List UInt8) : Int := l.foldl (fun n c => n * 10 + ((c.toNat : Int) - 48)) n
def numVal (s : List UInt8) : Int := if numNeg s then - digVal 0 s.tail else digVal 0 s

theorem digVal_snoc (n : Int) (l : List UInt8) (c : UInt8) : digVal n (l ++ [c]) = digVal n l * 10 + ((c.toNat : Int) - 48) := by simp [digVal]
theorem isDig_bd {c : UInt8} (h : isDig c = true) : 48 ≤ c.toNat ∧ c.toNat ≤ 57 := by simpa [isDig] using h
/-- A bound on what at most four figures come to. -/
theorem digVal_bd : ∀ (l : List UInt8) (n : Int), 0 ≤ n → l.all isDig = true → 0 ≤ digVal n l ∧ digVal n l < (n + 1) * 10 ^ l.length := by
  intro l
  induction l with
  | nil => intro n h _; simp [digVal]; omega
  | cons c l ih =>
    intro n hn h
    simp only [List.all_cons, Bool.and_eq_true] at h
    obtain ⟨h1, h2⟩ := isDig_bd h.1
    have := ih (n * 10 + ((c.toNat : Int) - 48)) (by omega) h.2
    refine ⟨this.1, Int.lt_of_lt_of_le this.2 ?_⟩
    have e : (10 : Int) ^ (c :: l).length = 10 * 10 ^ l.length := by rw [List.length_cons, Int.pow_succ, Int.mul_comm]
    rw [e]
    have p : (0 : Int) ≤ 10 ^ l.length := Int.le_of_lt (Int.pow_pos (by decide))
    calc (n * 10 + ((c.toNat : Int) - 48) + 1) * 10 ^ l.length ≤ ((n + 1) * 10) * 10 ^ l.length := Int.mul_le_mul_of_nonneg_right (by omega) p
      _ = (n + 1) * (10 * 10 ^ l.length) := Int.mul_assoc _ _ _
theorem numBody_len {d : List UInt8} (h : ¬ (1 ≤ d.length ∧ d.length ≤ 4)) : numBody d = false := by
  unfold numBody
  by_cases h1 : 1 ≤ d.length <;> by_cases h2 : d.length ≤ 4 <;> simp [h1, h2] <;> omega
theorem numBody_zero {d : List UInt8} (h : 1 < d.length) (h0 : d.head? = some 48) : numBody d = false := by simp [numBody, h, h0]
theorem numBody_at {d : List UInt8} {k : Nat} (hk : k < d.length) (h : isDig d[k] = false) : numBody d = false := by
  have : d.all isDig = false := by rw [List.all_eq_false]; exact ⟨d[k], List.getElem_mem hk, by simp [h]⟩
  simp [numBody, this]
theorem numBody_good {d : List UInt8} (h1 : 1 ≤ d.length) (h2 : d.length ≤ 4) (h3 : ¬ (1 < d.length ∧ d.head? = some 48)) (h4 : ∀ i (hi : i < d.length), isDig d[i] = true) : numBody d = true := by
  have : d.all isDig = true := by rw [List.all_eq_true]; intro x hx; obtain ⟨i, hi, rfl⟩ := List.mem_iff_getElem.1 hx; exact h4 i hi
  unfold numBody
  rw [this]
  simp only [h1, h2, decide_true, Bool.true_and, Bool.and_true, Bool.not_eq_true']
  rw [Bool.and_eq_false_iff]
  by_cases h : 1 < d.length
  · exact .inr (by simpa using fun e => h3 ⟨h, e⟩)
  · exact .inl (by simpa using h)
end Go.Proofs.YtkemfifkjaclhaaGreatDoor

namespace Go.Proofs.YtkemfifkjaclhaaGreatDoor
set_option linter.unusedVariables false
set_option linter.unusedSimpArgs false

def cutL (c : UInt8) : List UInt8 → List (List UInt8)
  | [] => [[]]
  | x :: l => if x = c then [] :: cutL c l else match cutL c l with
    | h :: t => (x :: h) :: t
    | [] => [[x]]
def wordsL (l : List UInt8) : List (List UInt8) := (cutL 32 l).filter (fun x => !x.isEmpty)

theorem cutL_ne (c : UInt8) (l : List UInt8) : cutL c l ≠ [] := by
  cases l with
  | nil => simp [cutL]
  | cons x l => simp only [cutL]; split <;> (try split) <;> simp
theorem cutL_none (c : UInt8) : ∀ (l : List UInt8), (∀ x ∈ l, x ≠ c) → cutL c l = [l] := by
  intro l
  induction l with
  | nil => intro _; rfl
  | cons x l ih =>
    intro h
    rw [cutL, if_neg (h x (by simp)), ih (fun y hy => h y (by simp [hy]))]
theorem cutL_piece (c : UInt8) : ∀ (a b : List UInt8), (∀ x ∈ a, x ≠ c) → cutL c (a ++ c :: b) = a :: cutL c b := by
  intro a
  induction a with
  | nil => intro b _; simp [cutL]
  | cons x a ih =>
    intro b h
    rw [List.cons_append, cutL, if_neg (h x (by simp)), ih b (fun y hy => h y (by simp [hy]))]
/-- The piece from 'from' on up to k, and what is left behind it. -/
theorem cutL_step (c : UInt8) (l : List UInt8) (fr k : Nat) (hk : k < l.length) (hf : fr ≤ k) (hc : l[k] = c) (hn : ∀ j (hj : j < l.length), fr ≤ j → j < k → l[j] ≠ c) :
    cutL c (l.drop fr) = (l.drop fr).take (k - fr) :: cutL c (l.drop (k + 1)) := by
  have e : l.drop fr = (l.drop fr).take (k - fr) ++ c :: l.drop (k + 1) := by
    conv => lhs; rw [← List.take_append_drop (k - fr) (l.drop fr)]
    congr 1
    rw [List.drop_drop, show fr + (k - fr) = k from by omega, List.drop_eq_getElem_cons hk, hc]
  conv => lhs; rw [e]
  refine cutL_piece c _ _ ?_
  intro x hx
  obtain ⟨i, hi, rfl⟩ := List.mem_iff_getElem.1 hx
  rw [List.getElem_take, List.getElem_drop]
  simp at hi
  exact hn _ _ (by omega) (by omega)
theorem cutL_last (c : UInt8) (l : List UInt8) (fr : Nat) (hn : ∀ j (hj : j < l.length), fr ≤ j → l[j] ≠ c) : cutL c (l.drop fr) = [l.drop fr] := by
  refine cutL_none c _ ?_
  intro x hx
  obtain ⟨i, hi, rfl⟩ := List.mem_iff_getElem.1 hx
  rw [List.getElem_drop]
  exact hn _ _ (by omega)
end Go.Proofs.YtkemfifkjaclhaaGreatDoor

namespace Go.Proofs.YtkemfifkjaclhaaGreatDoor
set_option linter.unusedVariables false
set_option linter.unusedSimpArgs false
open Go.RowKit
namespace Cal

theorem bget (s : ByteArray) (k : Nat) (h : k < s.size) : s.data.toList[k]'(by simpa using h) = s[k] := by simp; rfl
/-- The bytes of strings. -/
def bys (ss : List ByteArray) : List (List UInt8) := ss.map (fun s => s.data.toList)

/-- What l41Cut's loop keeps. -/
structure CutRel (s : ByteArray) (c : UInt8) (w wr : World) (v : Value) (fr k : Nat) (ps : List ByteArray) : Prop where
  hk : k ≤ s.size
  hf : fr ≤ k
  hn : ps.length ≤ k
  own : Acc wr w.heap.size 9 1 v ps.length (sv ps)
  cut : cutL c s.data.toList = bys ps ++ cutL c (s.data.toList.drop fr)
  no : ∀ j (hj : j < s.size), fr ≤ j → j < k → s[j] ≠ c
  bel : Below w.heap.size w wr

theorem ext_data (s : ByteArray) (a b : Nat) : (s.extract a b).data.toList = (s.data.toList.drop a).take (b - a) := by
  rw [ByteArray.data_extract, Array.toList_extract]
theorem bys_app (a b : List ByteArray) : bys (a ++ b) = bys a ++ bys b := by simp [bys]
theorem CutRel.start (s : ByteArray) (c : UInt8) (w : World) : CutRel s c w (w.alloc (.cells #[] 9)) (.slice (some ⟨w.heap.size, 0, none⟩) 0 0) 0 0 [] :=
  ⟨Nat.zero_le _, Nat.zero_le _, Nat.zero_le _, Acc.empty _ _ _ (by simp), by simp [bys], fun j _ _ h => by omega, (Below.refl _ _).alloc (Nat.le_refl _) _⟩
theorem CutRel.on {s : ByteArray} {c : UInt8} {w wr : World} {v : Value} {fr k : Nat} {ps : List ByteArray} (h : CutRel s c w wr v fr k ps) (hk : k < s.size) (hc : s[k] ≠ c) : CutRel s c w wr v fr (k + 1) ps :=
  ⟨hk, Nat.le_succ_of_le h.hf, Nat.le_succ_of_le h.hn, h.own, h.cut, fun j hj h1 h2 => by
    by_cases e : j = k
    · subst e; exact hc
    · exact h.no j hj h1 (by omega), h.bel⟩
theorem CutRel.cutAt {s : ByteArray} {c : UInt8} {w wr w1 : World} {v v1 : Value} {fr k : Nat} {ps : List ByteArray} (h : CutRel s c w wr v fr k ps) (hk : k < s.size) (hc : s[k] = c)
    (o : Obj) (hown : Acc w1 w.heap.size 9 1 v1 (ps.length + 1) (sv (ps ++ [s.extract fr k]))) (hg : Below w.heap.size (wr.alloc o) w1) : CutRel s c w w1 v1 (k + 1) (k + 1) (ps ++ [s.extract fr k]) := by
  have hst := cutL_step c s.data.toList fr k (by simpa using hk) h.hf (by rw [bget s k hk]; exact hc) (fun j hj h1 h2 => by rw [bget s j (by simpa using hj)]; exact h.no j _ h1 h2)
  refine ⟨hk, Nat.le_refl _, by have := h.hn; simp; omega, by simpa using hown, ?_, fun j _ h1 h2 => by omega, ?_⟩
  · rw [h.cut, hst, bys_app, List.append_assoc]
    congr 1
    simp [bys, ext_data]
  · have hb : Below w.heap.size w (wr.alloc o) := h.bel.alloc h.bel.size _
    exact hb.trans hg
theorem byte_same {a b : UInt8} : ((a.toNat : Int) == (b.toNat : Int)) = decide (a = b) := by
  rw [Bool.eq_iff_iff, beq_iff_eq, decide_eq_true_eq]
  constructor
  · intro h; exact UInt8.toNat_inj.1 (by omega)
  · rintro rfl; rfl

set_option maxHeartbeats 1000000 in
theorem l41Cut (s : ByteArray) (c : UInt8) (w : World) (hs : s.size ≤ 16777216) :
    Calls Tryz.prog 20 #[.string s, .int .u8 c.toNat] w fun e w' => ∃ v ps, e = .returned v ∧ bys ps = cutL c s.data.toList ∧ Row w' v (sv ps) ∧ Below w.heap.size w w' := by
  go_enter Tryz.func20, Tryz.ntmps20
  go_wp2
  go_loopw [5, 6, 7] (fun v f i wr => ∃ (fr k : Nat) (ps : List ByteArray), f = .int .i64 fr ∧ i = .int .i64 k ∧ CutRel s c w wr v fr k ps) (fun _ _ i _ => s.size - (intOf i).toNat)
  case atStart => exact ⟨0, 0, [], rfl, rfl, CutRel.start s c w⟩
  case round =>
    obtain ⟨fr, k, ps, rfl, rfl, hR⟩ := hrel
    have hk := hR.hk
    have hf := hR.hf
    have hn := hR.hn
    have hz := hR.bel.size
    by_cases hlt : k < s.size
    · by_cases hc : s[k] = c
      · have hc' : ((s[k].toNat : Int) == (c.toNat : Int)) = true := by rw [byte_same]; simpa using hc
        have HC : Hid (s[k] = c) := hc
        clear hc
        go_wp2_with (at_builtin; refine wp_acc_str rfl _ _ rfl w.heap.size _ ps.length ps rfl (hR.own.alloc _) ⟨wr.heap.size, 0, none⟩ 1 (s.extract fr k) rfl ?c1 ?c2 ?c3 ?_)
        case c1 => simp
        case c2 => omega
        case c3 => simp; omega
        intro v1 w1 hown hg
        go_wp2
        go_roundw
        case rel => exact ⟨k + 1, k + 1, ps ++ [s.extract fr k], by go_num, by go_num, hR.cutAt hlt HC.out _ hown hg⟩
        case measure => simp [intOf]; omega
      · have hc' : ((s[k].toNat : Int) == (c.toNat : Int)) = false := by rw [byte_same]; simpa using hc
        have HC : Hid (s[k] ≠ c) := hc
        clear hc
        go_wp2
        go_roundw
        case rel => exact ⟨fr, k + 1, ps, rfl, by go_num, hR.on hlt HC.out⟩
        case measure => simp [intOf]; omega
    · have hke : k = s.size := by omega
      have HL : Hid (bys (ps ++ [s.extract fr s.size]) = cutL c s.data.toList) := by
        show bys (ps ++ [s.extract fr s.size]) = cutL c s.data.toList
        rw [hR.cut, bys_app, cutL_last c s.data.toList fr (fun j hj h => by rw [bget s j (by simpa using hj)]; exact hR.no j _ h (by simp at hj; omega))]
        simp [bys, ext_data]
        rw [List.take_of_length_le (by simp)]
      clear hke
      go_wp2_with (at_builtin; refine wp_acc_str rfl _ _ rfl w.heap.size _ ps.length ps rfl (hR.own.alloc _) ⟨wr.heap.size, 0, none⟩ 1 (s.extract fr s.size) rfl ?c1 ?c2 ?c3 ?_)
      case c1 => simp
      case c2 => omega
      case c3 => simp; omega
      intro v1 w1 hown hg
      go_wp2
      go_ret
      have hb : Below w.heap.size w (wr.alloc (.cells #[.string (s.extract fr s.size)] 9)) := hR.bel.alloc hz _
      exact ⟨v1, _, rfl, HL.out, hown.row, hb.trans hg⟩
end Cal
end Go.Proofs.YtkemfifkjaclhaaGreatDoor
