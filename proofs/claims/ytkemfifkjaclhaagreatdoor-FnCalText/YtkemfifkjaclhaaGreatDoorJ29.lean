/- The program's own rules: numbers that lie within two, that ascend, that are ticks. -/
import Derived.Test.YtkemfifkjaclhaaGreatDoorJ21
import Derived.Test.YtkemfifkjaclhaaGreatDoorJ28
import Derived.Test.YtkemfifkjaclhaaGreatDoorJ1
import Derived.Test.YtkemfifkjaclhaaGreatDoorJ12
namespace Go.Proofs.YtkemfifkjaclhaaGreatDoor
set_option linter.unusedVariables false
set_option linter.unusedSimpArgs false
open Go
namespace Cal

/-- A sign of a line. -/
def fine (c : UInt8) : Prop := c.toNat < 128 ∧ c ≠ 10
theorem fine_of {c : UInt8} (h : c.toNat < 128) (h2 : c.toNat ≠ 10) : fine c := ⟨h, fun e => h2 (by rw [e]; rfl)⟩
theorem fine_dig {c : UInt8} (h : isDig c = true) : fine c := by
  have hb : 48 ≤ c.toNat ∧ c.toNat ≤ 57 := by simpa [isDig] using h
  exact fine_of (by omega) (by omega)
/-- Lines of signs, acc being there. -/
def goL : List UInt8 → List UInt8 → List ByteArray
  | [], _ => []
  | b :: r, acc => if b = 10 then ⟨acc.toArray⟩ :: goL r [] else goL r (acc ++ [b])
theorem goL_line : ∀ (x r acc : List UInt8), (∀ c ∈ x, fine c) → goL (x ++ 10 :: r) acc = ⟨(acc ++ x).toArray⟩ :: goL r [] := by
  intro x
  induction x with
  | nil => intro r acc _; simp [goL]
  | cons b x ih =>
    intro r acc h
    rw [List.cons_append, goL, if_neg (h b (by simp)).2, ih r (acc ++ [b]) (fun c hc => h c (List.mem_cons_of_mem _ hc))]
    simp
theorem lines_goL (s : ByteArray) (hs : ∀ c ∈ s.data.toList, c.toNat < 128) : ∀ (f pos : Nat) (acc : List UInt8), s.size ≤ pos + f → linesFrom s f pos acc = goL (s.data.toList.drop pos) acc := by
  intro f
  induction f with
  | zero =>
    intro pos acc h
    rw [List.drop_of_length_le (by rw [Array.length_toList]; exact h)]; rfl
  | succ f ih =>
    intro pos acc h
    rw [linesFrom]
    by_cases hp : pos < s.size
    · have hlt : pos < s.data.toList.length := by rw [Array.length_toList]; exact hp
      have hb : (s[pos]'hp).toNat < 128 := hs _ (by rw [show s[pos]'hp = s.data.toList[pos] from rfl]; exact List.getElem_mem hlt)
      rw [if_pos hp, decode_ascii s pos hp hb, List.drop_eq_getElem_cons hlt, goL]
      have hcell : s.data.toList[pos] = s[pos]'hp := rfl
      rw [hcell]
      have henc : Lib.encodeRune ((s[pos]'hp).toNat : Int) = [s[pos]'hp] := by
        unfold Lib.encodeRune
        rw [Lib.encodeRuneZ_one (by omega) (by omega)]
        simp
      by_cases h10 : (s[pos]'hp) = 10
      · rw [if_pos (by rw [h10]; rfl), if_pos h10, ih (pos + 1) [] (by omega)]
      · have hn : (s[pos]'hp).toNat ≠ 10 := fun e => h10 (UInt8.toNat_inj.1 (by rw [e]; rfl))
        rw [if_neg hn, if_neg h10, henc, ih (pos + 1) (acc ++ [s[pos]'hp]) (by omega)]
    · rw [if_neg hp, List.drop_of_length_le (by rw [Array.length_toList]; exact Nat.le_of_not_lt hp)]; rfl


theorem fine_ito (n : Int) (h : 0 ≤ n) : ∀ c ∈ itoL n, fine c := fun c hc => by
  unfold itoL at hc
  rw [ito_bytes n h] at hc
  exact fine_dig (dec_dig _ c hc)
theorem fine_glue : ∀ (ws : List (List UInt8)), (∀ x ∈ ws, ∀ c ∈ x, fine c) → ∀ c ∈ glue 32 ws, fine c := by
  intro ws
  induction ws with
  | nil => intro _ c hc; simp [glue] at hc
  | cons x t ih =>
    intro h c hc
    cases t with
    | nil => simp only [glue] at hc; exact h x (by simp) c hc
    | cons y t =>
      simp only [glue, List.mem_append, List.mem_cons] at hc
      rcases hc with hc | rfl | hc
      · exact h x (by simp) c hc
      · exact fine_of (by decide) (by decide)
      · exact ih (fun z hz => h z (List.mem_cons_of_mem _ hz)) c hc
theorem fine_rul {r : Rul} (h : RuleOk r) : ∀ c ∈ (rulT r).data.toList, fine c := by
  rw [rul_glue]
  refine fine_glue _ fun x hx => ?_
  have hb := fld h
  have hlit : ∀ l : List UInt8, (∀ c ∈ l, c.toNat < 128 ∧ c.toNat ≠ 10) → ∀ c ∈ l, fine c := fun l hl c hc => fine_of (hl c hc).1 (hl c hc).2
  unfold rulWs at hx
  rcases List.mem_append.1 hx with hx | hx
  · simp only [List.mem_cons, List.not_mem_nil, or_false] at hx
    rcases hx with rfl | rfl | rfl | rfl | rfl | rfl | rfl | rfl
    · exact hlit _ (by decide)
    · exact fine_ito _ (by omega)
    · exact hlit _ (by decide)
    · exact fine_ito _ (by omega)
    · exact hlit _ (by decide)
    · exact fine_ito _ (by omega)
    · exact hlit _ (by decide)
    · exact fine_ito _ (by omega)
  · split at hx
    · cases hx
    · rcases List.mem_cons.1 hx with rfl | hx
      · exact hlit _ (by decide)
      · obtain ⟨n, hn, rfl⟩ := List.mem_map.1 hx
        exact fine_ito _ (but_bd h n hn).1
theorem calT_lines (rs : List Rul) (h : ∀ r ∈ rs, RuleOk r) : linesOf (calT rs) = rs.map rulT := by
  have hby : (calT rs).data.toList = (rs.map fun r => (rulT r).data.toList ++ [10]).flatten := by rw [calT_bytes, List.map_map]; rfl
  have hf : ∀ c ∈ (calT rs).data.toList, c.toNat < 128 := by
    rw [hby]
    intro c hc
    simp only [List.mem_flatten, List.mem_map] at hc
    obtain ⟨l, ⟨e, he, rfl⟩, hc⟩ := hc
    rcases List.mem_append.1 hc with hc | hc
    · exact (fine_rul (h e he) c hc).1
    · have : c = 10 := by simpa using hc
      subst this; decide
  unfold linesOf
  rw [lines_goL _ hf _ 0 [] (by omega), List.drop_zero, hby]
  clear hf hby
  induction rs with
  | nil => rfl
  | cons e es ih =>
    rw [List.map_cons, List.flatten_cons, List.append_assoc, List.singleton_append, goL_line _ _ [] (fine_rul (h e (by simp))), ih (fun x hx => h x (List.mem_cons_of_mem _ hx))]
    simp

/-- A rune from 128 on ends in a byte from 128 on. -/
theorem decode_last (s : ByteArray) (pos : Nat) (h : pos < s.size) (ha : 128 ≤ (s[pos]'h).toNat) : 128 ≤ (s.get! (pos + (Utf8.decode s pos).2 - 1)).toNat := by
  have hg : (s.get! pos).toNat = (s[pos]'h).toNat := by have e := get_at s pos h; rw [Nat.add_zero] at e; rw [e]
  have hn : ¬ (s[pos]'h).toNat < 128 := by omega
  simp only [Utf8.decode, get_at s pos h, hn, if_false]
  repeat' split
  all_goals simp_all [Utf8.runeError]
  all_goals omega
theorem decode_fit (s : ByteArray) (pos : Nat) (h : pos < s.size) (ha : 128 ≤ (s[pos]'h).toNat) : pos + (Utf8.decode s pos).2 ≤ s.size := by
  have hn : ¬ (s[pos]'h).toNat < 128 := by omega
  simp only [Utf8.decode, get_at s pos h, hn, if_false]
  repeat' split
  all_goals simp_all [Utf8.runeError]
  all_goals omega
theorem enc_high (r : Int) (h : 128 ≤ r) : ∃ c ∈ Lib.encodeRune r, 128 ≤ c.toNat := by
  unfold Lib.encodeRune Lib.encodeRuneZ
  split
  · omega
  · split
    · exact ⟨(192 + r / 64).toNat.toUInt8, by simp, by simp; omega⟩
    · split
      · exact ⟨(224 + r / 4096).toNat.toUInt8, by simp, by simp; omega⟩
      · split
        · exact ⟨(240 + r / 262144).toNat.toUInt8, by simp, by simp; omega⟩
        · exact ⟨239, by simp, by decide⟩
theorem lines_back (s : ByteArray) (h0 : 0 < s.size) (hend : (s[s.size - 1]'(by omega)) = 10) : ∀ (f pos : Nat) (acc : List UInt8) (xs : List ByteArray), s.size ≤ pos + f → pos ≤ s.size → (pos = s.size → acc = []) → linesFrom s f pos acc = xs → (∀ x ∈ xs, ∀ c ∈ x.data.toList, c.toNat < 128) → acc ++ s.data.toList.drop pos = (xs.map fun x => x.data.toList ++ [10]).flatten := by
  intro f
  induction f with
  | zero =>
    intro pos acc xs h1 h2 h3 h4 _
    have : pos = s.size := by omega
    rw [h3 this, ← h4, List.drop_of_length_le (by rw [Array.length_toList]; exact h1)]; rfl
  | succ f ih =>
    intro pos acc xs h1 h2 h3 h4 h5
    by_cases hp : pos < s.size
    · have hlt : pos < s.data.toList.length := by rw [Array.length_toList]; exact hp
      have hdrop : s.data.toList.drop pos = (s[pos]'hp) :: s.data.toList.drop (pos + 1) := by rw [List.drop_eq_getElem_cons hlt]; rfl
      rw [linesFrom, if_pos hp] at h4
      by_cases hb : (s[pos]'hp).toNat < 128
      · rw [decode_ascii s pos hp hb] at h4
        have henc : Lib.encodeRune ((s[pos]'hp).toNat : Int) = [s[pos]'hp] := by
          unfold Lib.encodeRune
          rw [Lib.encodeRuneZ_one (by omega) (by omega)]
          simp
        by_cases h10 : (s[pos]'hp) = 10
        · rw [if_pos (by rw [h10]; rfl)] at h4
          subst h4
          have := ih (pos + 1) [] _ (by omega) (by omega) (fun _ => rfl) rfl (fun x hx => h5 x (List.mem_cons_of_mem _ hx))
          rw [hdrop, h10]
          simp only [List.nil_append] at this
          rw [this]
          simp
        · have hn : (s[pos]'hp).toNat ≠ 10 := fun e => h10 (UInt8.toNat_inj.1 (by rw [e]; rfl))
          rw [if_neg hn, henc] at h4
          have := ih (pos + 1) (acc ++ [s[pos]'hp]) xs (by omega) (by omega) (fun e => by
            exfalso; apply h10; rw [← hend]; congr 1; omega) h4 h5
          rw [hdrop, ← this]
          simp
      · exfalso
        have hh := decode_high s pos hp (by omega)
        have hle := decode_fit s pos hp (by omega)
        have hlast := decode_last s pos hp (by omega)
        rw [if_neg (by omega)] at h4
        have hne : pos + (Utf8.decode s pos).2 ≠ s.size := fun e => by
          have e2 := get_at s (s.size - 1) (by omega)
          rw [Nat.add_zero] at e2
          rw [e, e2, hend] at hlast
          revert hlast; decide
        have := ih (pos + (Utf8.decode s pos).2) (acc ++ Lib.encodeRune (Utf8.decode s pos).1) xs (by omega) (by omega) (fun e => absurd e hne) h4 h5
        obtain ⟨c, hc, hc128⟩ := enc_high ((Utf8.decode s pos).1 : Int) (by omega)
        have hm : c ∈ (xs.map fun x => x.data.toList ++ [10]).flatten := by rw [← this]; simp [hc]
        simp only [List.mem_flatten, List.mem_map] at hm
        obtain ⟨l, ⟨x, hx, rfl⟩, hcl⟩ := hm
        rcases List.mem_append.1 hcl with hcl | hcl
        · have := h5 x hx c hcl; omega
        · have : c = 10 := by simpa using hcl
          subst this; revert hc128; decide
    · have : pos = s.size := by omega
      rw [linesFrom, if_neg hp] at h4
      rw [h3 this, ← h4, List.drop_of_length_le (by rw [Array.length_toList]; exact Nat.le_of_not_lt hp)]; rfl
/-- A text that ends in a newline, and whose lines are rules' texts, is theirs. -/
theorem lines_are {s : ByteArray} {rs : List Rul} (h0 : 0 < s.size) (hend : (s[s.size - 1]'(by omega)) = 10) (hl : linesOf s = rs.map rulT) (h : ∀ r ∈ rs, RuleOk r) : calT rs = s := by
  have := lines_back s h0 hend s.size 0 [] (rs.map rulT) (by omega) (by omega) (fun e => rfl) hl (fun x hx => by
    obtain ⟨r, hr, rfl⟩ := List.mem_map.1 hx
    exact fun c hc => (fine_rul (h r hr) c hc).1)
  refine inj2 ?_
  rw [calT_bytes, List.map_map]
  simp only [List.nil_append, List.drop_zero, List.map_map] at this
  rw [this]; rfl
/-- The lines of a calendar's text. -/
theorem cal_linesOf {s : ByteArray} {L : List Rul} (h : IsCal s L) : linesOf s = L.map rulT := by
  rw [← h.2.1]; exact calT_lines L (cal_all h.1)
end Cal
end Go.Proofs.YtkemfifkjaclhaaGreatDoor

namespace Go.Proofs.YtkemfifkjaclhaaGreatDoor
set_option linter.unusedVariables false
set_option linter.unusedSimpArgs false
open Go.RowKit Go

set_option maxHeartbeats 400000 in
theorem isWithin (n lo hi : Int) (w : World) :
    Calls Tryz.prog 47 #[.int .i64 n, .int .i64 lo, .int .i64 hi] w fun e w' => e = .returned (.bool (decide (lo ≤ n ∧ n ≤ hi))) ∧ w' = w := by
  by_cases h1 : lo ≤ n
  · by_cases h2 : n ≤ hi
    · rw [decide_eq_true ⟨h1, h2⟩]
      go_enter Tryz.func47, Tryz.ntmps47
      go_wp2
      go_ret
      exact ⟨by simp [h1, h2], rfl⟩
    · rw [decide_eq_false (fun h => h2 h.2)]
      go_enter Tryz.func47, Tryz.ntmps47
      go_wp2
      go_ret
      exact ⟨by first | (simp; done) | (simp; omega), rfl⟩
  · rw [decide_eq_false (fun h => h1 h.1)]
    go_enter Tryz.func47, Tryz.ntmps47
    go_wp2
    go_ret
    exact ⟨by first | (simp; done) | (simp; omega), rfl⟩
theorem isWithin_t (n lo hi : Int) (h : lo ≤ n ∧ n ≤ hi) (w : World) :
    Calls Tryz.prog 47 #[.int .i64 n, .int .i64 lo, .int .i64 hi] w fun e w' => e = .returned (.bool true) ∧ w' = w := by
  have := isWithin n lo hi w; rwa [decide_eq_true h] at this
theorem isWithin_f (n lo hi : Int) (h : ¬ (lo ≤ n ∧ n ≤ hi)) (w : World) :
    Calls Tryz.prog 47 #[.int .i64 n, .int .i64 lo, .int .i64 hi] w fun e w' => e = .returned (.bool false) ∧ w' = w := by
  have := isWithin n lo hi w; rwa [decide_eq_false h] at this

theorem isTick (z : Int) (w : World) : Calls Tryz.prog 65 #[.int .i64 z] w fun e w' => e = .returned (.bool (decide (0 ≤ z ∧ z ≤ 100000))) ∧ w' = w := by
  have HI := isWithin z 0 100000
  generalize decide (0 ≤ z ∧ z ≤ 100000) = v at HI ⊢
  have HI : Hid _ := HI
  go_enter Tryz.func65, Tryz.ntmps65
  go_wp2_with (go_at_call 47; refine (HI.out _).mono ?_; rintro e w1 ⟨rfl, rfl⟩)
  go_ret
  exact ⟨rfl, rfl⟩
end Go.Proofs.YtkemfifkjaclhaaGreatDoor

namespace Go.Proofs.YtkemfifkjaclhaaGreatDoor
set_option linter.unusedVariables false
set_option linter.unusedSimpArgs false
open Go.RowKit Go

theorem asItIs (z : Int) (w : World) : Calls Tryz.prog 63 #[.int .i64 z] w fun e w' => e = .returned (.int .i64 z) ∧ w' = w := by
  go_enter Tryz.func63, Tryz.ntmps63
  go_wp2
  go_ret
  exact ⟨rfl, rfl⟩

/-- What is said is whether P. -/
def SaysIf (e : Ending) (P : Prop) : Prop := ∃ v : Bool, e = .returned (.bool v) ∧ (v = true ↔ P)
def Asc (zs : List Int) : Prop := ∀ i, i < zs.length → 0 < i → zs.getD (i - 1) 0 < zs.getD i 0
def Ticks (zs : List Int) : Prop := ∀ i, i < zs.length → 0 ≤ zs.getD i 0 ∧ zs.getD i 0 ≤ 100000

set_option maxHeartbeats 1000000 in
theorem allHoldTick (a : Option Addr) (len cap : Nat) (zs : List Int) (w : World) (hr : IsRow .i64 w a len cap zs) :
    Calls Tryz.prog 64 #[.slice a len cap, .func (.func 65) #[] #[]] w fun e w' => SaysIf e (Ticks zs) ∧ w' = w := by
  obtain ⟨hz, hm⟩ := hr.len
  unfold maxLen at hm
  have HR : Hid (IsRow .i64 w a len cap zs) := hr
  clear hr
  go_enter Tryz.func64, Tryz.ntmps64
  go_wp2
  go_loop [9] (fun i => ∃ k : Nat, k ≤ len ∧ i = .int .i64 k ∧ ∀ i, i < k → 0 ≤ zs.getD i 0 ∧ zs.getD i 0 ≤ 100000) (fun i => len - (intOf i).toNat)
  case atStart => exact ⟨0, Nat.zero_le _, rfl, fun i h => by omega⟩
  case round =>
    obtain ⟨k, hk, rfl, hn⟩ := hrel
    have HN : Hid (∀ i, i < k → 0 ≤ zs.getD i 0 ∧ zs.getD i 0 ≤ 100000) := hn
    clear hn
    by_cases hlt : k < len
    · obtain ⟨b, off, rfl, h1, h2, hc⟩ := IsRow.at HR.out hlt
      have HT := isTick (zs.getD k 0) w
      by_cases hin : 0 ≤ zs.getD k 0 ∧ zs.getD k 0 ≤ 100000
      · have HN1 : Hid (∀ i, i < k + 1 → 0 ≤ zs.getD i 0 ∧ zs.getD i 0 ≤ 100000) := fun i hi => by
          by_cases e : i = k
          · subst e; exact hin
          · exact HN.out i (by omega)
        rw [decide_eq_true hin] at HT
        have HT : Hid _ := HT
        clear hin
        generalize zs.getD k 0 = z at hc HT
        go_wp2_with (go_at_call 65; refine Calls.mono HT.out ?_; rintro e w1 ⟨rfl, rfl⟩)
        go_round
        case rel => exact ⟨k + 1, by omega, by go_num, HN1.out⟩
        case measure => simp [intOf]; omega
      · have HF : Hid (¬ Ticks zs) := fun h => hin (h k (by omega))
        rw [decide_eq_false hin] at HT
        have HT : Hid _ := HT
        clear hin
        generalize zs.getD k 0 = z at hc HT
        go_wp2_with (go_at_call 65; refine Calls.mono HT.out ?_; rintro e w1 ⟨rfl, rfl⟩)
        go_ret
        exact ⟨⟨false, rfl, by simpa using HF.out⟩, rfl⟩
    · have HF : Hid (Ticks zs) := fun i hi => HN.out i (by omega)
      go_wp2
      go_ret
      exact ⟨⟨true, rfl, by simpa using HF.out⟩, rfl⟩

set_option maxHeartbeats 1000000 in
theorem ascendsInt (a : Option Addr) (len cap : Nat) (zs : List Int) (w : World) (hr : IsRow .i64 w a len cap zs) :
    Calls Tryz.prog 62 #[.slice a len cap, .func (.func 63) #[] #[]] w fun e w' => SaysIf e (Asc zs) ∧ ∃ q, w' = w.drewN q := by
  obtain ⟨hz, hm⟩ := hr.len
  unfold maxLen at hm
  have HR : Hid (IsRow .i64 w a len cap zs) := hr
  clear hr
  have HI : Hid (∀ z w, Calls Tryz.prog 63 #[.int .i64 z] w fun e w' => e = .returned (.int .i64 z) ∧ w' = w) := asItIs
  go_enter Tryz.func62, Tryz.ntmps62
  go_wp2
  go_loopw [5] (fun i wr => ∃ k q : Nat, 0 < k ∧ (k ≤ len ∨ k = 1) ∧ i = .int .i64 k ∧ (∀ i, i < k → i < zs.length → 0 < i → zs.getD (i - 1) 0 < zs.getD i 0) ∧ wr = w.drewN q) (fun i _ => len - (intOf i).toNat)
  case atStart => exact ⟨1, 0, by omega, .inr rfl, rfl, fun i h _ _ => by omega, rfl⟩
  case round =>
    obtain ⟨k, q, hk0, hk, rfl, hn, rfl⟩ := hrel
    have HN : Hid (∀ i, i < k → i < zs.length → 0 < i → zs.getD (i - 1) 0 < zs.getD i 0) := hn
    clear hn
    by_cases hlt : k < len
    · obtain ⟨j, rfl⟩ : ∃ j, k = j + 1 := ⟨k - 1, by omega⟩
      obtain ⟨b, off, rfl, h1, h2, hc⟩ := IsRow.at HR.out hlt
      obtain ⟨b', off', e', _, _, hcj⟩ := IsRow.at HR.out (i := j) (by omega)
      cases e'
      by_cases hlt2 : zs.getD j 0 < zs.getD (j + 1) 0
      · have HN1 : Hid (∀ i, i < j + 1 + 1 → i < zs.length → 0 < i → zs.getD (i - 1) 0 < zs.getD i 0) := fun i hi h3 h4 => by
          by_cases e : i = j + 1
          · subst e; exact hlt2
          · exact HN.out i (by omega) h3 h4
        generalize zs.getD (j + 1) 0 = z at hc hlt2
        generalize zs.getD j 0 = y at hcj hlt2
        have hd : decide (z ≤ y) = false := decide_eq_false (by omega)
        go_wp2_with fail
        go_quiet ((go_at_call 63; exact quiet_again (HI.out _ _)))
        go_wp2_with fail
        go_roundw
        case rel => exact ⟨j + 1 + 1, _, by omega, .inl (by omega), by go_num, HN1.out, rfl⟩
        case measure => simp [intOf]; omega
      · have HF : Hid (¬ Asc zs) := fun h => hlt2 (h (j + 1) (by omega) (by omega))
        generalize zs.getD (j + 1) 0 = z at hc hlt2
        generalize zs.getD j 0 = y at hcj hlt2
        have hd : z ≤ y := by omega
        clear hlt2
        go_wp2_with fail
        go_quiet ((go_at_call 63; exact quiet_again (HI.out _ _)))
        go_wp2_with fail
        go_ret
        exact ⟨⟨false, rfl, by simpa using HF.out⟩, ⟨_, World.drewN_drewN _ _ _⟩⟩
    · have HF : Hid (Asc zs) := fun i hi h0 => HN.out i (by omega) hi h0
      go_wp2
      go_ret
      exact ⟨⟨true, rfl, by simpa using HF.out⟩, _, rfl⟩
end Go.Proofs.YtkemfifkjaclhaaGreatDoor
