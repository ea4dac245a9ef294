/- The program's words of numbers (for a seat without entries). -/
import Derived.Test.YtdanfekodmncmaaGreatDoorJ6
import Derived.Test.YtdanfekodmncmaaGreatDoorJ9
import Derived.Lib.AppendIntMem
namespace Go.Proofs.YtdanfekodmncmaaGreatDoor
set_option linter.unusedVariables false
set_option linter.unusedSimpArgs false
open Go.RowKit Go

/-- The library's table of powers of ten stands as its text lays it. -/
def Tab (w : World) : Prop := Lib.TabIs Tryz.prog w "internal/strconv.uint64pow10" .u64 Lib.pow10Tab
theorem Tab.below {w w' : World} (h : Tab w) (hb : Below w.heap.size w w') : Tab w' := Lib.tabBelow_of_tabIs h w' hb
theorem itoa (n : Int) (h : (Lit.int .i64 n).wf = true) (w : World) (ht : Tab w) :
    Calls Tryz.prog 50 #[.int .i64 n] w fun e w' => e = .returned (.string (itoB n)) ∧ Below w.heap.size w w' := by
  have h' := h
  simp only [Lit.wf, Bool.and_eq_true, decide_eq_true_eq] at h'
  refine (strconv_Itoa n h'.1 h'.2 w ht).mono ?_
  rintro e w' ⟨rfl, k, os, rfl⟩
  exact ⟨rfl, Lib.below_grow _ _ (Nat.le_refl _) k os⟩

def numS (zs : List Int) : List ByteArray := zs.map itoB
theorem numS_len (zs : List Int) : (numS zs).length = zs.length := by simp [numS]
theorem numS_snoc (zs : List Int) (z : Int) : numS (zs ++ [z]) = numS zs ++ [itoB z] := by simp [numS]
theorem getD_wf {zs : List Int} (h : ∀ n ∈ zs, (Lit.int .i64 n).wf = true) {k : Nat} (hk : k < zs.length) : (Lit.int .i64 (zs.getD k 0)).wf = true := by
  rw [getD_at zs k hk]; exact h _ (List.getElem_mem hk)

set_option maxRecDepth 100000 in
set_option maxHeartbeats 1000000 in
theorem numWords (a : Option Addr) (len cap : Nat) (zs : List Int) (w : World) (hr : IsRow .i64 w a len cap zs) (ht : Tab w) (hl : len ≤ 1048576) :
    Calls Tryz.prog 51 #[.slice a len cap] w fun e w' => ∃ v, e = .returned v ∧ Row w' v (sv (numS zs)) ∧ Below w.heap.size w w' := by
  obtain ⟨hz, hm⟩ := hr.len
  have HR : Hid (IsRow .i64 w a len cap zs) := hr
  have HT : Hid (Tab w) := ht
  clear hr ht hm
  have HI : Hid (∀ n w, (Lit.int .i64 n).wf = true → Tab w → Calls Tryz.prog 50 #[.int .i64 n] w fun e w' => e = .returned (.string (itoB n)) ∧ Below w.heap.size w w') := fun n w h ht => itoa n h w ht
  go_enter Tryz.func51, Tryz.ntmps51
  go_wp2
  go_loopw [3, 8] (fun o i wr => ∃ k : Nat, k ≤ len ∧ i = .int .i64 k ∧ Acc wr w.heap.size 9 1 o k (sv (numS (zs.take k))) ∧ Below w.heap.size w wr) (fun _ i _ => len - (intOf i).toNat)
  case atStart => exact ⟨0, Nat.zero_le _, rfl, Acc.nil _ _ _ _, Below.refl _ _⟩
  case round =>
    obtain ⟨k, hk, rfl, hacc, hb⟩ := hrel
    have HA : Hid (Acc wr w.heap.size 9 1 _ k (sv (numS (zs.take k)))) := hacc
    clear hacc
    by_cases hlt : k < len
    · obtain ⟨b, off, rfl, h1, h2, hc⟩ := IsRow.at (HR.out.below hb) hlt
      have HIk : Hid (∀ w', Tab w' → Calls Tryz.prog 50 #[.int .i64 (zs.getD k 0)] w' fun e w'' => e = .returned (.string (itoB (zs.getD k 0))) ∧ Below w'.heap.size w' w'') := fun w' h => HI.out _ w' (getD_wf HR.out.wf (by omega)) h
      have HTK : Hid (zs.take (k + 1) = zs.take k ++ [zs.getD k 0]) := takeI_snoc zs k (by omega)
      generalize zs.getD k 0 = z at hc HIk HTK
      go_wp2_with first
        | (go_at_call 50; refine (HIk.out _ ?_).mono ?_; exact HT.out.below hb; rintro e w1 ⟨rfl, hw1⟩; have HA1 := HA.out.below hw1; have hb1 := bcall hb hb.size hw1; clear hw1)
        | (at_builtin; refine wp_acc_str rfl _ _ rfl w.heap.size _ k (numS (zs.take k)) rfl (by exact HA1.alloc _) ⟨w1.heap.size, 0, none⟩ _ (itoB z) rfl (by simp) (by omega) (by have := hb1.size; simp; omega) ?_; intro v' w2 hacc2 hg2)
      go_roundw
      case rel => exact ⟨k + 1, by omega, by go_num, by rw [HTK.out, numS_snoc]; exact hacc2, (hb1.alloc hb1.size _).trans hg2⟩
      case measure => simp [intOf]; omega
    · have he : zs.take k = zs := List.take_of_length_le (by omega)
      rw [he] at HA
      go_wp2_with fail
      go_ret
      exact ⟨_, rfl, HA.out.row, hb⟩
end Go.Proofs.YtdanfekodmncmaaGreatDoor
