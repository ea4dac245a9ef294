/- Marks on what was told, and on whole plans. -/
import Derived.Test.YtnieaeakaajleaaDoorJ13
import Derived.Test.YtnieaeakaajleaaDoorJ21
namespace Go.Proofs.YtnieaeakaajleaaDoor
set_option linter.unusedVariables false
set_option linter.unusedSimpArgs false
open Go.RowKit Go
namespace Pl

/-- n marks of two numbers each, from k on. -/
def mT (k : Nat) : Nat → List Tld
  | 0 => []
  | n + 1 => mT k n ++ [⟨((k + 2 * n : Nat) : Int), ((k + 2 * n + 1 : Nat) : Int)⟩]
theorem mT_len (k n : Nat) : (mT k n).length = n := by
  induction n with
  | zero => rfl
  | succ n ih => simp [mT, ih]
theorem mT_at (k n i : Nat) (h : i < (mT k n).length) : (mT k n)[i] = ⟨((k + 2 * i : Nat) : Int), ((k + 2 * i + 1 : Nat) : Int)⟩ := by
  induction n with
  | zero => simp [mT] at h
  | succ n ih =>
    simp only [mT]
    by_cases hi : i < (mT k n).length
    · rw [List.getElem_append_left hi, ih hi]
    · have hl := mT_len k n
      have : i = n := by simp [mT] at h; omega
      subst this
      rw [List.getElem_append_right (by omega)]
      simp
theorem set_two {α : Type} (a b : List α) (x y u v : α) : ((a ++ x :: y :: b).set a.length u).set (a.length + 1) v = a ++ u :: v :: b := by
  rw [List.set_append_right _ _ (Nat.le_refl _), Nat.sub_self, List.set_cons_zero, List.set_append_right _ _ (by omega), show a.length + 1 - a.length = 1 by omega]
  rfl
theorem flatT_step (ts : List Tld) (k q : Nat) (h : q < ts.length) : ((flatT (mT k q ++ ts.drop q)).set (q * 2) (.int .i64 ((k + 2 * q : Nat) : Int))).set (q * 2 + 1) (.int .i64 ((k + 2 * q + 1 : Nat) : Int)) = flatT (mT k (q + 1) ++ ts.drop (q + 1)) := by
  rw [flatT_app, flatT_app, List.drop_eq_getElem_cons h]
  have h1 : flatT (ts[q] :: ts.drop (q + 1)) = .int .i64 ts[q].tk :: .int .i64 ts[q].wh :: flatT (ts.drop (q + 1)) := rfl
  have h2 : flatT (mT k (q + 1)) = flatT (mT k q) ++ [.int .i64 ((k + 2 * q : Nat) : Int), .int .i64 ((k + 2 * q + 1 : Nat) : Int)] := by
    rw [mT, flatT_app]; rfl
  have hl : (flatT (mT k q)).length = q * 2 := by rw [flatT_len, mT_len]
  rw [h1, h2, ← hl, set_two, List.append_assoc]
  rfl

set_option maxRecDepth 4000 in
set_option maxHeartbeats 1000000 in
theorem markTold (v : Value) (base k : Nat) (ts : List Tld) (w : World) (h : w.ownsRow base 62 2 v ts.length (flatT ts)) (hk : k + 2 * ts.length ≤ 9223372036854775806) :
    Calls Tryd.prog 25 #[v, .int .i64 k] w fun e w' => e = .returned (.int .i64 ((k + 2 * ts.length : Nat) : Int)) ∧ w'.ownsRow base 62 2 v ts.length (flatT (mT k ts.length)) ∧ w.grownBy w' v.ownBlock := by
  obtain ⟨a, c, rfl⟩ : ∃ a c, v = .slice a ts.length c := by
    rcases h.2 with ⟨rfl, h0⟩ | ⟨g, cap, cur, rfl, _⟩
    · exact ⟨none, 0, by rw [h0]⟩
    · exact ⟨_, _, rfl⟩
  have HO : Hid (w.ownsRow base 62 2 (.slice a ts.length c) ts.length (flatT ts)) := h
  have hmx : ts.length ≤ 9223372036854775806 := by omega
  clear h
  go_enter Tryd.func25, Tryd.ntmps25
  go_wp2_with fail
  go_loopw [1, 5] (fun x i wr => ∃ q : Nat, x = .int .i64 ((k + 2 * q : Nat) : Int) ∧ i = .int .i64 q ∧ q ≤ ts.length ∧ wr.ownsRow base 62 2 (.slice a ts.length c) ts.length (flatT (mT k q ++ ts.drop q)) ∧ w.grownBy wr (Value.slice a ts.length c).ownBlock) (fun _ i _ => ts.length - (intOf i).toNat)
  case atStart => exact ⟨0, rfl, rfl, Nat.zero_le _, by simpa [mT] using HO.out, ⟨rfl, rfl, rfl, Nat.le_refl _, fun _ _ _ => rfl⟩⟩
  case round =>
    obtain ⟨q, rfl, rfl, hq, hown, hg⟩ := hrel
    by_cases hlt : q < ts.length
    · obtain ⟨g, rfl⟩ : ∃ g, a = some ⟨g, 0, none⟩ := by
        rcases hown.2 with ⟨h0, h1⟩ | ⟨g, cap, cur, h1, _⟩
        · omega
        · simp only [Value.slice.injEq] at h1; exact ⟨g, h1.1⟩
      have hl : (flatT (mT k q)).length = q * 2 := by rw [flatT_len, mT_len]
      have hat : ∀ j, j < 2 → (flatT (mT k q ++ ts.drop q))[q * 2 + j]? = (cellsT ts[q])[j]? := fun j hj => by
        rw [flatT_app, List.getElem?_append_right (by omega), hl, List.drop_eq_getElem_cons hlt, show q * 2 + j - q * 2 = j by omega]
        rcases (by omega : j = 0 ∨ j = 1) with rfl | rfl <;> rfl
      obtain ⟨c0, f0⟩ := Cal.own_cellAt hown (hat 0 (by omega))
      obtain ⟨c1, f1⟩ := Cal.own_cellAt hown (hat 1 (by omega))
      rw [Nat.add_zero] at c0 f0
      obtain ⟨cap, hcap⟩ : ∃ cap, ts.length ≤ cap ∧ c = cap := by
        rcases hown.2 with ⟨h0, h1⟩ | ⟨g, cap, cur, h1, _, _, h2, _⟩
        · omega
        · simp only [Value.slice.injEq] at h1; exact ⟨cap, h2, h1.2.2⟩
      obtain ⟨hcap, rfl⟩ := hcap
      have hs1 := Cal.own_setAt (Cal.own_setAt hown (i := q * 2) (by omega) (.int .i64 ((k + 2 * q : Nat) : Int))) (i := q * 2 + 1) (by omega) (.int .i64 ((k + 2 * q + 1 : Nat) : Int))
      rw [flatT_step ts k q hlt, show ((k + 2 * q + 1 : Nat) : Int) = ((k + 2 * q : Nat) : Int) + 1 by omega] at hs1
      have HOWN : Hid _ := hs1
      have HG : Hid _ := (hg.trans (Cal.grown_set wr g (q * 2) (.int .i64 ((k + 2 * q : Nat) : Int)))).trans (Cal.grown_set _ g (q * 2 + 1) (.int .i64 (((k + 2 * q : Nat) : Int) + 1)))
      clear hown hg hat hs1 hl
      generalize hK : k + 2 * q = K at HOWN HG
      have hK0 : (K : Int) ≤ 9223372036854775804 := by omega
      go_wp2_with fail
      go_roundw
      case rel => exact ⟨q + 1, by rw [show k + 2 * (q + 1) = K + 2 by omega]; go_num, by go_num, by omega, HOWN.out, HG.out⟩
      case measure => simp [intOf]; omega
    · have hqe : q = ts.length := by omega
      subst hqe
      go_wp2_with fail
      go_ret
      exact ⟨rfl, by simpa using hown, hg⟩

set_option maxRecDepth 4000 in
set_option maxHeartbeats 1000000 in
theorem heldTold (a : Option Addr) (len cap k n : Nat) (w : World) (h : IsTlds w a len cap (mT k n)) (hk : k + 2 * n ≤ 9223372036854775806) :
    Calls Tryd.prog 28 #[.slice a len cap, .int .i64 k] w fun e w' => e = .returned (.int .i64 ((k + 2 * n : Nat) : Int)) ∧ Below w.heap.size w w' := by
  obtain ⟨hz, hm⟩ := IsRecs.len h
  rw [mT_len] at hz
  subst hz
  have HR : Hid (IsTlds w a n cap (mT k n)) := h
  clear h
  go_enter Tryd.func28, Tryd.ntmps28
  go_wp2_with fail
  go_loopw [1, 5] (fun x i wr => ∃ q : Nat, x = .int .i64 ((k + 2 * q : Nat) : Int) ∧ i = .int .i64 q ∧ q ≤ n ∧ Below w.heap.size w wr) (fun _ i _ => n - (intOf i).toNat)
  case atStart => exact ⟨0, rfl, rfl, Nat.zero_le _, Below.refl _ _⟩
  case round =>
    obtain ⟨q, rfl, rfl, hq, hb⟩ := hrel
    by_cases hlt : q < n
    · have hl := mT_len k n
      obtain ⟨b, off, rfl, h1, h2, d0, d1, _⟩ := IsTlds.at (HR.out.below hb) (i := q) (by omega)
      rw [mT_at] at d0 d1
      simp only at d0 d1
      have HB : Hid _ := hb
      have HBD : Hid (∀ m, Below w.heap.size w (wr.drewN m)) := fun m => below_drewN hb m
      clear hb
      generalize hK : k + 2 * q = K at d0 d1
      have hK0 : (K : Int) ≤ 9223372036854775804 := by omega
      go_wp2_with fail
      go_roundw
      case rel => exact ⟨q + 1, by rw [show k + 2 * (q + 1) = K + 2 by omega]; go_num, by go_num, by omega, by first | exact HB.out | exact HBD.out _⟩
      case measure => simp [intOf]; omega
    · have hqe : q = n := by omega
      subst hqe
      go_wp2_with fail
      go_ret
      exact ⟨rfl, hb⟩
end Pl
end Go.Proofs.YtnieaeakaajleaaDoor
