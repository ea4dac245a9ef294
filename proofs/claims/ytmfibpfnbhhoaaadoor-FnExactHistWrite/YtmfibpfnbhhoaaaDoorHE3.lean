/- Comparing entries of histories: alike when they read alike. -/
import Derived.Test.YtmfibpfnbhhoaaaDoorHE2
namespace Go.Proofs.YtmfibpfnbhhoaaaDoor
set_option linter.unusedVariables false
set_option linter.unusedSimpArgs false
open Go.RowKit Go

set_option maxHeartbeats 400000 in
theorem eqHistEntry (kind id : Int) (key name : ByteArray) (a b : Option Addr) (len cap cap2 : Nat) (zs : List Int) (w : World) (hr : IsRow .i64 w a len cap zs) (hr2 : IsRow .i64 w b len cap2 zs) :
    Calls Tryd.prog 20 #[.agg #[.int .i64 kind, .int .i64 id, .string key, .string name, .slice a len cap], .agg #[.int .i64 kind, .int .i64 id, .string key, .string name, .slice b len cap2]] w fun e w' => e = .returned (.bool true) ∧ Below w.heap.size w w' := by
  have HE : Hid (∀ w, IsRow .i64 w a len cap zs → IsRow .i64 w b len cap2 zs → Calls Tryd.prog 36 #[.slice a len cap, .slice b len cap2] w fun e w' => e = .returned (.bool true) ∧ Below w.heap.size w w') := fun w h1 h2 => eqIntS a b len cap cap2 zs w h1 h2
  have HR : Hid (IsRow .i64 w a len cap zs) := hr
  have HR2 : Hid (IsRow .i64 w b len cap2 zs) := hr2
  clear hr hr2
  go_enter Tryd.func20, Tryd.ntmps20
  go_wp2_with fail
  refine (HE.out _ (by exact (IsRow.alloc HR.out _).alloc _) (by exact (IsRow.alloc HR2.out _).alloc _)).mono ?_
  rintro e w1 ⟨rfl, hb⟩
  go_wp2_with fail
  go_ret
  exact ⟨rfl, bcall (((Below.refl _ _).alloc (Nat.le_refl _) _).alloc (by simp) _) (by simp; omega) hb⟩

set_option maxHeartbeats 400000 in
theorem eqHistEntryS (a b : Option Addr) (len cap cap2 : Nat) (es : List Ent) (w : World) (hr : IsEnts w a len cap es) (hr2 : IsEnts w b len cap2 es) :
    Calls Tryd.prog 8 #[.slice a len cap, .slice b len cap2] w fun e w' => e = .returned (.bool true) ∧ Below w.heap.size w w' := by
  obtain ⟨hz, hm⟩ := IsRecs.len hr
  unfold maxLen at hm
  have HR : Hid (IsEnts w a len cap es) := hr
  have HR2 : Hid (IsEnts w b len cap2 es) := hr2
  clear hr hr2
  go_enter Tryd.func8, Tryd.ntmps8
  go_wp2
  go_loopw [5] (fun i wr => ∃ q : Nat, i = .int .i64 q ∧ q ≤ len ∧ Below w.heap.size w wr) (fun i _ => len - (intOf i).toNat)
  case atStart => exact ⟨0, rfl, Nat.zero_le _, Below.refl _ _⟩
  case round =>
    obtain ⟨q, rfl, hq, hb⟩ := hrel
    by_cases hlt : q < len
    · obtain ⟨b1, off1, rfl, h1, hbl1, a1, l1, k1, c0, c1, c2, c3, c4, hrow1, _⟩ := IsEnts.at (IsEnts.below HR.out hb) (i := q) (by omega)
      obtain ⟨b2, off2, rfl, h2, hbl2, a2, l2, k2, d0, d1, d2, d3, d4, hrow2, _⟩ := IsEnts.at (IsEnts.below HR2.out hb) (i := q) (by omega)
      have e1 := hrow1.len
      have e2 := hrow2.len
      have e12 : l2 = l1 := by omega
      subst e12
      have HE : Hid (∀ w', Below wr.heap.size wr w' → Calls Tryd.prog 20 #[.agg #[.int .i64 es[q].kind, .int .i64 es[q].id, .string es[q].key, .string es[q].name, .slice a1 l2 k1], .agg #[.int .i64 es[q].kind, .int .i64 es[q].id, .string es[q].key, .string es[q].name, .slice a2 l2 k2]] w' fun e w'' => e = .returned (.bool true) ∧ Below w'.heap.size w' w'') :=
        fun w' hb' => eqHistEntry _ _ _ _ a1 a2 l2 k1 k2 es[q].nums w' (hrow1.below hb') (hrow2.below hb')
      go_wp2_with fail
      go_region_with (go_at_call 20; refine (HE.out _ (by first | exact Below.refl _ _ | exact (Below.refl _ _).drew)).mono ?_; rintro e w1 ⟨rfl, hw1⟩)
      all_goals
        go_wp2_with fail
        go_roundw
        case rel => exact ⟨q + 1, by go_num, by omega, bcall hb.drew hb.size hw1⟩
        case measure => simp [intOf]; omega
    · go_wp2_with fail
      go_ret
      exact ⟨rfl, hb⟩
end Go.Proofs.YtmfibpfnbhhoaaaDoor
