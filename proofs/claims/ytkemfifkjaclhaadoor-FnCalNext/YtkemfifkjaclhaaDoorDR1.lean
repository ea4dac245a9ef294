/- The reader of drawn inputs: pick. -/
import Derived.Test.YtkemfifkjaclhaaDoorB1
import Derived.BigQuiet
import Derived.Deep.QuietTactic
namespace Go.Proofs.YtkemfifkjaclhaaDoor
set_option linter.unusedVariables false
set_option linter.unusedSimpArgs false
open Go.RowKit Go
namespace Dr

/-- A reader: where it lies, its bytes, how far it has come. -/
structure Rd (w : World) (R : Nat) (a : Option Addr) (len cap : Nat) (bs : List Int) (p : Int) : Prop where
  own : Holds w R 56 #[.slice a len cap, .int .i64 p]
  row : IsRow .u8 w a len cap bs
  low : 0 < len → ∀ b off, a = some ⟨b, off, none⟩ → b < R
  few : len ≤ 2000
  far : 0 ≤ p ∧ p ≤ 1000000000
/-- All but one block is as it was. -/
structure Keeps (R : Nat) (w w' : World) : Prop where
  os : w'.os = w.os
  tape : w'.tape = w.tape
  output : w'.output = w.output
  size : w.heap.size ≤ w'.heap.size
  block : ∀ k, k < w.heap.size → k ≠ R → w'.heap[k]? = w.heap[k]?
theorem Keeps.refl (R : Nat) (w : World) : Keeps R w w := ⟨rfl, rfl, rfl, Nat.le_refl _, fun _ _ _ => rfl⟩
theorem Keeps.trans {R : Nat} {a b c : World} (h : Keeps R a b) (k : Keeps R b c) : Keeps R a c := ⟨k.os.trans h.os, k.tape.trans h.tape, k.output.trans h.output, Nat.le_trans h.size k.size, fun i h1 h2 => (k.block i (Nat.lt_of_lt_of_le h1 h.size) h2).trans (h.block i h1 h2)⟩
theorem Keeps.of_below {R : Nat} {a b : World} (h : Below a.heap.size a b) : Keeps R a b := ⟨h.os, h.tape, h.output, h.size, fun i h1 _ => h.block i h1⟩
theorem Keeps.below {R B : Nat} {a b : World} (h : Keeps R a b) (hB : B ≤ R) (hs : B ≤ a.heap.size) : Below B a b := ⟨h.os, h.tape, h.output, h.size, fun i hi => h.block i (by omega) (by omega)⟩
theorem Keeps.row {R : Nat} {k : IntKind} {w w' : World} {a : Option Addr} {len cap : Nat} {zs : List Int} (h : IsRow k w a len cap zs) (hk : Keeps R w w') (hf : 0 < len → ∀ b off, a = some ⟨b, off, none⟩ → b ≠ R) : IsRow k w' a len cap zs := by
  obtain ⟨h1, h2, h3, h4, h5⟩ := h
  refine ⟨h1, h2, h3, fun hl => ?_, h5⟩
  obtain ⟨b, off, rfl, hb1, hc⟩ := h4 hl
  refine ⟨b, off, rfl, Nat.lt_of_lt_of_le hb1 hk.size, fun i hi => ?_⟩
  rw [← hc i hi]
  exact World.cell?_of_block (a := ⟨b, off + i, none⟩) (hk.block b hb1 (hf hl b off rfl))
theorem wf_byte {n : Int} (h : (Lit.int .u8 n).wf = true) : 0 ≤ n ∧ n ≤ 255 := by
  have e1 : IntKind.u8.min = 0 := by decide
  have e2 : IntKind.u8.max = 255 := by decide
  simpa only [Lit.wf, e1, e2, Bool.and_eq_true, decide_eq_true_eq] using h
theorem byte_at {w : World} {a : Option Addr} {len cap : Nat} {bs : List Int} (h : IsRow .u8 w a len cap bs) {i : Nat} (hi : i < len) : 0 ≤ bs.getD i 0 ∧ bs.getD i 0 ≤ 255 := by
  have hl := h.len.1
  rw [getD_at bs i (by omega)]
  exact wf_byte (h.wf _ (List.getElem_mem _))

theorem xor_low {x y : Int} (hx : 0 ≤ x ∧ x < 4611686018427387904) (hy : 0 ≤ y ∧ y < 4611686018427387904) : 0 ≤ bits .xor .i64 x y := by
  obtain ⟨a, rfl⟩ := Int.eq_ofNat_of_zero_le hx.1
  obtain ⟨b, rfl⟩ := Int.eq_ofNat_of_zero_le hy.1
  have ha : a < 2 ^ 62 := by have := hx.2; omega
  have hb : b < 2 ^ 62 := by have := hy.2; omega
  have h := Nat.xor_lt_two_pow ha hb
  have e : bits .xor .i64 (a : Int) (b : Int) = IntKind.i64.wrap ((a ^^^ b : Nat) : Int) := by
    unfold bits
    simp only [BitVec.toNat_xor]
    have e64 : IntKind.i64.bits = 64 := rfl
    rw [e64]
    have h1 : (BitVec.ofInt 64 (a : Int)).toNat = a := by rw [BitVec.toNat_ofInt]; omega
    have h2 : (BitVec.ofInt 64 (b : Int)).toNat = b := by rw [BitVec.toNat_ofInt]; omega
    rw [h1, h2]
  rw [e, IntKind.wrap_i64]
  omega
def Picked (n v : Int) : Prop := 0 ≤ v ∧ (1 ≤ n → v < n) ∧ (n < 1 → v = 0)
set_option maxRecDepth 4000 in
set_option maxHeartbeats 2000000 in
theorem pick (R : Nat) (a : Option Addr) (len cap : Nat) (bs : List Int) (p n : Int) (w : World) (h : Rd w R a len cap bs p) (hp : p ≤ 999999999) (hn : n ≤ 1000000000) :
    Calls Tryd.prog 25 #[.pointer (some ⟨R, 0, none⟩), .int .i64 n] w fun e w' => (∃ v : Int, e = .returned (.int .i64 v) ∧ Picked n v) ∧ Rd w' R a len cap bs (p + 1) ∧ Keeps R w w' := by
  obtain ⟨hown, hrow, hlow, hfew, hfar⟩ := h
  have c0 := hown.cell 0
  have c1 := hown.cell 1
  have f1 := hown.frozen 1
  simp at c0 c1
  have HH : Hid _ := hown.set 1 (.int .i64 (p + 1))
  have HK : Hid (Keeps R w (w.setCell ⟨R, 1, none⟩ (.int .i64 (p + 1)))) := by
    have hb := (Below.refl 0 w).setCell (p := ⟨R, 1, none⟩) (Nat.zero_le _) (.int .i64 (p + 1))
    exact ⟨hb.os, hb.tape, hb.output, hb.size, fun k _ hk => Below.heap_setCell w ⟨R, 1, none⟩ _ k hk⟩
  have HR : Hid (IsRow .u8 w a len cap bs) := hrow
  have HLOW : Hid (0 < len → ∀ b off, a = some ⟨b, off, none⟩ → b < R) := hlow
  have HRD : Hid (∀ w', Keeps R (w.setCell ⟨R, 1, none⟩ (.int .i64 (p + 1))) w' → w'.heap[R]? = (w.setCell ⟨R, 1, none⟩ (.int .i64 (p + 1))).heap[R]? → Rd w' R a len cap bs (p + 1) ∧ Keeps R w w') := fun w' hk he => by
    refine ⟨⟨?_, Keeps.row HR.out (HK.out.trans hk) (fun hl b off e => by have := HLOW.out hl b off e; omega), HLOW.out, hfew, by omega⟩, HK.out.trans hk⟩
    have := HH.out
    unfold Holds at this ⊢
    rw [he, this]
    rfl
  clear hown hrow hlow
  by_cases hn1 : n < 1
  · go_enter Tryd.func25, Tryd.ntmps25
    go_wp2_with fail
    go_ret
    exact ⟨⟨0, rfl, Int.le_refl _, fun h => by omega, fun _ => rfl⟩, HRD.out _ (Keeps.refl _ _) rfl⟩
  by_cases hl0 : len = 0
  · subst hl0
    go_enter Tryd.func25, Tryd.ntmps25
    go_wp2_with fail
    go_ret
    exact ⟨⟨0, rfl, Int.le_refl _, fun h => by omega, fun _ => rfl⟩, HRD.out _ (Keeps.refl _ _) rfl⟩
  obtain ⟨k, rfl⟩ : ∃ k : Nat, p = (k : Int) := ⟨p.toNat, by omega⟩
  have hl1 : 0 < len := by omega
  by_cases hk : k < len
  · obtain ⟨b, off, rfl, h1, h2, hc⟩ := IsRow.at HR.out hk
    obtain ⟨z0, z1⟩ := byte_at HR.out hk
    have hbR : b ≠ R := by have := HLOW.out hl1 b off rfl; omega
    have hkl : (k : Int) < (len : Int) := by omega
    generalize bs.getD k 0 = z at hc z0 z1
    have t1 : 0 ≤ z % n := Int.emod_nonneg _ (by omega)
    have t2 : z % n < n := Int.emod_lt_of_pos _ (by omega)
    go_enter Tryd.func25, Tryd.ntmps25
    go_wp2_with fail
    go_ret
    exact ⟨⟨_, rfl, t1, fun _ => t2, fun h => by omega⟩, HRD.out _ (Keeps.refl _ _) rfl⟩
  · have m1 : k % len < len := Nat.mod_lt _ hl1
    have m2 : (k * 7 + 3) % len < len := Nat.mod_lt _ hl1
    obtain ⟨b, off, rfl, h1, h2, hc1⟩ := IsRow.at HR.out m1
    obtain ⟨b', off', e', _, _, hc2⟩ := IsRow.at HR.out m2
    simp only [Option.some.injEq, Addr.mk.injEq, and_true] at e'
    obtain ⟨rfl, rfl⟩ := e'
    obtain ⟨z0, z1⟩ := byte_at HR.out m1
    obtain ⟨y0, y1⟩ := byte_at HR.out m2
    have hbR : b ≠ R := by have := HLOW.out hl1 b off rfl; omega
    have e1 : (k : Int) % (len : Int) = ((k % len : Nat) : Int) := rfl
    have e2 : ((k : Int) * 7 + 3) % (len : Int) = (((k * 7 + 3) % len : Nat) : Int) := rfl
    generalize k % len = i1 at m1 hc1 z0 z1 e1
    generalize (k * 7 + 3) % len = i2 at m2 hc2 y0 y1 e2
    generalize bs.getD i1 0 = z at hc1 z0 z1
    generalize bs.getD i2 0 = y at hc2 y0 y1
    go_enter Tryd.func25, Tryd.ntmps25
    go_wp2_with fail
    go_quiet (fail)
    have w1 : 0 ≤ (k : Int) / (len : Int) ∧ (k : Int) / (len : Int) ≤ 1000000000 := ⟨Int.ediv_nonneg (by omega) (by omega), Int.le_trans (Int.ediv_le_self _ (by omega)) (by omega)⟩
    have w2 : wrap64 ((k : Int) / (len : Int)) = (k : Int) / (len : Int) := wrap64_id _ (by omega) (by omega)
    have HX : Hid (0 ≤ wrap64 (z * 131 + y * 1117 + (k : Int) * 29 + wrap64 (wrap64 ((k : Int) / (len : Int)) * 53)) ∧ wrap64 (z * 131 + y * 1117 + (k : Int) * 29 + wrap64 (wrap64 ((k : Int) / (len : Int)) * 53)) < 4611686018427387904) := by
      show _ ∧ _
      rw [w2]
      generalize (k : Int) / (len : Int) = u at w1
      rw [wrap64_id (u * 53) (by omega) (by omega), wrap64_id _ (by omega) (by omega)]
      omega
    clear w1 w2
    go_wp2_with fail
    generalize wrap64 (z * 131 + y * 1117 + (k : Int) * 29 + wrap64 (wrap64 ((k : Int) / (len : Int)) * 53)) = X at HX ⊢
    have hX := HX.out
    have hD : 0 ≤ X.tdiv 64 ∧ X.tdiv 64 ≤ X := by rw [Int.tdiv_eq_ediv_of_nonneg hX.1]; omega
    rw [wrap64_id (X.tdiv 64) (by omega) (by omega)]
    have hxo := xor_low (x := X) (y := X.tdiv 64) hX (by omega)
    generalize bits BinOp.xor IntKind.i64 X (X.tdiv 64) = Y at hxo ⊢
    have t1 : 0 ≤ Y.tmod n := Int.tmod_nonneg _ hxo
    have t2 : Y.tmod n < n := Int.tmod_lt_of_pos _ (by omega)
    go_ret
    refine ⟨⟨_, rfl, t1, fun _ => t2, fun h => by omega⟩, HRD.out _ ?_ rfl⟩
    have hb := below_drewN (Below.refl (w.setCell ⟨R, 1, none⟩ (.int .i64 ((k : Int) + 1))).heap.size (w.setCell ⟨R, 1, none⟩ (.int .i64 ((k : Int) + 1)))) nq
    exact Keeps.of_below hb
end Dr
end Go.Proofs.YtkemfifkjaclhaaDoor
