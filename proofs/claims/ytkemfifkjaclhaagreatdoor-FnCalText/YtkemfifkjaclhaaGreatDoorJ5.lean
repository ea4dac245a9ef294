/- The reader of drawn inputs: a drawn rule. -/
import Derived.Test.YtkemfifkjaclhaaGreatDoorJ3
import Derived.Test.YtkemfifkjaclhaaGreatDoorJ4
namespace Go.Proofs.YtkemfifkjaclhaaGreatDoor
set_option linter.unusedVariables false
set_option linter.unusedSimpArgs false
open Go.RowKit Go
namespace Dr

theorem Keeps.grow {R F : Nat} {w a b : World} (h : Keeps R w a) (hb : Below F a b) (hF : w.heap.size ≤ F) : Keeps R w b :=
  ⟨hb.os.trans h.os, hb.tape.trans h.tape, hb.output.trans h.output, Nat.le_trans h.size hb.size, fun i h1 h2 => (hb.block i (by omega)).trans (h.block i h1 h2)⟩
theorem Keeps.set {R : Nat} {w a : World} (h : Keeps R w a) {b o : Nat} (hb : w.heap.size ≤ b) (v : Value) : Keeps R w (a.setCell ⟨b, o, none⟩ v) :=
  h.grow ((Below.refl b a).setCell (p := ⟨b, o, none⟩) (Nat.le_refl _) v) hb
theorem Rd.later {w w' : World} {R F : Nat} {a : Option Addr} {len cap : Nat} {bs : List Int} {p : Int} (h : Rd w R a len cap bs p) (hb : Below F w w') (hF : R < F) : Rd w' R a len cap bs p := by
  refine ⟨Cal.holds_later h.own hb hF, ?_, h.low, h.few, h.far⟩
  obtain ⟨h1, h2, h3, h4, h5⟩ := h.row
  refine ⟨h1, h2, h3, fun hl => ?_, h5⟩
  obtain ⟨b, off, rfl, hb1, hc⟩ := h4 hl
  refine ⟨b, off, rfl, Nat.lt_of_lt_of_le hb1 hb.size, fun i hi => ?_⟩
  rw [← hc i hi]
  exact hb.cell (p := ⟨b, off + i, none⟩) (by have := h.low hl b off rfl; show b < F; omega)

theorem acc_keeps {w w' : World} {R F : Nat} {e : TypeId} {size : Nat} {v : Value} {n : Nat} {xs : List Value} (h : Acc w F e size v n xs) (hk : Keeps R w w') (hR : R < F) : Acc w' F e size v n xs := by
  rcases h with ⟨rfl, rfl, a, rfl, h⟩ | h
  · exact .inl ⟨rfl, rfl, a, rfl, fun x hx => ⟨(h x hx).1, Nat.lt_of_lt_of_le (h x hx).2 hk.size⟩⟩
  · refine .inr (h.kept (row := some R) ⟨hk.os, hk.tape, hk.output, hk.size, fun k h1 h2 => hk.block k h1 (fun e => h2 (by rw [e]))⟩ ?_)
    cases hv : v.ownBlock with
    | none => exact .inl rfl
    | some k =>
      refine .inr fun e => ?_
      have := (h.lt k hv).1
      simp at e
      omega
def SmallR (r : Rul) : Prop := (1 ≤ r.ev ∧ r.ev ≤ 1000) ∧ (0 ≤ r.at_ ∧ r.at_ ≤ 1000) ∧ (0 ≤ r.fr ∧ r.fr ≤ 100000) ∧ (0 ≤ r.to_ ∧ r.to_ ≤ 100000) ∧ r.but.length ≤ 4 ∧ ∀ z ∈ r.but, 0 ≤ z ∧ z ≤ 100000
def RulePosted (R : Nat) (a : Option Addr) (len cap : Nat) (bs : List Int) (p : Int) (w : World) (e : Ending) (w' : World) : Prop :=
  ∃ (r : Rul) (ab : Option Addr) (l c : Nat) (p' : Int), e = .returned (.agg #[.int .i64 r.ev, .int .i64 r.at_, .int .i64 r.fr, .int .i64 r.to_, .slice ab l c]) ∧ RulIs w' [.int .i64 r.ev, .int .i64 r.at_, .int .i64 r.fr, .int .i64 r.to_, .slice ab l c] r ∧ SmallR r ∧
    (0 < l → ∀ b off, ab = some ⟨b, off, none⟩ → w.heap.size ≤ b) ∧ Rd w' R a len cap bs p' ∧ p ≤ p' ∧ p' ≤ p + 20 ∧ Keeps R w w'

set_option maxRecDepth 4000 in
set_option maxHeartbeats 16000000 in
theorem l43Rule (R : Nat) (a : Option Addr) (len cap : Nat) (bs : List Int) (p : Int) (w : World) (h : Rd w R a len cap bs p) (hp : p ≤ 999999900) :
    Calls Tryz.prog 30 #[.pointer (some ⟨R, 0, none⟩)] w fun e w' => RulePosted R a len cap bs p w e w' := by
  have HP : Hid (∀ (p n : Int) (w : World), Rd w R a len cap bs p → p ≤ 999999999 → n ≤ 1000000000 → Calls Tryz.prog 15 #[.pointer (some ⟨R, 0, none⟩), .int .i64 n] w fun e w' => (∃ v : Int, e = .returned (.int .i64 v) ∧ Picked n v) ∧ Rd w' R a len cap bs (p + 1) ∧ Keeps R w w') := fun p n w h1 h2 h3 => pick R a len cap bs p n w h1 h2 h3
  have hlt := h.lt
  have hfar := h.far
  have H0 : Hid _ := h.alloc (.cells #[.int .i64 0, .int .i64 0, .int .i64 0, .int .i64 0, .slice none 0 0] 50)
  have K0 : Hid (Keeps R w (w.alloc (.cells #[.int .i64 0, .int .i64 0, .int .i64 0, .int .i64 0, .slice none 0 0] 50))) := Keeps.of_below ((Below.refl _ _).alloc (Nat.le_refl _) _)
  have G0 : Hid (Holds (w.alloc (.cells #[.int .i64 0, .int .i64 0, .int .i64 0, .int .i64 0, .slice none 0 0] 50)) w.heap.size 50 #[.int .i64 0, .int .i64 0, .int .i64 0, .int .i64 0, .slice none 0 0]) := heap_alloc_new _ _
  have hneR : w.heap.size ≠ R := by omega
  clear h
  go_enter Tryz.func30, Tryz.ntmps30
  go_wp2_with fail
  refine (HP.out p 12 _ H0.out (by omega) (by omega)).mono ?_
  rintro e w1 ⟨⟨x1, rfl, hx1, hx2, _⟩, hr1, hk1⟩
  have hx2 := hx2 (by omega)
  have H1 : Hid _ := hr1
  have K1 : Hid (Keeps R w w1) := K0.out.trans hk1
  have G1 : Hid _ := hk1.holds G0.out hneR
  clear hr1 hk1 H0 K0 G0
  go_wp2_with fail
  refine (HP.out (p + 1) 12 _ H1.out (by omega) (by omega)).mono ?_
  rintro e w2 ⟨⟨x2, rfl, hy1, hy2, _⟩, hr2, hk2⟩
  have H2 : Hid _ := hr2
  have K2 : Hid (Keeps R w w2) := K1.out.trans hk2
  have G2 : Hid _ := hk2.holds G1.out hneR
  clear hr2 hk2 H1 K1 G1 hy2
  by_cases hz : x2 = 0
  · have d0 : (x2 == 0) = true := by simpa using hz
    clear hz
    go_wp2_with fail
    refine (HP.out (p + 1 + 1) (1000) _ H2.out (by omega) (by omega)).mono ?_
    rintro e w3 ⟨⟨x3, rfl, ha1, ha2, _⟩, hr3, hk3⟩
    have ha2 := ha2 (by omega)
    have H3 : Hid _ := hr3
    have K3 : Hid (Keeps R w w3) := K2.out.trans hk3
    have G3 : Hid (Holds w3 w.heap.size 50 #[.int .i64 0, .int .i64 0, .int .i64 0, .int .i64 0, .slice none 0 0]) := hk3.holds G2.out hneR
    clear hr3 hk3 H2 K2 G2
    go_wp2_with fail
    refine (HP.out (p + 1 + 1 + 1) 40 _ H3.out (by omega) (by omega)).mono ?_
    rintro e w4 ⟨⟨x4, rfl, hf1, hf2, _⟩, hr4, hk4⟩
    have hf2 := hf2 (by omega)
    have hlt4 : R < w4.heap.size := hr4.lt
    have H4 : Hid (Rd ((w4.alloc (.cells #[.int .i64 (1000), .int .i64 x3, .int .i64 x4, .int .i64 0, .slice none 0 0] 50)).drew) R a len cap bs (p + 1 + 1 + 1 + 1)) := (hr4.alloc _).below (Below.refl _ _).drew
    have hs4 : w.heap.size < w4.heap.size := Nat.lt_of_lt_of_le (Holds.lt G3.out) hk4.size
    have K4 : Hid (Keeps R w ((w4.alloc (.cells #[.int .i64 (1000), .int .i64 x3, .int .i64 x4, .int .i64 0, .slice none 0 0] 50)).drew)) := (K3.out.trans hk4).grow ((Below.refl w4.heap.size w4).alloc (Nat.le_refl _) _).drew (by omega)
    have G4 : Hid (Holds ((w4.alloc (.cells #[.int .i64 (1000), .int .i64 x3, .int .i64 x4, .int .i64 0, .slice none 0 0] 50)).drew) w.heap.size 50 #[.int .i64 0, .int .i64 0, .int .i64 0, .int .i64 0, .slice none 0 0]) := (hk4.holds G3.out hneR).below ((Below.refl _ _).alloc (Nat.le_refl _) _).drew
    have X4 : Hid (Holds ((w4.alloc (.cells #[.int .i64 (1000), .int .i64 x3, .int .i64 x4, .int .i64 0, .slice none 0 0] 50)).drew) w4.heap.size 50 #[.int .i64 (1000), .int .i64 x3, .int .i64 x4, .int .i64 0, .slice none 0 0]) := heap_alloc_new _ _
    have hXR : w4.heap.size ≠ R := by omega
    have hXG : w.heap.size ≠ w4.heap.size := by omega
    clear hr4 hk4 H3 K3 G3
    go_wp2_with fail
    go_region_held3 (fun w' => w'.cell? ⟨w4.heap.size, 2, none⟩ = some (.int .i64 x4)) (first | (simp [go_sem]; done) | exact hS5 | (simp [go_sem, hS5]; done))
      (first | (go_at_call 15; refine (HP.out (p + 1 + 1 + 1 + 1) 120 _ H4.out (by omega) (by omega)).mono ?_; rintro e w5 ⟨⟨x5, rfl, hq1, hq2, _⟩, hr5, hk5⟩; have hX5 := hk5.holds X4.out hXR; have hS5 : w5.cell? ⟨w4.heap.size, 2, none⟩ = some (.int .i64 x4) := (hX5.cell 2).trans rfl; have u3 := hX5.cell 3; have u3f := hX5.frozen 3; simp at u3))
    have hq2 := hq2 (by omega)
    have ew : IntKind.i64.wrap (x4 + x5) = x4 + x5 := by rw [IntKind.wrap_i64]; omega
    rw [ew]
    have H5 : Hid (Rd (w5.setCell ⟨w4.heap.size, 3, none⟩ (.int .i64 (x4 + x5))) R a len cap bs (p + 1 + 1 + 1 + 1 + 1)) := hr5.set hlt4 _
    have K5 : Hid (Keeps R w (w5.setCell ⟨w4.heap.size, 3, none⟩ (.int .i64 (x4 + x5)))) := (K4.out.trans hk5).set (by omega) _
    have G5 : Hid (Holds (w5.setCell ⟨w4.heap.size, 3, none⟩ (.int .i64 (x4 + x5))) w.heap.size 50 #[.int .i64 0, .int .i64 0, .int .i64 0, .int .i64 0, .slice none 0 0]) := Cal.holds_else (hk5.holds G4.out hneR) 3 _ hXG
    have X5 : Hid (Holds (w5.setCell ⟨w4.heap.size, 3, none⟩ (.int .i64 (x4 + x5))) w4.heap.size 50 #[.int .i64 (1000), .int .i64 x3, .int .i64 x4, .int .i64 (x4 + x5), .slice none 0 0]) := hX5.set 3 _
    clear hr5 hk5 hX5 hS5 u3 u3f H4 K4 G4 X4 ew
    go_wp2_with fail
    refine (HP.out (p + 1 + 1 + 1 + 1 + 1) 6 _ H5.out (by omega) (by omega)).mono ?_
    rintro e w6 ⟨⟨x6, rfl, hg1, hg2, _⟩, hr6, hk6⟩
    clear hg2
    by_cases hz6 : x6 = 0
    · have d6 : (x6 == 0) = true := by simpa using hz6
      have hX6 : Holds w6 w4.heap.size 50 #[.int .i64 (1000), .int .i64 x3, .int .i64 x4, .int .i64 (x4 + x5), .slice none 0 0] := hk6.holds X5.out hXR
      have u3 := hX6.cell 3
      have u3f := hX6.frozen 3
      simp at u3
      have H6 : Hid (Rd (w6.setCell ⟨w4.heap.size, 3, none⟩ (.int .i64 100000)) R a len cap bs (p + 1 + 1 + 1 + 1 + 1 + 1)) := hr6.set hlt4 _
      have K6 : Hid (Keeps R w (w6.setCell ⟨w4.heap.size, 3, none⟩ (.int .i64 100000))) := (K5.out.trans hk6).set (by omega) _
      have G6 : Hid (Holds (w6.setCell ⟨w4.heap.size, 3, none⟩ (.int .i64 100000)) w.heap.size 50 #[.int .i64 0, .int .i64 0, .int .i64 0, .int .i64 0, .slice none 0 0]) := Cal.holds_else (hk6.holds G5.out hneR) 3 _ hXG
      have X6 : Hid (Holds (w6.setCell ⟨w4.heap.size, 3, none⟩ (.int .i64 100000)) w4.heap.size 50 #[.int .i64 (1000), .int .i64 x3, .int .i64 x4, .int .i64 100000, .slice none 0 0]) := hX6.set 3 _
      clear hr6 hk6 hX6 H5 K5 G5 X5 hz6
      have hc2 := (X6.out.cell 2)
      simp at hc2
      go_wp2_with fail
      refine (HP.out (p + 1 + 1 + 1 + 1 + 1 + 1) 4 _ H6.out (by omega) (by omega)).mono ?_
      rintro e w7 ⟨⟨x7, rfl, hs1, hs2, _⟩, hr7, hk7⟩
      have hs2 := hs2 (by omega)
      have X7 : Hid (Holds w7 w4.heap.size 50 #[.int .i64 (1000), .int .i64 x3, .int .i64 x4, .int .i64 (100000), .slice none 0 0]) := hk7.holds X6.out hXR
      have G7 : Hid (Holds w7 w.heap.size 50 #[.int .i64 0, .int .i64 0, .int .i64 0, .int .i64 0, .slice none 0 0]) := hk7.holds G6.out hneR
      have H7 : Hid _ := hr7
      have K7 : Hid (Keeps R w w7) := K6.out.trans hk7
      clear hr7 hk7 H6 K6 G6 X6 hc2
      obtain ⟨m0, rfl⟩ : ∃ m : Nat, x7 = (m : Int) := ⟨x7.toNat, by omega⟩
      go_wp2_with fail
      go_loopw [5, 6] (fun t5 t6 wr => ∃ (t : Int) (m : Nat) (nums : List Int) (v : Value) (p' : Int), t5 = .int .i64 t ∧ t6 = .int .i64 (m : Int) ∧ m ≤ 3 ∧ 0 ≤ t ∧ t ≤ 40 + 1100 * (3 - (m : Int)) ∧ nums.length + m ≤ 3 ∧ (∀ z ∈ nums, 0 ≤ z ∧ z ≤ 100000) ∧ Holds wr w4.heap.size 50 #[.int .i64 (1000), .int .i64 x3, .int .i64 x4, .int .i64 (100000), v] ∧ Acc wr (w4.heap.size + 1) 3 1 v nums.length (nums.map (Value.int .i64)) ∧ Holds wr w.heap.size 50 #[.int .i64 0, .int .i64 0, .int .i64 0, .int .i64 0, .slice none 0 0] ∧ Rd wr R a len cap bs p' ∧ p + 7 ≤ p' ∧ p' ≤ p + 7 + 2 * (3 - (m : Int)) ∧ Keeps R w wr) (fun _ t6 _ => (intOf t6).toNat)
      case atStart => exact ⟨x4, m0, [], _, _, rfl, rfl, by omega, by omega, by omega, by simp; omega, (fun z hz => by cases hz), X7.out, Acc.nil _ _ _ _, G7.out, H7.out, by omega, by omega, K7.out⟩
      case round =>
        clear X7 G7 H7 K7
        obtain ⟨t, m, nums, v, p', rfl, rfl, hm3, ht0, ht1, hnm, hnb, hX, hA, hG, hR, hp1, hp2, hK⟩ := hrel
        have HX : Hid (Holds wr w4.heap.size 50 #[.int .i64 (1000), .int .i64 x3, .int .i64 x4, .int .i64 (100000), v]) := hX
        have HA : Hid (Acc wr (w4.heap.size + 1) 3 1 v nums.length (nums.map (Value.int .i64))) := hA
        have HG : Hid (Holds wr w.heap.size 50 #[.int .i64 0, .int .i64 0, .int .i64 0, .int .i64 0, .slice none 0 0]) := hG
        have HR : Hid (Rd wr R a len cap bs p') := hR
        have HK : Hid (Keeps R w wr) := hK
        have HNB : Hid (∀ z ∈ nums, 0 ≤ z ∧ z ≤ 100000) := hnb
        clear hX hA hG hR hK hnb
        by_cases hm : 0 < m
        · have dm : decide ((0 : Int) < (m : Int)) = true := decide_eq_true (by omega)
          go_wp2_with fail
          refine (HP.out p' 20 _ HR.out (by omega) (by omega)).mono ?_
          rintro e w8 ⟨⟨x8, rfl, hb1, hb2, _⟩, hr8, hk8⟩
          have hb2 := hb2 (by omega)
          have X8 : Hid (Holds w8 w4.heap.size 50 #[.int .i64 (1000), .int .i64 x3, .int .i64 x4, .int .i64 (100000), v]) := hk8.holds HX.out hXR
          have G8 : Hid (Holds w8 w.heap.size 50 #[.int .i64 0, .int .i64 0, .int .i64 0, .int .i64 0, .slice none 0 0]) := hk8.holds HG.out hneR
          have A8 : Hid (Acc w8 (w4.heap.size + 1) 3 1 v nums.length (nums.map (Value.int .i64))) := acc_keeps HA.out hk8 (by omega)
          have H8 : Hid _ := hr8
          have K8 : Hid (Keeps R w w8) := HK.out.trans hk8
          clear hr8 hk8 HX HA HG HR HK
          go_wp2_with fail
          refine (HP.out (p' + 1) 2 _ H8.out (by omega) (by omega)).mono ?_
          rintro e w9 ⟨⟨x9, rfl, hc1, hc2, _⟩, hr9, hk9⟩
          clear hc2
          have hX9 : Holds w9 w4.heap.size 50 #[.int .i64 (1000), .int .i64 x3, .int .i64 x4, .int .i64 (100000), v] := hk9.holds X8.out hXR
          have c1 := hX9.cell 1
          simp at c1
          have X9 : Hid (Holds w9 w4.heap.size 50 #[.int .i64 (1000), .int .i64 x3, .int .i64 x4, .int .i64 (100000), v]) := hX9
          have G9 : Hid (Holds w9 w.heap.size 50 #[.int .i64 0, .int .i64 0, .int .i64 0, .int .i64 0, .slice none 0 0]) := hk9.holds G8.out hneR
          have A9 : Hid (Acc w9 (w4.heap.size + 1) 3 1 v nums.length (nums.map (Value.int .i64))) := acc_keeps A8.out hk9 (by omega)
          have H9 : Hid (Rd w9 R a len cap bs (p' + 1 + 1)) := hr9
          have K9 : Hid (Keeps R w w9) := K8.out.trans hk9
          clear hr9 hk9 hX9 H8 K8 X8 G8 A8
          by_cases hz9 : x9 = 0
          · have d9 : (x9 == 0) = true := by simpa using hz9
            clear hz9
            have q1 : 0 ≤ (t + 1 + x8) % (1000) ∧ (t + 1 + x8) % (1000) < 1000 := ⟨Int.emod_nonneg _ (by omega), Int.emod_lt_of_pos _ (by omega)⟩
            go_wp2_with fail
            go_quiet (fail)
            have hb9 := below_drewN (Below.refl w9.heap.size w9) nq
            generalize w9.drewN nq = wV at hb9 ⊢
            have XV : Hid (Holds wV w4.heap.size 50 #[.int .i64 (1000), .int .i64 x3, .int .i64 x4, .int .i64 (100000), v]) := X9.out.below hb9
            have GV : Hid (Holds wV w.heap.size 50 #[.int .i64 0, .int .i64 0, .int .i64 0, .int .i64 0, .slice none 0 0]) := G9.out.below hb9
            have AV : Hid (Acc wV (w4.heap.size + 1) 3 1 v nums.length (nums.map (Value.int .i64))) := A9.out.below hb9
            have HV : Hid (Rd wV R a len cap bs (p' + 1 + 1)) := H9.out.below hb9
            have KV : Hid (Keeps R w wV) := K9.out.trans (Keeps.of_below hb9)
            clear hb9 X9 G9 A9 H9 K9 c1
            have q2 : 0 ≤ (x3 - (t + 1 + x8)) % (1000) ∧ (x3 - (t + 1 + x8)) % (1000) < 1000 := ⟨Int.emod_nonneg _ (by omega), Int.emod_lt_of_pos _ (by omega)⟩
            obtain ⟨Z, hZ⟩ : ∃ Z, Z = t + 1 + x8 + (x3 - (t + 1 + x8)) % (1000) := ⟨_, rfl⟩
            rw [← hZ]
            have hZ0 : 0 ≤ Z ∧ Z ≤ t + 1 + x8 + 1000 := by omega
            clear hZ q1 q2
            try rw [wrap64_id Z (by omega) (by omega)]
            have dle : decide (Z ≤ 100000) = true := decide_eq_true (by omega)
            have hXl := Holds.lt XV.out
            have c4 := XV.out.cell 4
            simp at c4
            go_wp2_with (at_builtin; refine Cal.wp_acc_int rfl _ _ rfl (w4.heap.size + 1) _ _ nums rfl (AV.out.alloc _) ⟨_, 0, none⟩ 1 (Z) rfl ?c1 ?c2 ?c3 ?_)
            case c1 => simp
            case c2 => omega
            case c3 => simp; omega
            intro v1 wa hA1 hg
            obtain ⟨a1, n1, cp1, rfl⟩ : ∃ a n c, v1 = .slice a n c := by obtain ⟨x, y, h⟩ := hA1.row.form; exact ⟨_, _, _, h⟩
            have hH1 : Holds wa w4.heap.size 50 #[.int .i64 (1000), .int .i64 x3, .int .i64 x4, .int .i64 (100000), v] := Cal.holds_later (XV.out.below ((Below.refl _ _).alloc (Nat.le_refl _) _)) hg (Nat.lt_succ_self _)
            have k4 := hH1.cell 4
            have k5 := hH1.frozen 4
            simp at k4
            have X1 : Hid _ := hH1.set 4 (.slice a1 n1 cp1)
            have A1 : Hid (Acc (wa.setCell ⟨w4.heap.size, 4, none⟩ (.slice a1 n1 cp1)) _ _ _ _ _ _) := Cal.acc_setElse hA1 (p := ⟨w4.heap.size, 4, none⟩) (Nat.lt_succ_self _) (.slice a1 n1 cp1)
            have G1 : Hid (Holds (wa.setCell ⟨w4.heap.size, 4, none⟩ (.slice a1 n1 cp1)) w.heap.size 50 #[.int .i64 0, .int .i64 0, .int .i64 0, .int .i64 0, .slice none 0 0]) := Cal.holds_else (Cal.holds_later (GV.out.below ((Below.refl _ _).alloc (Nat.le_refl _) _)) hg (by omega)) 4 _ hXG
            have R1 : Hid (Rd (wa.setCell ⟨w4.heap.size, 4, none⟩ (.slice a1 n1 cp1)) R a len cap bs (p' + 1 + 1)) := (Rd.later (HV.out.alloc _) hg (by omega)).set hlt4 _
            have K1 : Hid (Keeps R w (wa.setCell ⟨w4.heap.size, 4, none⟩ (.slice a1 n1 cp1))) := ((KV.out.trans (Keeps.of_below ((Below.refl _ _).alloc (Nat.le_refl _) _))).grow hg (by omega)).set (by omega) _
            clear hA1 hg hH1
            go_wp2_with fail
            go_roundw
            case rel => exact ⟨Z, m - 1, nums ++ [Z], _, _, rfl, by congr 1; omega, by omega, by omega, by omega, by simp; omega, (fun z hz => by rcases List.mem_append.1 hz with hz | hz; exact HNB.out z hz; simp only [List.mem_singleton] at hz; omega), X1.out, by rw [List.length_append, List.map_append]; exact A1.out, G1.out, R1.out, by omega, by omega, K1.out⟩
            case measure => simp [intOf]; omega
          · have d9 : (x9 == 0) = false := by simpa using hz9
            clear hz9 c1
            have dle : decide (t + 1 + x8 ≤ 100000) = true := decide_eq_true (by omega)
            have XV : Hid (Holds w9 w4.heap.size 50 #[.int .i64 (1000), .int .i64 x3, .int .i64 x4, .int .i64 (100000), v]) := X9.out
            have GV : Hid (Holds w9 w.heap.size 50 #[.int .i64 0, .int .i64 0, .int .i64 0, .int .i64 0, .slice none 0 0]) := G9.out
            have AV : Hid (Acc w9 (w4.heap.size + 1) 3 1 v nums.length (nums.map (Value.int .i64))) := A9.out
            have HV : Hid (Rd w9 R a len cap bs (p' + 1 + 1)) := H9.out
            have KV : Hid (Keeps R w w9) := K9.out
            clear X9 G9 A9 H9 K9
            have hXl := Holds.lt XV.out
            have c4 := XV.out.cell 4
            simp at c4
            go_wp2_with (at_builtin; refine Cal.wp_acc_int rfl _ _ rfl (w4.heap.size + 1) _ _ nums rfl (AV.out.alloc _) ⟨_, 0, none⟩ 1 (t + 1 + x8) rfl ?c1 ?c2 ?c3 ?_)
            case c1 => simp
            case c2 => omega
            case c3 => simp; omega
            intro v1 wa hA1 hg
            obtain ⟨a1, n1, cp1, rfl⟩ : ∃ a n c, v1 = .slice a n c := by obtain ⟨x, y, h⟩ := hA1.row.form; exact ⟨_, _, _, h⟩
            have hH1 : Holds wa w4.heap.size 50 #[.int .i64 (1000), .int .i64 x3, .int .i64 x4, .int .i64 (100000), v] := Cal.holds_later (XV.out.below ((Below.refl _ _).alloc (Nat.le_refl _) _)) hg (Nat.lt_succ_self _)
            have k4 := hH1.cell 4
            have k5 := hH1.frozen 4
            simp at k4
            have X1 : Hid _ := hH1.set 4 (.slice a1 n1 cp1)
            have A1 : Hid (Acc (wa.setCell ⟨w4.heap.size, 4, none⟩ (.slice a1 n1 cp1)) _ _ _ _ _ _) := Cal.acc_setElse hA1 (p := ⟨w4.heap.size, 4, none⟩) (Nat.lt_succ_self _) (.slice a1 n1 cp1)
            have G1 : Hid (Holds (wa.setCell ⟨w4.heap.size, 4, none⟩ (.slice a1 n1 cp1)) w.heap.size 50 #[.int .i64 0, .int .i64 0, .int .i64 0, .int .i64 0, .slice none 0 0]) := Cal.holds_else (Cal.holds_later (GV.out.below ((Below.refl _ _).alloc (Nat.le_refl _) _)) hg (by omega)) 4 _ hXG
            have R1 : Hid (Rd (wa.setCell ⟨w4.heap.size, 4, none⟩ (.slice a1 n1 cp1)) R a len cap bs (p' + 1 + 1)) := (Rd.later (HV.out.alloc _) hg (by omega)).set hlt4 _
            have K1 : Hid (Keeps R w (wa.setCell ⟨w4.heap.size, 4, none⟩ (.slice a1 n1 cp1))) := ((KV.out.trans (Keeps.of_below ((Below.refl _ _).alloc (Nat.le_refl _) _))).grow hg (by omega)).set (by omega) _
            clear hA1 hg hH1
            go_wp2_with fail
            go_roundw
            case rel => exact ⟨t + 1 + x8, m - 1, nums ++ [t + 1 + x8], _, _, rfl, by congr 1; omega, by omega, by omega, by omega, by simp; omega, (fun z hz => by rcases List.mem_append.1 hz with hz | hz; exact HNB.out z hz; simp only [List.mem_singleton] at hz; omega), X1.out, by rw [List.length_append, List.map_append]; exact A1.out, G1.out, R1.out, by omega, by omega, K1.out⟩
            case measure => simp [intOf]; omega
        · have hm0 : m = 0 := by omega
          subst hm0
          obtain ⟨a1, n1, cp1, rfl⟩ : ∃ a n c, v = .slice a n c := by obtain ⟨x, y, h⟩ := HA.out.row.form; exact ⟨_, _, _, h⟩
          have HAB : Hid (0 < n1 → ∀ b off, a1 = some ⟨b, off, none⟩ → w4.heap.size + 1 ≤ b) := Cal.acc_far HA.out
          obtain ⟨hir, hn1⟩ := Cal.isRow_of_row HA.out.row (fun x hx => Cal.wf_small (by have := HNB.out x hx; omega))
          have HIR : Hid (IsRow .i64 wr a1 n1 cp1 nums) := hir
          have HR' : Hid (Rd wr R a len cap bs p') := HR.out
          obtain ⟨e0, e1, e2, e3, e4⟩ := Cal.five HX.out
          obtain ⟨r0, r1, r2, r3, r4⟩ := Cal.five HG.out
          have f0 := HG.out.frozen 0
          have f1 := HG.out.frozen 1
          have f2 := HG.out.frozen 2
          have f3 := HG.out.frozen 3
          have f4 := HG.out.frozen 4
          have HGG : Hid (Holds wr w.heap.size 50 #[.int .i64 0, .int .i64 0, .int .i64 0, .int .i64 0, .slice none 0 0]) := HG.out
          clear hir hn1 HX HA HG HR
          go_wp2_with fail
          obtain ⟨cur', qh, _, _, q0, q1, q2, q3, q4⟩ := HGG.out.set5 0 (.int .i64 (1000)) (.int .i64 x3) (.int .i64 x4) (.int .i64 (100000)) (.slice a1 n1 cp1) (by simp)
          have k0 := (qh.cell 0).trans q0
          have k1 := (qh.cell (0 + 1)).trans q1
          have k2 := (qh.cell (0 + 2)).trans q2
          have k3 := (qh.cell (0 + 3)).trans q3
          have k4 := (qh.cell (0 + 4)).trans q4
          simp only [Nat.zero_add] at k0 k1 k2 k3 k4
          refine bodyPost_ret (v := .agg #[.int .i64 (1000), .int .i64 x3, .int .i64 x4, .int .i64 (100000), .slice a1 n1 cp1]) ?_ rfl ?_
          · simp [results, Tryz.results30, go_sem, k0, k1, k2, k3, k4]
          · refine ⟨⟨1000, x3, x4, 100000, nums⟩, a1, n1, cp1, p', rfl, ⟨a1, n1, cp1, rfl, Cal.isRow_set5far HIR.out (fun hl b' o' e => by have := HAB.out hl b' o' e; omega) _ _ _ _ _, (show (Lit.int .i64 (1000)).wf = true from Cal.wf_small (by omega)), (show (Lit.int .i64 x3).wf = true from Cal.wf_small (by omega)), (show (Lit.int .i64 x4).wf = true from Cal.wf_small (by omega)), (show (Lit.int .i64 (100000)).wf = true from Cal.wf_small (by omega))⟩, ⟨by simp only; omega, by simp only; omega, by simp only; omega, by simp only; omega, by simp only; omega, HNB.out⟩, fun hl b' o' e => by have := HAB.out hl b' o' e; omega, ?_, by omega, by omega, ?_⟩
            · exact ((((HR'.out.set hlt _).set hlt _).set hlt _).set hlt _).set hlt _
            · exact ((((HK.out.set (Nat.le_refl _) _).set (Nat.le_refl _) _).set (Nat.le_refl _) _).set (Nat.le_refl _) _).set (Nat.le_refl _) _
    · have d6 : (x6 == 0) = false := by simpa using hz6
      have H6 : Hid _ := hr6
      have K6 : Hid (Keeps R w w6) := K5.out.trans hk6
      have G6 : Hid (Holds w6 w.heap.size 50 #[.int .i64 0, .int .i64 0, .int .i64 0, .int .i64 0, .slice none 0 0]) := hk6.holds G5.out hneR
      have X6 : Hid (Holds w6 w4.heap.size 50 #[.int .i64 (1000), .int .i64 x3, .int .i64 x4, .int .i64 (x4 + x5), .slice none 0 0]) := hk6.holds X5.out hXR
      clear hr6 hk6 H5 K5 G5 X5 hz6
      have hc2 := (X6.out.cell 2)
      simp at hc2
      go_wp2_with fail
      refine (HP.out (p + 1 + 1 + 1 + 1 + 1 + 1) 4 _ H6.out (by omega) (by omega)).mono ?_
      rintro e w7 ⟨⟨x7, rfl, hs1, hs2, _⟩, hr7, hk7⟩
      have hs2 := hs2 (by omega)
      have X7 : Hid (Holds w7 w4.heap.size 50 #[.int .i64 (1000), .int .i64 x3, .int .i64 x4, .int .i64 (x4 + x5), .slice none 0 0]) := hk7.holds X6.out hXR
      have G7 : Hid (Holds w7 w.heap.size 50 #[.int .i64 0, .int .i64 0, .int .i64 0, .int .i64 0, .slice none 0 0]) := hk7.holds G6.out hneR
      have H7 : Hid _ := hr7
      have K7 : Hid (Keeps R w w7) := K6.out.trans hk7
      clear hr7 hk7 H6 K6 G6 X6 hc2
      obtain ⟨m0, rfl⟩ : ∃ m : Nat, x7 = (m : Int) := ⟨x7.toNat, by omega⟩
      go_wp2_with fail
      go_loopw [5, 6] (fun t5 t6 wr => ∃ (t : Int) (m : Nat) (nums : List Int) (v : Value) (p' : Int), t5 = .int .i64 t ∧ t6 = .int .i64 (m : Int) ∧ m ≤ 3 ∧ 0 ≤ t ∧ t ≤ 40 + 1100 * (3 - (m : Int)) ∧ nums.length + m ≤ 3 ∧ (∀ z ∈ nums, 0 ≤ z ∧ z ≤ 100000) ∧ Holds wr w4.heap.size 50 #[.int .i64 (1000), .int .i64 x3, .int .i64 x4, .int .i64 (x4 + x5), v] ∧ Acc wr (w4.heap.size + 1) 3 1 v nums.length (nums.map (Value.int .i64)) ∧ Holds wr w.heap.size 50 #[.int .i64 0, .int .i64 0, .int .i64 0, .int .i64 0, .slice none 0 0] ∧ Rd wr R a len cap bs p' ∧ p + 7 ≤ p' ∧ p' ≤ p + 7 + 2 * (3 - (m : Int)) ∧ Keeps R w wr) (fun _ t6 _ => (intOf t6).toNat)
      case atStart => exact ⟨x4, m0, [], _, _, rfl, rfl, by omega, by omega, by omega, by simp; omega, (fun z hz => by cases hz), X7.out, Acc.nil _ _ _ _, G7.out, H7.out, by omega, by omega, K7.out⟩
      case round =>
        clear X7 G7 H7 K7
        obtain ⟨t, m, nums, v, p', rfl, rfl, hm3, ht0, ht1, hnm, hnb, hX, hA, hG, hR, hp1, hp2, hK⟩ := hrel
        have HX : Hid (Holds wr w4.heap.size 50 #[.int .i64 (1000), .int .i64 x3, .int .i64 x4, .int .i64 (x4 + x5), v]) := hX
        have HA : Hid (Acc wr (w4.heap.size + 1) 3 1 v nums.length (nums.map (Value.int .i64))) := hA
        have HG : Hid (Holds wr w.heap.size 50 #[.int .i64 0, .int .i64 0, .int .i64 0, .int .i64 0, .slice none 0 0]) := hG
        have HR : Hid (Rd wr R a len cap bs p') := hR
        have HK : Hid (Keeps R w wr) := hK
        have HNB : Hid (∀ z ∈ nums, 0 ≤ z ∧ z ≤ 100000) := hnb
        clear hX hA hG hR hK hnb
        by_cases hm : 0 < m
        · have dm : decide ((0 : Int) < (m : Int)) = true := decide_eq_true (by omega)
          go_wp2_with fail
          refine (HP.out p' 20 _ HR.out (by omega) (by omega)).mono ?_
          rintro e w8 ⟨⟨x8, rfl, hb1, hb2, _⟩, hr8, hk8⟩
          have hb2 := hb2 (by omega)
          have X8 : Hid (Holds w8 w4.heap.size 50 #[.int .i64 (1000), .int .i64 x3, .int .i64 x4, .int .i64 (x4 + x5), v]) := hk8.holds HX.out hXR
          have G8 : Hid (Holds w8 w.heap.size 50 #[.int .i64 0, .int .i64 0, .int .i64 0, .int .i64 0, .slice none 0 0]) := hk8.holds HG.out hneR
          have A8 : Hid (Acc w8 (w4.heap.size + 1) 3 1 v nums.length (nums.map (Value.int .i64))) := acc_keeps HA.out hk8 (by omega)
          have H8 : Hid _ := hr8
          have K8 : Hid (Keeps R w w8) := HK.out.trans hk8
          clear hr8 hk8 HX HA HG HR HK
          go_wp2_with fail
          refine (HP.out (p' + 1) 2 _ H8.out (by omega) (by omega)).mono ?_
          rintro e w9 ⟨⟨x9, rfl, hc1, hc2, _⟩, hr9, hk9⟩
          clear hc2
          have hX9 : Holds w9 w4.heap.size 50 #[.int .i64 (1000), .int .i64 x3, .int .i64 x4, .int .i64 (x4 + x5), v] := hk9.holds X8.out hXR
          have c1 := hX9.cell 1
          simp at c1
          have X9 : Hid (Holds w9 w4.heap.size 50 #[.int .i64 (1000), .int .i64 x3, .int .i64 x4, .int .i64 (x4 + x5), v]) := hX9
          have G9 : Hid (Holds w9 w.heap.size 50 #[.int .i64 0, .int .i64 0, .int .i64 0, .int .i64 0, .slice none 0 0]) := hk9.holds G8.out hneR
          have A9 : Hid (Acc w9 (w4.heap.size + 1) 3 1 v nums.length (nums.map (Value.int .i64))) := acc_keeps A8.out hk9 (by omega)
          have H9 : Hid (Rd w9 R a len cap bs (p' + 1 + 1)) := hr9
          have K9 : Hid (Keeps R w w9) := K8.out.trans hk9
          clear hr9 hk9 hX9 H8 K8 X8 G8 A8
          by_cases hz9 : x9 = 0
          · have d9 : (x9 == 0) = true := by simpa using hz9
            clear hz9
            have q1 : 0 ≤ (t + 1 + x8) % (1000) ∧ (t + 1 + x8) % (1000) < 1000 := ⟨Int.emod_nonneg _ (by omega), Int.emod_lt_of_pos _ (by omega)⟩
            go_wp2_with fail
            go_quiet (fail)
            have hb9 := below_drewN (Below.refl w9.heap.size w9) nq
            generalize w9.drewN nq = wV at hb9 ⊢
            have XV : Hid (Holds wV w4.heap.size 50 #[.int .i64 (1000), .int .i64 x3, .int .i64 x4, .int .i64 (x4 + x5), v]) := X9.out.below hb9
            have GV : Hid (Holds wV w.heap.size 50 #[.int .i64 0, .int .i64 0, .int .i64 0, .int .i64 0, .slice none 0 0]) := G9.out.below hb9
            have AV : Hid (Acc wV (w4.heap.size + 1) 3 1 v nums.length (nums.map (Value.int .i64))) := A9.out.below hb9
            have HV : Hid (Rd wV R a len cap bs (p' + 1 + 1)) := H9.out.below hb9
            have KV : Hid (Keeps R w wV) := K9.out.trans (Keeps.of_below hb9)
            clear hb9 X9 G9 A9 H9 K9 c1
            have q2 : 0 ≤ (x3 - (t + 1 + x8)) % (1000) ∧ (x3 - (t + 1 + x8)) % (1000) < 1000 := ⟨Int.emod_nonneg _ (by omega), Int.emod_lt_of_pos _ (by omega)⟩
            obtain ⟨Z, hZ⟩ : ∃ Z, Z = t + 1 + x8 + (x3 - (t + 1 + x8)) % (1000) := ⟨_, rfl⟩
            rw [← hZ]
            have hZ0 : 0 ≤ Z ∧ Z ≤ t + 1 + x8 + 1000 := by omega
            clear hZ q1 q2
            try rw [wrap64_id Z (by omega) (by omega)]
            have dle : decide (Z ≤ 100000) = true := decide_eq_true (by omega)
            have hXl := Holds.lt XV.out
            have c4 := XV.out.cell 4
            simp at c4
            go_wp2_with (at_builtin; refine Cal.wp_acc_int rfl _ _ rfl (w4.heap.size + 1) _ _ nums rfl (AV.out.alloc _) ⟨_, 0, none⟩ 1 (Z) rfl ?c1 ?c2 ?c3 ?_)
            case c1 => simp
            case c2 => omega
            case c3 => simp; omega
            intro v1 wa hA1 hg
            obtain ⟨a1, n1, cp1, rfl⟩ : ∃ a n c, v1 = .slice a n c := by obtain ⟨x, y, h⟩ := hA1.row.form; exact ⟨_, _, _, h⟩
            have hH1 : Holds wa w4.heap.size 50 #[.int .i64 (1000), .int .i64 x3, .int .i64 x4, .int .i64 (x4 + x5), v] := Cal.holds_later (XV.out.below ((Below.refl _ _).alloc (Nat.le_refl _) _)) hg (Nat.lt_succ_self _)
            have k4 := hH1.cell 4
            have k5 := hH1.frozen 4
            simp at k4
            have X1 : Hid _ := hH1.set 4 (.slice a1 n1 cp1)
            have A1 : Hid (Acc (wa.setCell ⟨w4.heap.size, 4, none⟩ (.slice a1 n1 cp1)) _ _ _ _ _ _) := Cal.acc_setElse hA1 (p := ⟨w4.heap.size, 4, none⟩) (Nat.lt_succ_self _) (.slice a1 n1 cp1)
            have G1 : Hid (Holds (wa.setCell ⟨w4.heap.size, 4, none⟩ (.slice a1 n1 cp1)) w.heap.size 50 #[.int .i64 0, .int .i64 0, .int .i64 0, .int .i64 0, .slice none 0 0]) := Cal.holds_else (Cal.holds_later (GV.out.below ((Below.refl _ _).alloc (Nat.le_refl _) _)) hg (by omega)) 4 _ hXG
            have R1 : Hid (Rd (wa.setCell ⟨w4.heap.size, 4, none⟩ (.slice a1 n1 cp1)) R a len cap bs (p' + 1 + 1)) := (Rd.later (HV.out.alloc _) hg (by omega)).set hlt4 _
            have K1 : Hid (Keeps R w (wa.setCell ⟨w4.heap.size, 4, none⟩ (.slice a1 n1 cp1))) := ((KV.out.trans (Keeps.of_below ((Below.refl _ _).alloc (Nat.le_refl _) _))).grow hg (by omega)).set (by omega) _
            clear hA1 hg hH1
            go_wp2_with fail
            go_roundw
            case rel => exact ⟨Z, m - 1, nums ++ [Z], _, _, rfl, by congr 1; omega, by omega, by omega, by omega, by simp; omega, (fun z hz => by rcases List.mem_append.1 hz with hz | hz; exact HNB.out z hz; simp only [List.mem_singleton] at hz; omega), X1.out, by rw [List.length_append, List.map_append]; exact A1.out, G1.out, R1.out, by omega, by omega, K1.out⟩
            case measure => simp [intOf]; omega
          · have d9 : (x9 == 0) = false := by simpa using hz9
            clear hz9 c1
            have dle : decide (t + 1 + x8 ≤ 100000) = true := decide_eq_true (by omega)
            have XV : Hid (Holds w9 w4.heap.size 50 #[.int .i64 (1000), .int .i64 x3, .int .i64 x4, .int .i64 (x4 + x5), v]) := X9.out
            have GV : Hid (Holds w9 w.heap.size 50 #[.int .i64 0, .int .i64 0, .int .i64 0, .int .i64 0, .slice none 0 0]) := G9.out
            have AV : Hid (Acc w9 (w4.heap.size + 1) 3 1 v nums.length (nums.map (Value.int .i64))) := A9.out
            have HV : Hid (Rd w9 R a len cap bs (p' + 1 + 1)) := H9.out
            have KV : Hid (Keeps R w w9) := K9.out
            clear X9 G9 A9 H9 K9
            have hXl := Holds.lt XV.out
            have c4 := XV.out.cell 4
            simp at c4
            go_wp2_with (at_builtin; refine Cal.wp_acc_int rfl _ _ rfl (w4.heap.size + 1) _ _ nums rfl (AV.out.alloc _) ⟨_, 0, none⟩ 1 (t + 1 + x8) rfl ?c1 ?c2 ?c3 ?_)
            case c1 => simp
            case c2 => omega
            case c3 => simp; omega
            intro v1 wa hA1 hg
            obtain ⟨a1, n1, cp1, rfl⟩ : ∃ a n c, v1 = .slice a n c := by obtain ⟨x, y, h⟩ := hA1.row.form; exact ⟨_, _, _, h⟩
            have hH1 : Holds wa w4.heap.size 50 #[.int .i64 (1000), .int .i64 x3, .int .i64 x4, .int .i64 (x4 + x5), v] := Cal.holds_later (XV.out.below ((Below.refl _ _).alloc (Nat.le_refl _) _)) hg (Nat.lt_succ_self _)
            have k4 := hH1.cell 4
            have k5 := hH1.frozen 4
            simp at k4
            have X1 : Hid _ := hH1.set 4 (.slice a1 n1 cp1)
            have A1 : Hid (Acc (wa.setCell ⟨w4.heap.size, 4, none⟩ (.slice a1 n1 cp1)) _ _ _ _ _ _) := Cal.acc_setElse hA1 (p := ⟨w4.heap.size, 4, none⟩) (Nat.lt_succ_self _) (.slice a1 n1 cp1)
            have G1 : Hid (Holds (wa.setCell ⟨w4.heap.size, 4, none⟩ (.slice a1 n1 cp1)) w.heap.size 50 #[.int .i64 0, .int .i64 0, .int .i64 0, .int .i64 0, .slice none 0 0]) := Cal.holds_else (Cal.holds_later (GV.out.below ((Below.refl _ _).alloc (Nat.le_refl _) _)) hg (by omega)) 4 _ hXG
            have R1 : Hid (Rd (wa.setCell ⟨w4.heap.size, 4, none⟩ (.slice a1 n1 cp1)) R a len cap bs (p' + 1 + 1)) := (Rd.later (HV.out.alloc _) hg (by omega)).set hlt4 _
            have K1 : Hid (Keeps R w (wa.setCell ⟨w4.heap.size, 4, none⟩ (.slice a1 n1 cp1))) := ((KV.out.trans (Keeps.of_below ((Below.refl _ _).alloc (Nat.le_refl _) _))).grow hg (by omega)).set (by omega) _
            clear hA1 hg hH1
            go_wp2_with fail
            go_roundw
            case rel => exact ⟨t + 1 + x8, m - 1, nums ++ [t + 1 + x8], _, _, rfl, by congr 1; omega, by omega, by omega, by omega, by simp; omega, (fun z hz => by rcases List.mem_append.1 hz with hz | hz; exact HNB.out z hz; simp only [List.mem_singleton] at hz; omega), X1.out, by rw [List.length_append, List.map_append]; exact A1.out, G1.out, R1.out, by omega, by omega, K1.out⟩
            case measure => simp [intOf]; omega
        · have hm0 : m = 0 := by omega
          subst hm0
          obtain ⟨a1, n1, cp1, rfl⟩ : ∃ a n c, v = .slice a n c := by obtain ⟨x, y, h⟩ := HA.out.row.form; exact ⟨_, _, _, h⟩
          have HAB : Hid (0 < n1 → ∀ b off, a1 = some ⟨b, off, none⟩ → w4.heap.size + 1 ≤ b) := Cal.acc_far HA.out
          obtain ⟨hir, hn1⟩ := Cal.isRow_of_row HA.out.row (fun x hx => Cal.wf_small (by have := HNB.out x hx; omega))
          have HIR : Hid (IsRow .i64 wr a1 n1 cp1 nums) := hir
          have HR' : Hid (Rd wr R a len cap bs p') := HR.out
          obtain ⟨e0, e1, e2, e3, e4⟩ := Cal.five HX.out
          obtain ⟨r0, r1, r2, r3, r4⟩ := Cal.five HG.out
          have f0 := HG.out.frozen 0
          have f1 := HG.out.frozen 1
          have f2 := HG.out.frozen 2
          have f3 := HG.out.frozen 3
          have f4 := HG.out.frozen 4
          have HGG : Hid (Holds wr w.heap.size 50 #[.int .i64 0, .int .i64 0, .int .i64 0, .int .i64 0, .slice none 0 0]) := HG.out
          clear hir hn1 HX HA HG HR
          go_wp2_with fail
          obtain ⟨cur', qh, _, _, q0, q1, q2, q3, q4⟩ := HGG.out.set5 0 (.int .i64 (1000)) (.int .i64 x3) (.int .i64 x4) (.int .i64 (x4 + x5)) (.slice a1 n1 cp1) (by simp)
          have k0 := (qh.cell 0).trans q0
          have k1 := (qh.cell (0 + 1)).trans q1
          have k2 := (qh.cell (0 + 2)).trans q2
          have k3 := (qh.cell (0 + 3)).trans q3
          have k4 := (qh.cell (0 + 4)).trans q4
          simp only [Nat.zero_add] at k0 k1 k2 k3 k4
          refine bodyPost_ret (v := .agg #[.int .i64 (1000), .int .i64 x3, .int .i64 x4, .int .i64 (x4 + x5), .slice a1 n1 cp1]) ?_ rfl ?_
          · simp [results, Tryz.results30, go_sem, k0, k1, k2, k3, k4]
          · refine ⟨⟨1000, x3, x4, x4 + x5, nums⟩, a1, n1, cp1, p', rfl, ⟨a1, n1, cp1, rfl, Cal.isRow_set5far HIR.out (fun hl b' o' e => by have := HAB.out hl b' o' e; omega) _ _ _ _ _, (show (Lit.int .i64 (1000)).wf = true from Cal.wf_small (by omega)), (show (Lit.int .i64 x3).wf = true from Cal.wf_small (by omega)), (show (Lit.int .i64 x4).wf = true from Cal.wf_small (by omega)), (show (Lit.int .i64 (x4 + x5)).wf = true from Cal.wf_small (by omega))⟩, ⟨by simp only; omega, by simp only; omega, by simp only; omega, by simp only; omega, by simp only; omega, HNB.out⟩, fun hl b' o' e => by have := HAB.out hl b' o' e; omega, ?_, by omega, by omega, ?_⟩
            · exact ((((HR'.out.set hlt _).set hlt _).set hlt _).set hlt _).set hlt _
            · exact ((((HK.out.set (Nat.le_refl _) _).set (Nat.le_refl _) _).set (Nat.le_refl _) _).set (Nat.le_refl _) _).set (Nat.le_refl _) _
  · have d0 : (x2 == 0) = false := by simpa using hz
    clear hz
    go_wp2_with fail
    refine (HP.out (p + 1 + 1) (1 + x1) _ H2.out (by omega) (by omega)).mono ?_
    rintro e w3 ⟨⟨x3, rfl, ha1, ha2, _⟩, hr3, hk3⟩
    have ha2 := ha2 (by omega)
    have H3 : Hid _ := hr3
    have K3 : Hid (Keeps R w w3) := K2.out.trans hk3
    have G3 : Hid (Holds w3 w.heap.size 50 #[.int .i64 0, .int .i64 0, .int .i64 0, .int .i64 0, .slice none 0 0]) := hk3.holds G2.out hneR
    clear hr3 hk3 H2 K2 G2
    go_wp2_with fail
    refine (HP.out (p + 1 + 1 + 1) 40 _ H3.out (by omega) (by omega)).mono ?_
    rintro e w4 ⟨⟨x4, rfl, hf1, hf2, _⟩, hr4, hk4⟩
    have hf2 := hf2 (by omega)
    have hlt4 : R < w4.heap.size := hr4.lt
    have H4 : Hid (Rd ((w4.alloc (.cells #[.int .i64 (1 + x1), .int .i64 x3, .int .i64 x4, .int .i64 0, .slice none 0 0] 50)).drew) R a len cap bs (p + 1 + 1 + 1 + 1)) := (hr4.alloc _).below (Below.refl _ _).drew
    have hs4 : w.heap.size < w4.heap.size := Nat.lt_of_lt_of_le (Holds.lt G3.out) hk4.size
    have K4 : Hid (Keeps R w ((w4.alloc (.cells #[.int .i64 (1 + x1), .int .i64 x3, .int .i64 x4, .int .i64 0, .slice none 0 0] 50)).drew)) := (K3.out.trans hk4).grow ((Below.refl w4.heap.size w4).alloc (Nat.le_refl _) _).drew (by omega)
    have G4 : Hid (Holds ((w4.alloc (.cells #[.int .i64 (1 + x1), .int .i64 x3, .int .i64 x4, .int .i64 0, .slice none 0 0] 50)).drew) w.heap.size 50 #[.int .i64 0, .int .i64 0, .int .i64 0, .int .i64 0, .slice none 0 0]) := (hk4.holds G3.out hneR).below ((Below.refl _ _).alloc (Nat.le_refl _) _).drew
    have X4 : Hid (Holds ((w4.alloc (.cells #[.int .i64 (1 + x1), .int .i64 x3, .int .i64 x4, .int .i64 0, .slice none 0 0] 50)).drew) w4.heap.size 50 #[.int .i64 (1 + x1), .int .i64 x3, .int .i64 x4, .int .i64 0, .slice none 0 0]) := heap_alloc_new _ _
    have hXR : w4.heap.size ≠ R := by omega
    have hXG : w.heap.size ≠ w4.heap.size := by omega
    clear hr4 hk4 H3 K3 G3
    go_wp2_with fail
    go_region_held3 (fun w' => w'.cell? ⟨w4.heap.size, 2, none⟩ = some (.int .i64 x4)) (first | (simp [go_sem]; done) | exact hS5 | (simp [go_sem, hS5]; done))
      (first | (go_at_call 15; refine (HP.out (p + 1 + 1 + 1 + 1) 120 _ H4.out (by omega) (by omega)).mono ?_; rintro e w5 ⟨⟨x5, rfl, hq1, hq2, _⟩, hr5, hk5⟩; have hX5 := hk5.holds X4.out hXR; have hS5 : w5.cell? ⟨w4.heap.size, 2, none⟩ = some (.int .i64 x4) := (hX5.cell 2).trans rfl; have u3 := hX5.cell 3; have u3f := hX5.frozen 3; simp at u3))
    have hq2 := hq2 (by omega)
    have ew : IntKind.i64.wrap (x4 + x5) = x4 + x5 := by rw [IntKind.wrap_i64]; omega
    rw [ew]
    have H5 : Hid (Rd (w5.setCell ⟨w4.heap.size, 3, none⟩ (.int .i64 (x4 + x5))) R a len cap bs (p + 1 + 1 + 1 + 1 + 1)) := hr5.set hlt4 _
    have K5 : Hid (Keeps R w (w5.setCell ⟨w4.heap.size, 3, none⟩ (.int .i64 (x4 + x5)))) := (K4.out.trans hk5).set (by omega) _
    have G5 : Hid (Holds (w5.setCell ⟨w4.heap.size, 3, none⟩ (.int .i64 (x4 + x5))) w.heap.size 50 #[.int .i64 0, .int .i64 0, .int .i64 0, .int .i64 0, .slice none 0 0]) := Cal.holds_else (hk5.holds G4.out hneR) 3 _ hXG
    have X5 : Hid (Holds (w5.setCell ⟨w4.heap.size, 3, none⟩ (.int .i64 (x4 + x5))) w4.heap.size 50 #[.int .i64 (1 + x1), .int .i64 x3, .int .i64 x4, .int .i64 (x4 + x5), .slice none 0 0]) := hX5.set 3 _
    clear hr5 hk5 hX5 hS5 u3 u3f H4 K4 G4 X4 ew
    go_wp2_with fail
    refine (HP.out (p + 1 + 1 + 1 + 1 + 1) 6 _ H5.out (by omega) (by omega)).mono ?_
    rintro e w6 ⟨⟨x6, rfl, hg1, hg2, _⟩, hr6, hk6⟩
    clear hg2
    by_cases hz6 : x6 = 0
    · have d6 : (x6 == 0) = true := by simpa using hz6
      have hX6 : Holds w6 w4.heap.size 50 #[.int .i64 (1 + x1), .int .i64 x3, .int .i64 x4, .int .i64 (x4 + x5), .slice none 0 0] := hk6.holds X5.out hXR
      have u3 := hX6.cell 3
      have u3f := hX6.frozen 3
      simp at u3
      have H6 : Hid (Rd (w6.setCell ⟨w4.heap.size, 3, none⟩ (.int .i64 100000)) R a len cap bs (p + 1 + 1 + 1 + 1 + 1 + 1)) := hr6.set hlt4 _
      have K6 : Hid (Keeps R w (w6.setCell ⟨w4.heap.size, 3, none⟩ (.int .i64 100000))) := (K5.out.trans hk6).set (by omega) _
      have G6 : Hid (Holds (w6.setCell ⟨w4.heap.size, 3, none⟩ (.int .i64 100000)) w.heap.size 50 #[.int .i64 0, .int .i64 0, .int .i64 0, .int .i64 0, .slice none 0 0]) := Cal.holds_else (hk6.holds G5.out hneR) 3 _ hXG
      have X6 : Hid (Holds (w6.setCell ⟨w4.heap.size, 3, none⟩ (.int .i64 100000)) w4.heap.size 50 #[.int .i64 (1 + x1), .int .i64 x3, .int .i64 x4, .int .i64 100000, .slice none 0 0]) := hX6.set 3 _
      clear hr6 hk6 hX6 H5 K5 G5 X5 hz6
      have hc2 := (X6.out.cell 2)
      simp at hc2
      go_wp2_with fail
      refine (HP.out (p + 1 + 1 + 1 + 1 + 1 + 1) 4 _ H6.out (by omega) (by omega)).mono ?_
      rintro e w7 ⟨⟨x7, rfl, hs1, hs2, _⟩, hr7, hk7⟩
      have hs2 := hs2 (by omega)
      have X7 : Hid (Holds w7 w4.heap.size 50 #[.int .i64 (1 + x1), .int .i64 x3, .int .i64 x4, .int .i64 (100000), .slice none 0 0]) := hk7.holds X6.out hXR
      have G7 : Hid (Holds w7 w.heap.size 50 #[.int .i64 0, .int .i64 0, .int .i64 0, .int .i64 0, .slice none 0 0]) := hk7.holds G6.out hneR
      have H7 : Hid _ := hr7
      have K7 : Hid (Keeps R w w7) := K6.out.trans hk7
      clear hr7 hk7 H6 K6 G6 X6 hc2
      obtain ⟨m0, rfl⟩ : ∃ m : Nat, x7 = (m : Int) := ⟨x7.toNat, by omega⟩
      go_wp2_with fail
      go_loopw [5, 6] (fun t5 t6 wr => ∃ (t : Int) (m : Nat) (nums : List Int) (v : Value) (p' : Int), t5 = .int .i64 t ∧ t6 = .int .i64 (m : Int) ∧ m ≤ 3 ∧ 0 ≤ t ∧ t ≤ 40 + 1100 * (3 - (m : Int)) ∧ nums.length + m ≤ 3 ∧ (∀ z ∈ nums, 0 ≤ z ∧ z ≤ 100000) ∧ Holds wr w4.heap.size 50 #[.int .i64 (1 + x1), .int .i64 x3, .int .i64 x4, .int .i64 (100000), v] ∧ Acc wr (w4.heap.size + 1) 3 1 v nums.length (nums.map (Value.int .i64)) ∧ Holds wr w.heap.size 50 #[.int .i64 0, .int .i64 0, .int .i64 0, .int .i64 0, .slice none 0 0] ∧ Rd wr R a len cap bs p' ∧ p + 7 ≤ p' ∧ p' ≤ p + 7 + 2 * (3 - (m : Int)) ∧ Keeps R w wr) (fun _ t6 _ => (intOf t6).toNat)
      case atStart => exact ⟨x4, m0, [], _, _, rfl, rfl, by omega, by omega, by omega, by simp; omega, (fun z hz => by cases hz), X7.out, Acc.nil _ _ _ _, G7.out, H7.out, by omega, by omega, K7.out⟩
      case round =>
        clear X7 G7 H7 K7
        obtain ⟨t, m, nums, v, p', rfl, rfl, hm3, ht0, ht1, hnm, hnb, hX, hA, hG, hR, hp1, hp2, hK⟩ := hrel
        have HX : Hid (Holds wr w4.heap.size 50 #[.int .i64 (1 + x1), .int .i64 x3, .int .i64 x4, .int .i64 (100000), v]) := hX
        have HA : Hid (Acc wr (w4.heap.size + 1) 3 1 v nums.length (nums.map (Value.int .i64))) := hA
        have HG : Hid (Holds wr w.heap.size 50 #[.int .i64 0, .int .i64 0, .int .i64 0, .int .i64 0, .slice none 0 0]) := hG
        have HR : Hid (Rd wr R a len cap bs p') := hR
        have HK : Hid (Keeps R w wr) := hK
        have HNB : Hid (∀ z ∈ nums, 0 ≤ z ∧ z ≤ 100000) := hnb
        clear hX hA hG hR hK hnb
        by_cases hm : 0 < m
        · have dm : decide ((0 : Int) < (m : Int)) = true := decide_eq_true (by omega)
          go_wp2_with fail
          refine (HP.out p' 20 _ HR.out (by omega) (by omega)).mono ?_
          rintro e w8 ⟨⟨x8, rfl, hb1, hb2, _⟩, hr8, hk8⟩
          have hb2 := hb2 (by omega)
          have X8 : Hid (Holds w8 w4.heap.size 50 #[.int .i64 (1 + x1), .int .i64 x3, .int .i64 x4, .int .i64 (100000), v]) := hk8.holds HX.out hXR
          have G8 : Hid (Holds w8 w.heap.size 50 #[.int .i64 0, .int .i64 0, .int .i64 0, .int .i64 0, .slice none 0 0]) := hk8.holds HG.out hneR
          have A8 : Hid (Acc w8 (w4.heap.size + 1) 3 1 v nums.length (nums.map (Value.int .i64))) := acc_keeps HA.out hk8 (by omega)
          have H8 : Hid _ := hr8
          have K8 : Hid (Keeps R w w8) := HK.out.trans hk8
          clear hr8 hk8 HX HA HG HR HK
          go_wp2_with fail
          refine (HP.out (p' + 1) 2 _ H8.out (by omega) (by omega)).mono ?_
          rintro e w9 ⟨⟨x9, rfl, hc1, hc2, _⟩, hr9, hk9⟩
          clear hc2
          have hX9 : Holds w9 w4.heap.size 50 #[.int .i64 (1 + x1), .int .i64 x3, .int .i64 x4, .int .i64 (100000), v] := hk9.holds X8.out hXR
          have c1 := hX9.cell 1
          simp at c1
          have X9 : Hid (Holds w9 w4.heap.size 50 #[.int .i64 (1 + x1), .int .i64 x3, .int .i64 x4, .int .i64 (100000), v]) := hX9
          have G9 : Hid (Holds w9 w.heap.size 50 #[.int .i64 0, .int .i64 0, .int .i64 0, .int .i64 0, .slice none 0 0]) := hk9.holds G8.out hneR
          have A9 : Hid (Acc w9 (w4.heap.size + 1) 3 1 v nums.length (nums.map (Value.int .i64))) := acc_keeps A8.out hk9 (by omega)
          have H9 : Hid (Rd w9 R a len cap bs (p' + 1 + 1)) := hr9
          have K9 : Hid (Keeps R w w9) := K8.out.trans hk9
          clear hr9 hk9 hX9 H8 K8 X8 G8 A8
          by_cases hz9 : x9 = 0
          · have d9 : (x9 == 0) = true := by simpa using hz9
            clear hz9
            have q1 : 0 ≤ (t + 1 + x8) % (1 + x1) ∧ (t + 1 + x8) % (1 + x1) < 1 + x1 := ⟨Int.emod_nonneg _ (by omega), Int.emod_lt_of_pos _ (by omega)⟩
            go_wp2_with fail
            go_quiet (fail)
            have hb9 := below_drewN (Below.refl w9.heap.size w9) nq
            generalize w9.drewN nq = wV at hb9 ⊢
            have XV : Hid (Holds wV w4.heap.size 50 #[.int .i64 (1 + x1), .int .i64 x3, .int .i64 x4, .int .i64 (100000), v]) := X9.out.below hb9
            have GV : Hid (Holds wV w.heap.size 50 #[.int .i64 0, .int .i64 0, .int .i64 0, .int .i64 0, .slice none 0 0]) := G9.out.below hb9
            have AV : Hid (Acc wV (w4.heap.size + 1) 3 1 v nums.length (nums.map (Value.int .i64))) := A9.out.below hb9
            have HV : Hid (Rd wV R a len cap bs (p' + 1 + 1)) := H9.out.below hb9
            have KV : Hid (Keeps R w wV) := K9.out.trans (Keeps.of_below hb9)
            clear hb9 X9 G9 A9 H9 K9 c1
            have q2 : 0 ≤ (x3 - (t + 1 + x8)) % (1 + x1) ∧ (x3 - (t + 1 + x8)) % (1 + x1) < 1 + x1 := ⟨Int.emod_nonneg _ (by omega), Int.emod_lt_of_pos _ (by omega)⟩
            obtain ⟨Z, hZ⟩ : ∃ Z, Z = t + 1 + x8 + (x3 - (t + 1 + x8)) % (1 + x1) := ⟨_, rfl⟩
            rw [← hZ]
            have hZ0 : 0 ≤ Z ∧ Z ≤ t + 1 + x8 + 1 + x1 := by omega
            clear hZ q1 q2
            try rw [wrap64_id Z (by omega) (by omega)]
            have dle : decide (Z ≤ 100000) = true := decide_eq_true (by omega)
            have hXl := Holds.lt XV.out
            have c4 := XV.out.cell 4
            simp at c4
            go_wp2_with (at_builtin; refine Cal.wp_acc_int rfl _ _ rfl (w4.heap.size + 1) _ _ nums rfl (AV.out.alloc _) ⟨_, 0, none⟩ 1 (Z) rfl ?c1 ?c2 ?c3 ?_)
            case c1 => simp
            case c2 => omega
            case c3 => simp; omega
            intro v1 wa hA1 hg
            obtain ⟨a1, n1, cp1, rfl⟩ : ∃ a n c, v1 = .slice a n c := by obtain ⟨x, y, h⟩ := hA1.row.form; exact ⟨_, _, _, h⟩
            have hH1 : Holds wa w4.heap.size 50 #[.int .i64 (1 + x1), .int .i64 x3, .int .i64 x4, .int .i64 (100000), v] := Cal.holds_later (XV.out.below ((Below.refl _ _).alloc (Nat.le_refl _) _)) hg (Nat.lt_succ_self _)
            have k4 := hH1.cell 4
            have k5 := hH1.frozen 4
            simp at k4
            have X1 : Hid _ := hH1.set 4 (.slice a1 n1 cp1)
            have A1 : Hid (Acc (wa.setCell ⟨w4.heap.size, 4, none⟩ (.slice a1 n1 cp1)) _ _ _ _ _ _) := Cal.acc_setElse hA1 (p := ⟨w4.heap.size, 4, none⟩) (Nat.lt_succ_self _) (.slice a1 n1 cp1)
            have G1 : Hid (Holds (wa.setCell ⟨w4.heap.size, 4, none⟩ (.slice a1 n1 cp1)) w.heap.size 50 #[.int .i64 0, .int .i64 0, .int .i64 0, .int .i64 0, .slice none 0 0]) := Cal.holds_else (Cal.holds_later (GV.out.below ((Below.refl _ _).alloc (Nat.le_refl _) _)) hg (by omega)) 4 _ hXG
            have R1 : Hid (Rd (wa.setCell ⟨w4.heap.size, 4, none⟩ (.slice a1 n1 cp1)) R a len cap bs (p' + 1 + 1)) := (Rd.later (HV.out.alloc _) hg (by omega)).set hlt4 _
            have K1 : Hid (Keeps R w (wa.setCell ⟨w4.heap.size, 4, none⟩ (.slice a1 n1 cp1))) := ((KV.out.trans (Keeps.of_below ((Below.refl _ _).alloc (Nat.le_refl _) _))).grow hg (by omega)).set (by omega) _
            clear hA1 hg hH1
            go_wp2_with fail
            go_roundw
            case rel => exact ⟨Z, m - 1, nums ++ [Z], _, _, rfl, by congr 1; omega, by omega, by omega, by omega, by simp; omega, (fun z hz => by rcases List.mem_append.1 hz with hz | hz; exact HNB.out z hz; simp only [List.mem_singleton] at hz; omega), X1.out, by rw [List.length_append, List.map_append]; exact A1.out, G1.out, R1.out, by omega, by omega, K1.out⟩
            case measure => simp [intOf]; omega
          · have d9 : (x9 == 0) = false := by simpa using hz9
            clear hz9 c1
            have dle : decide (t + 1 + x8 ≤ 100000) = true := decide_eq_true (by omega)
            have XV : Hid (Holds w9 w4.heap.size 50 #[.int .i64 (1 + x1), .int .i64 x3, .int .i64 x4, .int .i64 (100000), v]) := X9.out
            have GV : Hid (Holds w9 w.heap.size 50 #[.int .i64 0, .int .i64 0, .int .i64 0, .int .i64 0, .slice none 0 0]) := G9.out
            have AV : Hid (Acc w9 (w4.heap.size + 1) 3 1 v nums.length (nums.map (Value.int .i64))) := A9.out
            have HV : Hid (Rd w9 R a len cap bs (p' + 1 + 1)) := H9.out
            have KV : Hid (Keeps R w w9) := K9.out
            clear X9 G9 A9 H9 K9
            have hXl := Holds.lt XV.out
            have c4 := XV.out.cell 4
            simp at c4
            go_wp2_with (at_builtin; refine Cal.wp_acc_int rfl _ _ rfl (w4.heap.size + 1) _ _ nums rfl (AV.out.alloc _) ⟨_, 0, none⟩ 1 (t + 1 + x8) rfl ?c1 ?c2 ?c3 ?_)
            case c1 => simp
            case c2 => omega
            case c3 => simp; omega
            intro v1 wa hA1 hg
            obtain ⟨a1, n1, cp1, rfl⟩ : ∃ a n c, v1 = .slice a n c := by obtain ⟨x, y, h⟩ := hA1.row.form; exact ⟨_, _, _, h⟩
            have hH1 : Holds wa w4.heap.size 50 #[.int .i64 (1 + x1), .int .i64 x3, .int .i64 x4, .int .i64 (100000), v] := Cal.holds_later (XV.out.below ((Below.refl _ _).alloc (Nat.le_refl _) _)) hg (Nat.lt_succ_self _)
            have k4 := hH1.cell 4
            have k5 := hH1.frozen 4
            simp at k4
            have X1 : Hid _ := hH1.set 4 (.slice a1 n1 cp1)
            have A1 : Hid (Acc (wa.setCell ⟨w4.heap.size, 4, none⟩ (.slice a1 n1 cp1)) _ _ _ _ _ _) := Cal.acc_setElse hA1 (p := ⟨w4.heap.size, 4, none⟩) (Nat.lt_succ_self _) (.slice a1 n1 cp1)
            have G1 : Hid (Holds (wa.setCell ⟨w4.heap.size, 4, none⟩ (.slice a1 n1 cp1)) w.heap.size 50 #[.int .i64 0, .int .i64 0, .int .i64 0, .int .i64 0, .slice none 0 0]) := Cal.holds_else (Cal.holds_later (GV.out.below ((Below.refl _ _).alloc (Nat.le_refl _) _)) hg (by omega)) 4 _ hXG
            have R1 : Hid (Rd (wa.setCell ⟨w4.heap.size, 4, none⟩ (.slice a1 n1 cp1)) R a len cap bs (p' + 1 + 1)) := (Rd.later (HV.out.alloc _) hg (by omega)).set hlt4 _
            have K1 : Hid (Keeps R w (wa.setCell ⟨w4.heap.size, 4, none⟩ (.slice a1 n1 cp1))) := ((KV.out.trans (Keeps.of_below ((Below.refl _ _).alloc (Nat.le_refl _) _))).grow hg (by omega)).set (by omega) _
            clear hA1 hg hH1
            go_wp2_with fail
            go_roundw
            case rel => exact ⟨t + 1 + x8, m - 1, nums ++ [t + 1 + x8], _, _, rfl, by congr 1; omega, by omega, by omega, by omega, by simp; omega, (fun z hz => by rcases List.mem_append.1 hz with hz | hz; exact HNB.out z hz; simp only [List.mem_singleton] at hz; omega), X1.out, by rw [List.length_append, List.map_append]; exact A1.out, G1.out, R1.out, by omega, by omega, K1.out⟩
            case measure => simp [intOf]; omega
        · have hm0 : m = 0 := by omega
          subst hm0
          obtain ⟨a1, n1, cp1, rfl⟩ : ∃ a n c, v = .slice a n c := by obtain ⟨x, y, h⟩ := HA.out.row.form; exact ⟨_, _, _, h⟩
          have HAB : Hid (0 < n1 → ∀ b off, a1 = some ⟨b, off, none⟩ → w4.heap.size + 1 ≤ b) := Cal.acc_far HA.out
          obtain ⟨hir, hn1⟩ := Cal.isRow_of_row HA.out.row (fun x hx => Cal.wf_small (by have := HNB.out x hx; omega))
          have HIR : Hid (IsRow .i64 wr a1 n1 cp1 nums) := hir
          have HR' : Hid (Rd wr R a len cap bs p') := HR.out
          obtain ⟨e0, e1, e2, e3, e4⟩ := Cal.five HX.out
          obtain ⟨r0, r1, r2, r3, r4⟩ := Cal.five HG.out
          have f0 := HG.out.frozen 0
          have f1 := HG.out.frozen 1
          have f2 := HG.out.frozen 2
          have f3 := HG.out.frozen 3
          have f4 := HG.out.frozen 4
          have HGG : Hid (Holds wr w.heap.size 50 #[.int .i64 0, .int .i64 0, .int .i64 0, .int .i64 0, .slice none 0 0]) := HG.out
          clear hir hn1 HX HA HG HR
          go_wp2_with fail
          obtain ⟨cur', qh, _, _, q0, q1, q2, q3, q4⟩ := HGG.out.set5 0 (.int .i64 (1 + x1)) (.int .i64 x3) (.int .i64 x4) (.int .i64 (100000)) (.slice a1 n1 cp1) (by simp)
          have k0 := (qh.cell 0).trans q0
          have k1 := (qh.cell (0 + 1)).trans q1
          have k2 := (qh.cell (0 + 2)).trans q2
          have k3 := (qh.cell (0 + 3)).trans q3
          have k4 := (qh.cell (0 + 4)).trans q4
          simp only [Nat.zero_add] at k0 k1 k2 k3 k4
          refine bodyPost_ret (v := .agg #[.int .i64 (1 + x1), .int .i64 x3, .int .i64 x4, .int .i64 (100000), .slice a1 n1 cp1]) ?_ rfl ?_
          · simp [results, Tryz.results30, go_sem, k0, k1, k2, k3, k4]
          · refine ⟨⟨1 + x1, x3, x4, 100000, nums⟩, a1, n1, cp1, p', rfl, ⟨a1, n1, cp1, rfl, Cal.isRow_set5far HIR.out (fun hl b' o' e => by have := HAB.out hl b' o' e; omega) _ _ _ _ _, (show (Lit.int .i64 (1 + x1)).wf = true from Cal.wf_small (by omega)), (show (Lit.int .i64 x3).wf = true from Cal.wf_small (by omega)), (show (Lit.int .i64 x4).wf = true from Cal.wf_small (by omega)), (show (Lit.int .i64 (100000)).wf = true from Cal.wf_small (by omega))⟩, ⟨by simp only; omega, by simp only; omega, by simp only; omega, by simp only; omega, by simp only; omega, HNB.out⟩, fun hl b' o' e => by have := HAB.out hl b' o' e; omega, ?_, by omega, by omega, ?_⟩
            · exact ((((HR'.out.set hlt _).set hlt _).set hlt _).set hlt _).set hlt _
            · exact ((((HK.out.set (Nat.le_refl _) _).set (Nat.le_refl _) _).set (Nat.le_refl _) _).set (Nat.le_refl _) _).set (Nat.le_refl _) _
    · have d6 : (x6 == 0) = false := by simpa using hz6
      have H6 : Hid _ := hr6
      have K6 : Hid (Keeps R w w6) := K5.out.trans hk6
      have G6 : Hid (Holds w6 w.heap.size 50 #[.int .i64 0, .int .i64 0, .int .i64 0, .int .i64 0, .slice none 0 0]) := hk6.holds G5.out hneR
      have X6 : Hid (Holds w6 w4.heap.size 50 #[.int .i64 (1 + x1), .int .i64 x3, .int .i64 x4, .int .i64 (x4 + x5), .slice none 0 0]) := hk6.holds X5.out hXR
      clear hr6 hk6 H5 K5 G5 X5 hz6
      have hc2 := (X6.out.cell 2)
      simp at hc2
      go_wp2_with fail
      refine (HP.out (p + 1 + 1 + 1 + 1 + 1 + 1) 4 _ H6.out (by omega) (by omega)).mono ?_
      rintro e w7 ⟨⟨x7, rfl, hs1, hs2, _⟩, hr7, hk7⟩
      have hs2 := hs2 (by omega)
      have X7 : Hid (Holds w7 w4.heap.size 50 #[.int .i64 (1 + x1), .int .i64 x3, .int .i64 x4, .int .i64 (x4 + x5), .slice none 0 0]) := hk7.holds X6.out hXR
      have G7 : Hid (Holds w7 w.heap.size 50 #[.int .i64 0, .int .i64 0, .int .i64 0, .int .i64 0, .slice none 0 0]) := hk7.holds G6.out hneR
      have H7 : Hid _ := hr7
      have K7 : Hid (Keeps R w w7) := K6.out.trans hk7
      clear hr7 hk7 H6 K6 G6 X6 hc2
      obtain ⟨m0, rfl⟩ : ∃ m : Nat, x7 = (m : Int) := ⟨x7.toNat, by omega⟩
      go_wp2_with fail
      go_loopw [5, 6] (fun t5 t6 wr => ∃ (t : Int) (m : Nat) (nums : List Int) (v : Value) (p' : Int), t5 = .int .i64 t ∧ t6 = .int .i64 (m : Int) ∧ m ≤ 3 ∧ 0 ≤ t ∧ t ≤ 40 + 1100 * (3 - (m : Int)) ∧ nums.length + m ≤ 3 ∧ (∀ z ∈ nums, 0 ≤ z ∧ z ≤ 100000) ∧ Holds wr w4.heap.size 50 #[.int .i64 (1 + x1), .int .i64 x3, .int .i64 x4, .int .i64 (x4 + x5), v] ∧ Acc wr (w4.heap.size + 1) 3 1 v nums.length (nums.map (Value.int .i64)) ∧ Holds wr w.heap.size 50 #[.int .i64 0, .int .i64 0, .int .i64 0, .int .i64 0, .slice none 0 0] ∧ Rd wr R a len cap bs p' ∧ p + 7 ≤ p' ∧ p' ≤ p + 7 + 2 * (3 - (m : Int)) ∧ Keeps R w wr) (fun _ t6 _ => (intOf t6).toNat)
      case atStart => exact ⟨x4, m0, [], _, _, rfl, rfl, by omega, by omega, by omega, by simp; omega, (fun z hz => by cases hz), X7.out, Acc.nil _ _ _ _, G7.out, H7.out, by omega, by omega, K7.out⟩
      case round =>
        clear X7 G7 H7 K7
        obtain ⟨t, m, nums, v, p', rfl, rfl, hm3, ht0, ht1, hnm, hnb, hX, hA, hG, hR, hp1, hp2, hK⟩ := hrel
        have HX : Hid (Holds wr w4.heap.size 50 #[.int .i64 (1 + x1), .int .i64 x3, .int .i64 x4, .int .i64 (x4 + x5), v]) := hX
        have HA : Hid (Acc wr (w4.heap.size + 1) 3 1 v nums.length (nums.map (Value.int .i64))) := hA
        have HG : Hid (Holds wr w.heap.size 50 #[.int .i64 0, .int .i64 0, .int .i64 0, .int .i64 0, .slice none 0 0]) := hG
        have HR : Hid (Rd wr R a len cap bs p') := hR
        have HK : Hid (Keeps R w wr) := hK
        have HNB : Hid (∀ z ∈ nums, 0 ≤ z ∧ z ≤ 100000) := hnb
        clear hX hA hG hR hK hnb
        by_cases hm : 0 < m
        · have dm : decide ((0 : Int) < (m : Int)) = true := decide_eq_true (by omega)
          go_wp2_with fail
          refine (HP.out p' 20 _ HR.out (by omega) (by omega)).mono ?_
          rintro e w8 ⟨⟨x8, rfl, hb1, hb2, _⟩, hr8, hk8⟩
          have hb2 := hb2 (by omega)
          have X8 : Hid (Holds w8 w4.heap.size 50 #[.int .i64 (1 + x1), .int .i64 x3, .int .i64 x4, .int .i64 (x4 + x5), v]) := hk8.holds HX.out hXR
          have G8 : Hid (Holds w8 w.heap.size 50 #[.int .i64 0, .int .i64 0, .int .i64 0, .int .i64 0, .slice none 0 0]) := hk8.holds HG.out hneR
          have A8 : Hid (Acc w8 (w4.heap.size + 1) 3 1 v nums.length (nums.map (Value.int .i64))) := acc_keeps HA.out hk8 (by omega)
          have H8 : Hid _ := hr8
          have K8 : Hid (Keeps R w w8) := HK.out.trans hk8
          clear hr8 hk8 HX HA HG HR HK
          go_wp2_with fail
          refine (HP.out (p' + 1) 2 _ H8.out (by omega) (by omega)).mono ?_
          rintro e w9 ⟨⟨x9, rfl, hc1, hc2, _⟩, hr9, hk9⟩
          clear hc2
          have hX9 : Holds w9 w4.heap.size 50 #[.int .i64 (1 + x1), .int .i64 x3, .int .i64 x4, .int .i64 (x4 + x5), v] := hk9.holds X8.out hXR
          have c1 := hX9.cell 1
          simp at c1
          have X9 : Hid (Holds w9 w4.heap.size 50 #[.int .i64 (1 + x1), .int .i64 x3, .int .i64 x4, .int .i64 (x4 + x5), v]) := hX9
          have G9 : Hid (Holds w9 w.heap.size 50 #[.int .i64 0, .int .i64 0, .int .i64 0, .int .i64 0, .slice none 0 0]) := hk9.holds G8.out hneR
          have A9 : Hid (Acc w9 (w4.heap.size + 1) 3 1 v nums.length (nums.map (Value.int .i64))) := acc_keeps A8.out hk9 (by omega)
          have H9 : Hid (Rd w9 R a len cap bs (p' + 1 + 1)) := hr9
          have K9 : Hid (Keeps R w w9) := K8.out.trans hk9
          clear hr9 hk9 hX9 H8 K8 X8 G8 A8
          by_cases hz9 : x9 = 0
          · have d9 : (x9 == 0) = true := by simpa using hz9
            clear hz9
            have q1 : 0 ≤ (t + 1 + x8) % (1 + x1) ∧ (t + 1 + x8) % (1 + x1) < 1 + x1 := ⟨Int.emod_nonneg _ (by omega), Int.emod_lt_of_pos _ (by omega)⟩
            go_wp2_with fail
            go_quiet (fail)
            have hb9 := below_drewN (Below.refl w9.heap.size w9) nq
            generalize w9.drewN nq = wV at hb9 ⊢
            have XV : Hid (Holds wV w4.heap.size 50 #[.int .i64 (1 + x1), .int .i64 x3, .int .i64 x4, .int .i64 (x4 + x5), v]) := X9.out.below hb9
            have GV : Hid (Holds wV w.heap.size 50 #[.int .i64 0, .int .i64 0, .int .i64 0, .int .i64 0, .slice none 0 0]) := G9.out.below hb9
            have AV : Hid (Acc wV (w4.heap.size + 1) 3 1 v nums.length (nums.map (Value.int .i64))) := A9.out.below hb9
            have HV : Hid (Rd wV R a len cap bs (p' + 1 + 1)) := H9.out.below hb9
            have KV : Hid (Keeps R w wV) := K9.out.trans (Keeps.of_below hb9)
            clear hb9 X9 G9 A9 H9 K9 c1
            have q2 : 0 ≤ (x3 - (t + 1 + x8)) % (1 + x1) ∧ (x3 - (t + 1 + x8)) % (1 + x1) < 1 + x1 := ⟨Int.emod_nonneg _ (by omega), Int.emod_lt_of_pos _ (by omega)⟩
            obtain ⟨Z, hZ⟩ : ∃ Z, Z = t + 1 + x8 + (x3 - (t + 1 + x8)) % (1 + x1) := ⟨_, rfl⟩
            rw [← hZ]
            have hZ0 : 0 ≤ Z ∧ Z ≤ t + 1 + x8 + 1 + x1 := by omega
            clear hZ q1 q2
            try rw [wrap64_id Z (by omega) (by omega)]
            have dle : decide (Z ≤ 100000) = true := decide_eq_true (by omega)
            have hXl := Holds.lt XV.out
            have c4 := XV.out.cell 4
            simp at c4
            go_wp2_with (at_builtin; refine Cal.wp_acc_int rfl _ _ rfl (w4.heap.size + 1) _ _ nums rfl (AV.out.alloc _) ⟨_, 0, none⟩ 1 (Z) rfl ?c1 ?c2 ?c3 ?_)
            case c1 => simp
            case c2 => omega
            case c3 => simp; omega
            intro v1 wa hA1 hg
            obtain ⟨a1, n1, cp1, rfl⟩ : ∃ a n c, v1 = .slice a n c := by obtain ⟨x, y, h⟩ := hA1.row.form; exact ⟨_, _, _, h⟩
            have hH1 : Holds wa w4.heap.size 50 #[.int .i64 (1 + x1), .int .i64 x3, .int .i64 x4, .int .i64 (x4 + x5), v] := Cal.holds_later (XV.out.below ((Below.refl _ _).alloc (Nat.le_refl _) _)) hg (Nat.lt_succ_self _)
            have k4 := hH1.cell 4
            have k5 := hH1.frozen 4
            simp at k4
            have X1 : Hid _ := hH1.set 4 (.slice a1 n1 cp1)
            have A1 : Hid (Acc (wa.setCell ⟨w4.heap.size, 4, none⟩ (.slice a1 n1 cp1)) _ _ _ _ _ _) := Cal.acc_setElse hA1 (p := ⟨w4.heap.size, 4, none⟩) (Nat.lt_succ_self _) (.slice a1 n1 cp1)
            have G1 : Hid (Holds (wa.setCell ⟨w4.heap.size, 4, none⟩ (.slice a1 n1 cp1)) w.heap.size 50 #[.int .i64 0, .int .i64 0, .int .i64 0, .int .i64 0, .slice none 0 0]) := Cal.holds_else (Cal.holds_later (GV.out.below ((Below.refl _ _).alloc (Nat.le_refl _) _)) hg (by omega)) 4 _ hXG
            have R1 : Hid (Rd (wa.setCell ⟨w4.heap.size, 4, none⟩ (.slice a1 n1 cp1)) R a len cap bs (p' + 1 + 1)) := (Rd.later (HV.out.alloc _) hg (by omega)).set hlt4 _
            have K1 : Hid (Keeps R w (wa.setCell ⟨w4.heap.size, 4, none⟩ (.slice a1 n1 cp1))) := ((KV.out.trans (Keeps.of_below ((Below.refl _ _).alloc (Nat.le_refl _) _))).grow hg (by omega)).set (by omega) _
            clear hA1 hg hH1
            go_wp2_with fail
            go_roundw
            case rel => exact ⟨Z, m - 1, nums ++ [Z], _, _, rfl, by congr 1; omega, by omega, by omega, by omega, by simp; omega, (fun z hz => by rcases List.mem_append.1 hz with hz | hz; exact HNB.out z hz; simp only [List.mem_singleton] at hz; omega), X1.out, by rw [List.length_append, List.map_append]; exact A1.out, G1.out, R1.out, by omega, by omega, K1.out⟩
            case measure => simp [intOf]; omega
          · have d9 : (x9 == 0) = false := by simpa using hz9
            clear hz9 c1
            have dle : decide (t + 1 + x8 ≤ 100000) = true := decide_eq_true (by omega)
            have XV : Hid (Holds w9 w4.heap.size 50 #[.int .i64 (1 + x1), .int .i64 x3, .int .i64 x4, .int .i64 (x4 + x5), v]) := X9.out
            have GV : Hid (Holds w9 w.heap.size 50 #[.int .i64 0, .int .i64 0, .int .i64 0, .int .i64 0, .slice none 0 0]) := G9.out
            have AV : Hid (Acc w9 (w4.heap.size + 1) 3 1 v nums.length (nums.map (Value.int .i64))) := A9.out
            have HV : Hid (Rd w9 R a len cap bs (p' + 1 + 1)) := H9.out
            have KV : Hid (Keeps R w w9) := K9.out
            clear X9 G9 A9 H9 K9
            have hXl := Holds.lt XV.out
            have c4 := XV.out.cell 4
            simp at c4
            go_wp2_with (at_builtin; refine Cal.wp_acc_int rfl _ _ rfl (w4.heap.size + 1) _ _ nums rfl (AV.out.alloc _) ⟨_, 0, none⟩ 1 (t + 1 + x8) rfl ?c1 ?c2 ?c3 ?_)
            case c1 => simp
            case c2 => omega
            case c3 => simp; omega
            intro v1 wa hA1 hg
            obtain ⟨a1, n1, cp1, rfl⟩ : ∃ a n c, v1 = .slice a n c := by obtain ⟨x, y, h⟩ := hA1.row.form; exact ⟨_, _, _, h⟩
            have hH1 : Holds wa w4.heap.size 50 #[.int .i64 (1 + x1), .int .i64 x3, .int .i64 x4, .int .i64 (x4 + x5), v] := Cal.holds_later (XV.out.below ((Below.refl _ _).alloc (Nat.le_refl _) _)) hg (Nat.lt_succ_self _)
            have k4 := hH1.cell 4
            have k5 := hH1.frozen 4
            simp at k4
            have X1 : Hid _ := hH1.set 4 (.slice a1 n1 cp1)
            have A1 : Hid (Acc (wa.setCell ⟨w4.heap.size, 4, none⟩ (.slice a1 n1 cp1)) _ _ _ _ _ _) := Cal.acc_setElse hA1 (p := ⟨w4.heap.size, 4, none⟩) (Nat.lt_succ_self _) (.slice a1 n1 cp1)
            have G1 : Hid (Holds (wa.setCell ⟨w4.heap.size, 4, none⟩ (.slice a1 n1 cp1)) w.heap.size 50 #[.int .i64 0, .int .i64 0, .int .i64 0, .int .i64 0, .slice none 0 0]) := Cal.holds_else (Cal.holds_later (GV.out.below ((Below.refl _ _).alloc (Nat.le_refl _) _)) hg (by omega)) 4 _ hXG
            have R1 : Hid (Rd (wa.setCell ⟨w4.heap.size, 4, none⟩ (.slice a1 n1 cp1)) R a len cap bs (p' + 1 + 1)) := (Rd.later (HV.out.alloc _) hg (by omega)).set hlt4 _
            have K1 : Hid (Keeps R w (wa.setCell ⟨w4.heap.size, 4, none⟩ (.slice a1 n1 cp1))) := ((KV.out.trans (Keeps.of_below ((Below.refl _ _).alloc (Nat.le_refl _) _))).grow hg (by omega)).set (by omega) _
            clear hA1 hg hH1
            go_wp2_with fail
            go_roundw
            case rel => exact ⟨t + 1 + x8, m - 1, nums ++ [t + 1 + x8], _, _, rfl, by congr 1; omega, by omega, by omega, by omega, by simp; omega, (fun z hz => by rcases List.mem_append.1 hz with hz | hz; exact HNB.out z hz; simp only [List.mem_singleton] at hz; omega), X1.out, by rw [List.length_append, List.map_append]; exact A1.out, G1.out, R1.out, by omega, by omega, K1.out⟩
            case measure => simp [intOf]; omega
        · have hm0 : m = 0 := by omega
          subst hm0
          obtain ⟨a1, n1, cp1, rfl⟩ : ∃ a n c, v = .slice a n c := by obtain ⟨x, y, h⟩ := HA.out.row.form; exact ⟨_, _, _, h⟩
          have HAB : Hid (0 < n1 → ∀ b off, a1 = some ⟨b, off, none⟩ → w4.heap.size + 1 ≤ b) := Cal.acc_far HA.out
          obtain ⟨hir, hn1⟩ := Cal.isRow_of_row HA.out.row (fun x hx => Cal.wf_small (by have := HNB.out x hx; omega))
          have HIR : Hid (IsRow .i64 wr a1 n1 cp1 nums) := hir
          have HR' : Hid (Rd wr R a len cap bs p') := HR.out
          obtain ⟨e0, e1, e2, e3, e4⟩ := Cal.five HX.out
          obtain ⟨r0, r1, r2, r3, r4⟩ := Cal.five HG.out
          have f0 := HG.out.frozen 0
          have f1 := HG.out.frozen 1
          have f2 := HG.out.frozen 2
          have f3 := HG.out.frozen 3
          have f4 := HG.out.frozen 4
          have HGG : Hid (Holds wr w.heap.size 50 #[.int .i64 0, .int .i64 0, .int .i64 0, .int .i64 0, .slice none 0 0]) := HG.out
          clear hir hn1 HX HA HG HR
          go_wp2_with fail
          obtain ⟨cur', qh, _, _, q0, q1, q2, q3, q4⟩ := HGG.out.set5 0 (.int .i64 (1 + x1)) (.int .i64 x3) (.int .i64 x4) (.int .i64 (x4 + x5)) (.slice a1 n1 cp1) (by simp)
          have k0 := (qh.cell 0).trans q0
          have k1 := (qh.cell (0 + 1)).trans q1
          have k2 := (qh.cell (0 + 2)).trans q2
          have k3 := (qh.cell (0 + 3)).trans q3
          have k4 := (qh.cell (0 + 4)).trans q4
          simp only [Nat.zero_add] at k0 k1 k2 k3 k4
          refine bodyPost_ret (v := .agg #[.int .i64 (1 + x1), .int .i64 x3, .int .i64 x4, .int .i64 (x4 + x5), .slice a1 n1 cp1]) ?_ rfl ?_
          · simp [results, Tryz.results30, go_sem, k0, k1, k2, k3, k4]
          · refine ⟨⟨1 + x1, x3, x4, x4 + x5, nums⟩, a1, n1, cp1, p', rfl, ⟨a1, n1, cp1, rfl, Cal.isRow_set5far HIR.out (fun hl b' o' e => by have := HAB.out hl b' o' e; omega) _ _ _ _ _, (show (Lit.int .i64 (1 + x1)).wf = true from Cal.wf_small (by omega)), (show (Lit.int .i64 x3).wf = true from Cal.wf_small (by omega)), (show (Lit.int .i64 x4).wf = true from Cal.wf_small (by omega)), (show (Lit.int .i64 (x4 + x5)).wf = true from Cal.wf_small (by omega))⟩, ⟨by simp only; omega, by simp only; omega, by simp only; omega, by simp only; omega, by simp only; omega, HNB.out⟩, fun hl b' o' e => by have := HAB.out hl b' o' e; omega, ?_, by omega, by omega, ?_⟩
            · exact ((((HR'.out.set hlt _).set hlt _).set hlt _).set hlt _).set hlt _
            · exact ((((HK.out.set (Nat.le_refl _) _).set (Nat.le_refl _) _).set (Nat.le_refl _) _).set (Nat.le_refl _) _).set (Nat.le_refl _) _
end Dr
end Go.Proofs.YtkemfifkjaclhaaGreatDoor
