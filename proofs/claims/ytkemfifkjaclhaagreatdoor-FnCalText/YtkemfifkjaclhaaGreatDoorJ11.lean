/- The reader of drawn inputs: rules that are spoilt. -/
import Derived.Test.YtkemfifkjaclhaaGreatDoorJ10
namespace Go.Proofs.YtkemfifkjaclhaaGreatDoor
set_option linter.unusedVariables false
set_option linter.unusedSimpArgs false
open Go.RowKit Go
namespace Dr
open Cal (cellsR flatR flatR_snoc)
open Pl (wp_callTwo)

/-- What comes of spoiling: rules that can be read, and the reader, not far on. -/
def Spoilt (R : Nat) (a : Option Addr) (len cap : Nat) (bs : List Int) (p : Int) (w : World) (e : Ending) (w' : World) : Prop :=
  ∃ (rs : List Rul) (v : Value) (p' : Int), e = .returned v ∧ GathD w' R w.heap.size v rs ∧ rs.length ≤ 6 ∧ Rd w' R a len cap bs p' ∧ p ≤ p' ∧ p' ≤ p + 40 ∧ Keeps R w w'
theorem gathD_base {w : World} {R F : Nat} {a : Option Addr} {n c : Nat} {es : List Rul} (h : GathD w R F (.slice a n c) es) (hn : es.length = n) (h0 : 0 < n) : ∃ g, a = some ⟨g, 0, none⟩ ∧ n ≤ c ∧ F ≤ g ∧ g < w.heap.size ∧ ∃ cur, Holds w g 50 cur ∧ n * 5 ≤ cur.size := by
  obtain ⟨vs, hv, hA, _⟩ := h
  rcases hA with ⟨h1, _⟩ | h1
  · omega
  · rcases h1.2 with ⟨h2, _⟩ | ⟨g, cap, cur, h2, h3, h4, h5, h6, h7, h8⟩
    · simp only [Value.slice.injEq] at h2; omega
    · simp only [Value.slice.injEq] at h2
      obtain ⟨rfl, rfl, rfl⟩ := h2
      refine ⟨g, rfl, by omega, h3, (Array.getElem?_eq_some_iff.1 h4).1, cur, h4, ?_⟩
      omega
theorem GathD.set1 {w : World} {R F : Nat} {g cap : Nat} {es : List Rul} (h : GathD w R F (.slice (some ⟨g, 0, none⟩) es.length cap) es) {q : Nat} (hq : q < es.length) (j : Nat) (hj : j < 4) {z : Int} (hz : (Lit.int .i64 z).wf = true) :
    GathD (w.setCell ⟨g, q * 5 + j, none⟩ (.int .i64 z)) R F (.slice (some ⟨g, 0, none⟩) es.length cap) (es.set q (Dr.setF es[q] j z)) := GathD.setF h hq hj hz
/-- The first of gathered rules: its cells. -/
theorem gathD_first {w : World} {R F : Nat} {a : Option Addr} {n c : Nat} {es : List Rul} (h : GathD w R F (.slice a n c) es) (hn : es.length = n) (h0 : 0 < es.length) : ∃ g a0 l0 c0, a = some ⟨g, 0, none⟩ ∧ n ≤ c ∧ g < w.heap.size ∧ w.cell? ⟨g, 0, none⟩ = some (.int .i64 es[0].ev) ∧ w.cell? ⟨g, 1, none⟩ = some (.int .i64 es[0].at_) ∧ w.cell? ⟨g, 2, none⟩ = some (.int .i64 es[0].fr) ∧ w.cell? ⟨g, 3, none⟩ = some (.int .i64 es[0].to_) ∧ w.cell? ⟨g, 4, none⟩ = some (.slice a0 l0 c0) ∧ RulIs w (cellsR es[0] (.slice a0 l0 c0)) es[0] ∧ (0 < l0 → ∀ b off, a0 = some ⟨b, off, none⟩ → (Value.slice a n c).ownBlock ≠ some b ∧ R < b) := by
  obtain ⟨vs, hv, hA, h2⟩ := h
  obtain ⟨⟨a0, l0, c0, hu, hr, hz⟩, hf⟩ := h2 0 h0
  have hu' : vs[0]'(by omega) = .slice a0 l0 c0 := by simpa [cellsR] using hu
  rcases hA with ⟨h1, _⟩ | h1
  · omega
  · rcases h1.2 with ⟨h3, _⟩ | ⟨g, cap, cur, h3, h4, h5, h6, h7, h8, h9⟩
    · simp only [Value.slice.injEq] at h3; omega
    · simp only [Value.slice.injEq] at h3
      obtain ⟨rfl, rfl, rfl⟩ := h3
      have hcell : ∀ j, j < 5 → ∀ u, (cellsR es[0] (.slice a0 l0 c0))[j]? = some u → w.cell? ⟨g, j, none⟩ = some u := fun j hj u hju => by
        have hfl := Cal.flatR_at es vs 0 j hv h0 hj
        rw [hu', hju, Nat.zero_mul, Nat.zero_add] at hfl
        rw [cell_of_row _ _ _ _ _ _ h5]
        rw [← h9, List.getElem?_take] at hfl
        split at hfl
        · simpa using hfl
        · cases hfl
      exact ⟨g, a0, l0, c0, rfl, by omega, (Array.getElem?_eq_some_iff.1 h5).1, hcell 0 (by omega) _ rfl, hcell 1 (by omega) _ rfl, hcell 2 (by omega) _ rfl, hcell 3 (by omega) _ rfl, hcell 4 (by omega) _ rfl, ⟨a0, l0, c0, rfl, hr, hz⟩, fun hl b off e => hf a0 l0 c0 hu' hl b off e⟩
theorem acc_slice {w : World} {F : Nat} {e : TypeId} {v : Value} {n : Nat} {xs : List Value} (h : Acc w F e 1 v n xs) : ∃ a l c, v = .slice a l c := by obtain ⟨x, y, h⟩ := h.row.form; exact ⟨_, _, _, h⟩
set_option maxRecDepth 4000 in
set_option maxHeartbeats 4000000 in
theorem l43Spoil (R : Nat) (a : Option Addr) (len cap : Nat) (bs : List Int) (p : Int) (ra : Option Addr) (rl rc : Nat) (rs : List Rul) (w : World) (h : Rd w R a len cap bs p) (hp : p ≤ 999999700) (hrs : IsRuls w ra rl rc rs) (h1 : 1 ≤ rl) (h3 : rl ≤ 3) (hsm : ∀ r ∈ rs, SmallR r) :
    Calls Tryz.prog 45 #[.pointer (some ⟨R, 0, none⟩), .slice ra rl rc] w fun e w' => Spoilt R a len cap bs p w e w' := by
  obtain ⟨hz, hm⟩ := IsRecs.len hrs
  have HRS : Hid (IsRuls w ra rl rc rs) := hrs
  have HSM : Hid (∀ r ∈ rs, SmallR r) := hsm
  have hlt := h.lt
  have H0 : Hid _ := h
  clear h hrs hsm hm
  go_enter Tryz.func45, Tryz.ntmps45
  go_wp2_with fail
  go_loopw [5, 6] (fun x t wr => ∃ (q : Nat) (av : Option Addr) (cv : Nat), x = .slice av q cv ∧ t = .int .i64 (q : Int) ∧ q ≤ rl ∧ (∃ vs, GathO wr w.heap.size (.slice av q cv) (rs.take q) vs) ∧ Below w.heap.size w wr) (fun _ t _ => rl - (intOf t).toNat)
  case atStart => exact ⟨0, _, _, rfl, rfl, Nat.zero_le _, ⟨[], GathO.nil (Acc.empty _ _ _ (by simp))⟩, (Below.refl _ _).alloc (Nat.le_refl _) _⟩
  case round =>
    obtain ⟨q, av, cv, rfl, rfl, hq, ⟨vs, hD⟩, hB⟩ := hrel
    have HD : Hid (GathO wr w.heap.size (.slice av q cv) (rs.take q) vs) := hD
    have HB : Hid (Below w.heap.size w wr) := hB
    have hsz := hB.size
    clear hD hB
    by_cases hlq : q < rl
    · obtain ⟨b, off, rfl, hcap, hbl, a1, l1, k1, c0, c1, c2, c3, c4, hrow1, hwf⟩ := IsRuls.at (IsRuls.below HRS.out HB.out) (i := q) (by omega)
      have hsmq := HSM.out rs[q] (List.getElem_mem _)
      have hl4 : l1 ≤ 4 := by have := hsmq.2.2.2.2.1; have := hrow1.len.1; omega
      have HROW : Hid (IsRow .i64 ((wr.alloc (.cells #[.int .i64 rs[q].ev, .int .i64 rs[q].at_, .int .i64 rs[q].fr, .int .i64 rs[q].to_, .slice a1 l1 k1] 50)).alloc (.cells #[] 3)) a1 l1 k1 rs[q].but) := (hrow1.alloc _).alloc _
      have HX : Hid (Holds ((wr.alloc (.cells #[.int .i64 rs[q].ev, .int .i64 rs[q].at_, .int .i64 rs[q].fr, .int .i64 rs[q].to_, .slice a1 l1 k1] 50)).alloc (.cells #[] 3)) wr.heap.size 50 #[.int .i64 rs[q].ev, .int .i64 rs[q].at_, .int .i64 rs[q].fr, .int .i64 rs[q].to_, .slice a1 l1 k1]) := Holds.below (w := wr.alloc (.cells #[.int .i64 rs[q].ev, .int .i64 rs[q].at_, .int .i64 rs[q].fr, .int .i64 rs[q].to_, .slice a1 l1 k1] 50)) (heap_alloc_new _ _) ((Below.refl _ _).alloc (Nat.le_refl _) _)
      have HWF : Hid _ := hwf
      clear hrow1 hsmq hwf
      go_wp2_with (at_builtin; refine wp_copy_int rfl _ _ rfl (wr.heap.size + 1) _ a1 l1 k1 rs[q].but rfl (Acc.empty _ _ _ (by simp)) ⟨_, rfl⟩ rfl HROW.out ?c1 ?c2 ?_)
      case c1 => omega
      intro v1 wa hA1 hg
      obtain ⟨a2, n2, c2', rfl⟩ := acc_slice hA1
      have hX1 : Holds wa wr.heap.size 50 #[.int .i64 rs[q].ev, .int .i64 rs[q].at_, .int .i64 rs[q].fr, .int .i64 rs[q].to_, .slice a1 l1 k1] := Cal.holds_later HX.out hg (Nat.lt_succ_self _)
      have k4 := hX1.cell 4
      have k5 := hX1.frozen 4
      simp at k4
      have hX2 : Holds (wa.setCell ⟨wr.heap.size, 4, none⟩ (.slice a2 n2 c2')) wr.heap.size 50 #[.int .i64 rs[q].ev, .int .i64 rs[q].at_, .int .i64 rs[q].fr, .int .i64 rs[q].to_, .slice a2 n2 c2'] := hX1.set 4 _
      obtain ⟨e0, e1, e2, e3, e4⟩ := Cal.five hX2
      have hA2 : Acc (wa.setCell ⟨wr.heap.size, 4, none⟩ (.slice a2 n2 c2')) (wr.heap.size + 1) 3 1 (.slice a2 n2 c2') rs[q].but.length (rs[q].but.map (Value.int .i64)) := Cal.acc_setElse hA1 (p := ⟨wr.heap.size, 4, none⟩) (Nat.lt_succ_self _) _
      have hba : Below wr.heap.size wr (wa.setCell ⟨wr.heap.size, 4, none⟩ (.slice a2 n2 c2')) := ((((Below.refl _ _).alloc (Nat.le_refl _) _).alloc (by simp) _).trans (hg.mono (Nat.le_succ _))).setCell (p := ⟨wr.heap.size, 4, none⟩) (Nat.le_refl _) _
      have hn2 : n2 = rs[q].but.length := (Cal.isRow_of_row hA2.row (fun z hz => by have := (HSM.out rs[q] (List.getElem_mem _)).2.2.2.2.2 z hz; exact Cal.wf_small (by omega))).2
      have HU : Hid (ButO (wa.setCell ⟨wr.heap.size, 4, none⟩ (.slice a2 n2 c2')) (wr.heap.size + 1) (.slice a2 n2 c2') rs[q].but) := hA2
      have HFN : Hid (FineR rs[q]) := ⟨HWF.out, fun z hz => by have := (HSM.out rs[q] (List.getElem_mem _)).2.2.2.2.2 z hz; exact Cal.wf_small (by omega)⟩
      have HBA : Hid _ := hba
      clear hX2 hA2 hba hn2 hX1 hA1 hg
      have hs2 : w.heap.size ≤ wa.heap.size := by have := HBA.out.size; simp at this; omega
      have hql : (rs.take q).length = q := by simp; omega
      have HG : Hid _ := GathO.below (GathO.below HD.out HBA.out) ((Below.refl _ _).alloc (Nat.le_refl _) (.cells #[.int .i64 rs[q].ev, .int .i64 rs[q].at_, .int .i64 rs[q].fr, .int .i64 rs[q].to_, .slice a2 n2 c2'] 50))
      have hA := HG.out.acc
      rw [hql] at hA
      have HA : Hid _ := hA
      clear hA
      go_wp2_with (at_builtin; refine Cal.wp_acc_at rfl _ _ 24 rfl w.heap.size 50 _ 5 56 Tryz.underlying24 info_CalRule rfl (by decide) (.slice av q cv) q (flatR (rs.take q) vs) rfl HA.out ⟨wa.heap.size, 0, none⟩ 1 1 [.int .i64 rs[q].ev, .int .i64 rs[q].at_, .int .i64 rs[q].fr, .int .i64 rs[q].to_, .slice a2 n2 c2'] rfl (by decide) rfl (by have := news0 (W := (wa.setCell ⟨wr.heap.size, 4, none⟩ (.slice a2 n2 c2'))) (v0 := .int .i64 rs[q].ev) (v1 := .int .i64 rs[q].at_) (v2 := .int .i64 rs[q].fr) (v3 := .int .i64 rs[q].to_) (v4 := .slice a2 n2 c2') (t := 50); simpa using this) (by simp [Value.oneCell']) (by unfold maxLen; omega) (by omega) (by simp; omega) ?_; intro v' w3 hA3 hB3 hk3 ho3; have HK3 : Hid _ := hk3; have HA3 : Hid _ := hA3; have HB3 : Hid _ := hB3; have HO3 : Hid _ := ho3; clear hk3 hA3 hB3 ho3)
      have hbu : ∀ b, rowB (.slice a2 n2 c2') = some b → wr.heap.size + 1 ≤ b := fun b e => (HU.out.block e).1
      have hu3 : ButO ((wa.setCell ⟨wr.heap.size, 4, none⟩ (.slice a2 n2 c2')).alloc (.cells #[.int .i64 rs[q].ev, .int .i64 rs[q].at_, .int .i64 rs[q].fr, .int .i64 rs[q].to_, .slice a2 n2 c2'] 50)) w.heap.size (.slice a2 n2 c2') rs[q].but := (HU.out.base (by omega)).stay (by simp) fun b e => ((Below.refl _ _).alloc (Nat.le_refl _) _).block b (HU.out.block e).2.1
      have hG3 := GathO.push HG.out hu3 HFN.out (fun i hi b e e2 => by have := hbu b e2; have := ((HD.out.but i (by have := HD.out.len; omega) hi).1.block e).2.1; omega) (by rw [hql]; exact HA3.out) HB3.out.size HK3.out (fun b e e2 => by have := hbu b e; have := Cal.acc_own HD.out.acc e2; omega)
      rw [List.take_append_getElem] at hG3
      obtain ⟨av3, cv3, hf3, _⟩ := Cal.gathM_ruls (hG3.toD hlt).gath
      have hl3 : (rs.take (q + 1)).length = q + 1 := by simp; omega
      rw [hl3] at hf3
      subst hf3
      have HG3 : Hid _ := hG3
      have HB4 : Hid (Below w.heap.size w w3) := (bcall HB.out HB.out.size HBA.out |>.alloc (by simp; omega) _).trans HB3.out
      clear hG3 hu3 hbu
      go_wp2_with fail
      go_roundw
      case rel => exact ⟨q + 1, av3, cv3, rfl, by go_num, by omega, ⟨_, HG3.out⟩, HB4.out⟩
      case measure => simp [intOf]; omega
    · have hqe : q = rl := by omega
      subst hqe
      obtain rfl : q = rs.length := by omega
      have hte : rs.take rs.length = rs := List.take_length
      rw [hte] at HD
      clear hte hlq
      have HP : Hid (∀ (p n : Int) (w : World), Rd w R a len cap bs p → p ≤ 999999999 → n ≤ 1000000000 → Calls Tryz.prog 15 #[.pointer (some ⟨R, 0, none⟩), .int .i64 n] w fun e w' => (∃ v : Int, e = .returned (.int .i64 v) ∧ Picked n v) ∧ Rd w' R a len cap bs (p + 1) ∧ Keeps R w w') := fun p n w h1 h2 h3 => pick R a len cap bs p n w h1 h2 h3
      have HR : Hid (Rd wr R a len cap bs p) := H0.out.below HB.out
      have HK : Hid (Keeps R w wr) := Keeps.of_below HB.out
      clear HB H0 HRS
      go_wp2_with fail
      refine (HP.out p (rs.length : Int) _ HR.out (by omega) (by omega)).mono ?_
      rintro e w1 ⟨⟨xk, rfl, hx1, hx2, _⟩, hr1, hk1⟩
      have hx2 := hx2 (by omega)
      obtain ⟨k, rfl⟩ : ∃ k : Nat, xk = (k : Int) := ⟨xk.toNat, by omega⟩
      have O1 : Hid (GathO w1 w.heap.size (.slice av rs.length cv) rs vs) := GathO.keeps HD.out hk1 hlt
      have R1 : Hid _ := hr1
      have K1 : Hid (Keeps R w w1) := HK.out.trans hk1
      clear hr1 hk1 HD HR HK
      go_wp2_with fail
      refine (HP.out (p + 1) 8 _ R1.out (by omega) (by omega)).mono ?_
      rintro e w2 ⟨⟨x, rfl, hy1, hy2, _⟩, hr2, hk2⟩
      have hy2 := hy2 (by omega)
      have O2 : Hid (GathO w2 w.heap.size (.slice av rs.length cv) rs vs) := GathO.keeps O1.out hk2 hlt
      have D2 : Hid (GathD w2 R w.heap.size (.slice av rs.length cv) rs) := O2.out.toD hlt
      have R2 : Hid _ := hr2
      have K2 : Hid (Keeps R w w2) := K1.out.trans hk2
      clear hr2 hk2 O1 R1 K1
      obtain ⟨g, rfl, hqc, hgF, hg2, cur, hcur, hcs⟩ := gathD_base D2.out (by omega) (by omega)
      have hgR : g ≠ R := by omega
      by_cases h7 : x = 7
      · subst h7
        go_wp2_with fail
        go_ret
        exact ⟨[], _, p + 1 + 1, rfl, ⟨[], rfl, Acc.empty _ _ _ (by simp), fun i h => by simp at h⟩, by simp, R2.out.alloc _, by omega, by omega, K2.out.trans (Keeps.of_below ((Below.refl _ _).alloc (Nat.le_refl _) _))⟩
      by_cases hC0 : x = 0
      · subst hC0
        go_wp2_with fail
        refine (HP.out (p + 1 + 1) 4 _ (R2.out.alloc _) (by omega) (by omega)).mono ?_
        rintro e w3 ⟨⟨y, rfl, hv1, hv2, _⟩, hr3, hk3⟩
        have hv2 := hv2 (by omega)
        obtain ⟨j, rfl⟩ : ∃ j : Nat, y = (j : Int) := ⟨y.toNat, by omega⟩
        have hcell : w3.cell? ⟨w2.heap.size, j, none⟩ = some (.int .i64 (([0, -1, 1000, 1001] : List Int).getD j 0)) := by
          rw [hk3.cell (by simp) (by have := R2.out.lt; omega), World.cell?_alloc_new]
          rcases (by omega : j = 0 ∨ j = 1 ∨ j = 2 ∨ j = 3) with rfl | rfl | rfl | rfl <;> rfl
        have hbd : -1 ≤ ([0, -1, 1000, 1001] : List Int).getD j 0 ∧ ([0, -1, 1000, 1001] : List Int).getD j 0 ≤ 999999 := by
          rcases (by omega : j = 0 ∨ j = 1 ∨ j = 2 ∨ j = 3) with rfl | rfl | rfl | rfl <;> simp
        have D3 : Hid (GathD w3 R w.heap.size (.slice (some ⟨g, 0, none⟩) rs.length cv) rs) := GathD.keeps (GathD.below D2.out ((Below.refl _ _).alloc (Nat.le_refl _) _)) hk3 hlt
        have hh3 : Holds w3 g 50 cur := hk3.holds (hcur.below ((Below.refl _ _).alloc (Nat.le_refl _) _)) hgR
        have u0 := hh3.cell (k * 5)
        have u1 := hh3.frozen (k * 5)
        rw [Array.getElem?_eq_getElem (by omega : k * 5 < cur.size)] at u0
        have R3 : Hid _ := hr3
        have K3 : Hid (Keeps R w w3) := (K2.out.trans (Keeps.of_below ((Below.refl _ _).alloc (Nat.le_refl _) _))).trans hk3
        clear hr3 hk3 hh3
        generalize ([0, -1, 1000, 1001] : List Int).getD j 0 = z at hcell hbd
        generalize cur[k * 5] = uu at u0
        go_wp2_with fail
        go_ret
        exact ⟨rs.set k (setF rs[k] 0 z), _, p + 1 + 1 + 1, rfl, GathD.set1 D3.out (by omega) 0 (by omega) (Cal.wf_small hbd), by simp; omega, R3.out.set (by omega) _, by omega, by omega, K3.out.set (by omega) _⟩
      by_cases hC3 : x = 3
      · subst hC3
        go_wp2_with fail
        refine (HP.out (p + 1 + 1) 2 _ (R2.out.alloc _) (by omega) (by omega)).mono ?_
        rintro e w3 ⟨⟨y, rfl, hv1, hv2, _⟩, hr3, hk3⟩
        have hv2 := hv2 (by omega)
        obtain ⟨j, rfl⟩ : ∃ j : Nat, y = (j : Int) := ⟨y.toNat, by omega⟩
        have hcell : w3.cell? ⟨w2.heap.size, j, none⟩ = some (.int .i64 (([100000, 100001] : List Int).getD j 0)) := by
          rw [hk3.cell (by simp) (by have := R2.out.lt; omega), World.cell?_alloc_new]
          rcases (by omega : j = 0 ∨ j = 1) with rfl | rfl <;> rfl
        have hbd : -1 ≤ ([100000, 100001] : List Int).getD j 0 ∧ ([100000, 100001] : List Int).getD j 0 ≤ 999999 := by
          rcases (by omega : j = 0 ∨ j = 1) with rfl | rfl <;> simp
        have D3 : Hid (GathD w3 R w.heap.size (.slice (some ⟨g, 0, none⟩) rs.length cv) rs) := GathD.keeps (GathD.below D2.out ((Below.refl _ _).alloc (Nat.le_refl _) _)) hk3 hlt
        have hh3 : Holds w3 g 50 cur := hk3.holds (hcur.below ((Below.refl _ _).alloc (Nat.le_refl _) _)) hgR
        have u0 := hh3.cell (k * 5 + 3)
        have u1 := hh3.frozen (k * 5 + 3)
        rw [Array.getElem?_eq_getElem (by omega : k * 5 + 3 < cur.size)] at u0
        have R3 : Hid _ := hr3
        have K3 : Hid (Keeps R w w3) := (K2.out.trans (Keeps.of_below ((Below.refl _ _).alloc (Nat.le_refl _) _))).trans hk3
        clear hr3 hk3 hh3
        generalize ([100000, 100001] : List Int).getD j 0 = z at hcell hbd
        generalize cur[k * 5 + 3] = uu at u0
        go_wp2_with fail
        go_ret
        exact ⟨rs.set k (setF rs[k] 3 z), _, p + 1 + 1 + 1, rfl, GathD.set1 D3.out (by omega) 3 (by omega) (Cal.wf_small hbd), by simp; omega, R3.out.set (by omega) _, by omega, by omega, K3.out.set (by omega) _⟩
      by_cases hC6 : x = 6
      · subst hC6
        go_wp2_with fail
        go_loopw [5] (fun y wr => ∃ (es : List Rul) (av : Option Addr) (cv : Nat) (p' : Int), y = .slice av es.length cv ∧ 1 ≤ es.length ∧ es.length ≤ 5 ∧ GathD wr R w.heap.size (.slice av es.length cv) es ∧ Rd wr R a len cap bs p' ∧ p + 2 ≤ p' ∧ p' ≤ p + 2 + (es.length : Int) ∧ Keeps R w wr) (fun y _ => 5 - (match y with | .slice _ n _ => n | _ => 0))
        case atStart => exact ⟨rs, _, _, _, rfl, by omega, by omega, D2.out, R2.out, by omega, by omega, K2.out⟩
        case round =>
          clear D2 R2 K2 hcur hcs hg2 hgF
          obtain ⟨es, av, cv', p', rfl, he1, he5, hD, hR, hp1, hp2, hK⟩ := hrel
          have HD : Hid (GathD wr R w.heap.size (.slice av es.length cv') es) := hD
          have HR : Hid _ := hR
          have HK : Hid (Keeps R w wr) := hK
          clear hD hR hK
          go_wp2_with fail
          refine (HP.out p' 2 _ HR.out (by omega) (by omega)).mono ?_
          rintro e w3 ⟨⟨y, rfl, hv1, hv2, _⟩, hr3, hk3⟩
          have hv2 := hv2 (by omega)
          have D3 : Hid (GathD w3 R w.heap.size (.slice av es.length cv') es) := GathD.keeps HD.out hk3 hlt
          have R3 : Hid _ := hr3
          have K3 : Hid (Keeps R w w3) := HK.out.trans hk3
          have hs3 : w.heap.size ≤ w3.heap.size := K3.out.size
          clear hr3 hk3 HD HR HK
          by_cases hmore : (es.length : Int) < 4 + y
          · obtain ⟨g1, a0, l0, c0, rfl, hcp, hg1, u0, u1, u2, u3, u4, hru, hfa⟩ := gathD_first D3.out rfl (by omega)
            have HRU : Hid _ := hru
            have HFA : Hid _ := hfa
            clear hru hfa
            obtain ⟨vs, hv, hA, hall⟩ := GathD.below D3.out ((Below.refl _ _).alloc (Nat.le_refl _) (.cells #[.int .i64 es[0].ev, .int .i64 es[0].at_, .int .i64 es[0].fr, .int .i64 es[0].to_, .slice a0 l0 c0] 50))
            have HALL : Hid _ := hall
            have HA : Hid _ := hA
            clear hall hA
            go_wp2_with (at_builtin; refine Cal.wp_acc_at rfl _ _ 24 rfl w.heap.size 50 _ 5 56 Tryz.underlying24 info_CalRule rfl (by decide) (.slice (some ⟨g1, 0, none⟩) es.length cv') es.length (flatR es vs) rfl HA.out ⟨w3.heap.size, 0, none⟩ 1 1 [.int .i64 es[0].ev, .int .i64 es[0].at_, .int .i64 es[0].fr, .int .i64 es[0].to_, .slice a0 l0 c0] rfl (by decide) rfl news0 (by simp [Value.oneCell']) (by unfold maxLen; omega) (by omega) (by simp; omega) ?_; intro v' w4 hA4 hB4 hk4 ho4; have HK4 : Hid _ := hk4; have HA4 : Hid _ := hA4; have HB4 : Hid _ := hB4; have HO4 : Hid _ := ho4; clear hk4 hA4 hB4 ho4)
            have hent2 : RulIs (w3.alloc (.cells #[.int .i64 es[0].ev, .int .i64 es[0].at_, .int .i64 es[0].fr, .int .i64 es[0].to_, .slice a0 l0 c0] 50)) (cellsR es[0] (.slice a0 l0 c0)) es[0] := RulIs.lasts _ _ _ _ ((Below.refl _ _).alloc (Nat.le_refl _) _) HRU.out
            have hG4 := gathD_push hv HALL.out hent2 HFA.out HA4.out HB4.out.size HK4.out HO4.out
            obtain ⟨av4, cv4, rfl, _⟩ := Cal.gathM_ruls hG4.gath
            have HG4 : Hid _ := hG4
            clear hG4 hent2
            go_wp2_with fail
            go_roundw
            case rel => exact ⟨es ++ [es[0]], av4, cv4, p' + 1, rfl, by simp, by simp; omega, HG4.out, Rd.later (R3.out.alloc _) HB4.out (by omega), by omega, by simp; omega, (K3.out.trans (Keeps.of_below ((Below.refl _ _).alloc (Nat.le_refl _) _))).grow HB4.out (Nat.le_refl _)⟩
            case measure => simp; omega
          · go_wp2_with fail
            go_ret
            exact ⟨es, _, p' + 1, rfl, D3.out, by omega, R3.out, by omega, by omega, K3.out⟩
      have hkn : k < rs.length := by omega
      have hkv : k < vs.length := by have := O2.out.len; omega
      have hx2 : (k : Int) < (rs.length : Int) := by omega
      have hRb : R < w2.heap.size := R2.out.lt
      by_cases hC1 : x = 1
      · subst hC1
        have hbe := HSM.out rs[k] (List.getElem_mem _)
        have hev : 1 ≤ rs[k].ev ∧ rs[k].ev ≤ 1000 := hbe.1
        clear hbe
        go_wp2_with fail
        -- region 14 begins
        refine wp_region_noPanic (wp_frame _ frame14 (by kernel_rfl) fun T hT => ?_)
        have t0 : T 0 = .pointer (some ⟨R, 0, none⟩) := by rw [hT]; rfl
        have t5 : T 5 = .slice (some ⟨g, 0, none⟩) rs.length cv := by rw [hT]; rfl
        have t8 : T 8 = .int .i64 (k : Int) := by rw [hT]; rfl
        clear hT
        have hd0 : Below w2.heap.size w2 w2.drew := (Below.refl _ _).drew
        refine RI.wp_region_inv2 (by kernel_rfl) (by kernel_rfl) (InvS (frame14 T) (Ok14 R g rs.length cv k w2.heap.size rs[k].ev undef) 14 9 1000 14 (KO R w.heap.size g rs.length cv k a len cap bs (p + 1 + 1) rs vs w w2.heap.size 9 1000 14)) ⟨fun _ => undef, by kernel_rfl, ⟨K2.out.trans (Keeps.of_below hd0), Nat.le_refl _, by rw [RI.up_new]; exact R2.out.below hd0, by rw [RI.up_new, RI.up_new]; exact O2.out.below hd0⟩, fun _ j _ h => by rw [RI.up_new] at h; cases h⟩ (fun i o listed act W hi hs hl haft hcl hinv => ?_) (fun listed act W hs hall hinv => ?_)
        case refine_2 =>
          obtain ⟨xs, rfl, hK, hF⟩ := hinv
          have lst : listed.getD 14 false = true := by have := hall 14 (by decide); simpa [Array.getD, hs] using this
          have lpk : listed.getD 9 false = true := by have := hall 9 (by decide); simpa [Array.getD, hs] using this
          have hrd := hK.rd
          rw [lpk, if_pos rfl] at hrd
          have hru := hK.rules
          rw [lst, if_pos rfl] at hru
          obtain ⟨rs', hD, hn⟩ := hru
          have HFI : Hid _ := And.intro hD (And.intro hn (And.intro hrd hK.keep))
          clear hD hn hrd hK hF hall lst lpk
          simp only [frame14, t5]
          refine NoPanic.normal ?_
          go_wp2_with fail
          go_ret
          exact ⟨rs', _, p + 1 + 1 + 1, rfl, HFI.out.1, by have := HFI.out.2.1; omega, HFI.out.2.2.1, by omega, by omega, HFI.out.2.2.2⟩
        obtain ⟨xs, rfl, hK, hF⟩ := hinv
        have hi15 : i < 15 := (Array.getElem?_eq_some_iff.1 hi).1
        rcases (show i = 0 ∨ i = 1 ∨ i = 2 ∨ i = 3 ∨ i = 4 ∨ i = 5 ∨ i = 6 ∨ i = 7 ∨ i = 8 ∨ i = 9 ∨ i = 10 ∨ i = 11 ∨ i = 12 ∨ i = 13 ∨ i = 14 by omega) with rfl | rfl | rfl | rfl | rfl | rfl | rfl | rfl | rfl | rfl | rfl | rfl | rfl | rfl | rfl
        · have ho := Option.some.inj hi
          subst ho
          have l3 : listed.getD 14 false = false := hcl.not 20 (by kernel_rfl) hl
          exact RI.op_val (d := some 50) (v := .slice (some ⟨g, 0, none⟩) rs.length cv) hi (by kernel_rfl) rfl (by simp [go_sem, frame14, t5]) (InvS.val hK hF 0 _ (by kernel_rfl) (by decide) (by decide) (by decide) rfl)
        · have ho := Option.some.inj hi
          subst ho
          have l3 : listed.getD 14 false = false := hcl.not 20 (by kernel_rfl) hl
          exact RI.op_val (d := some 51) (v := .int .i64 (k : Int)) hi (by kernel_rfl) rfl (by simp [go_sem, frame14, t8]) (InvS.val hK hF 1 _ (by kernel_rfl) (by decide) (by decide) (by decide) rfl)
        · have ho := Option.some.inj hi
          subst ho
          have l3 : listed.getD 14 false = false := hcl.not 20 (by kernel_rfl) hl
          exact RI.op_val (d := some 52) (v := .slice (some ⟨g, 0, none⟩) rs.length cv) hi (by kernel_rfl) rfl (by simp [go_sem, frame14, t5]) (InvS.val hK hF 2 _ (by kernel_rfl) (by decide) (by decide) (by decide) rfl)
        · have ho := Option.some.inj hi
          subst ho
          have l3 : listed.getD 14 false = false := hcl.not 20 (by kernel_rfl) hl
          exact RI.op_val (d := some 53) (v := .int .i64 (k : Int)) hi (by kernel_rfl) rfl (by simp [go_sem, frame14, t8]) (InvS.val hK hF 3 _ (by kernel_rfl) (by decide) (by decide) (by decide) rfl)
        · have ho := Option.some.inj hi
          subst ho
          have l3 : listed.getD 14 false = false := hcl.not 20 (by kernel_rfl) hl
          have d2 : xs 2 = .slice (some ⟨g, 0, none⟩) rs.length cv := hF l3 2 (by decide) (RI.dep haft 2 (by kernel_rfl))
          have d3 : xs 3 = .int .i64 (k : Int) := hF l3 3 (by decide) (RI.dep haft 3 (by kernel_rfl))
          exact RI.op_val (d := some 54) (v := .pointer (some ⟨g, k * 5, none⟩)) hi (by kernel_rfl) rfl (by simp [go_sem, frame14, d2, d3, hx2]) (InvS.val hK hF 4 _ (by kernel_rfl) (by decide) (by decide) (by decide) rfl)
        · have ho := Option.some.inj hi
          subst ho
          have l3 : listed.getD 14 false = false := hcl.not 20 (by kernel_rfl) hl
          have d4 : xs 4 = .pointer (some ⟨g, k * 5, none⟩) := hF l3 4 (by decide) (RI.dep haft 4 (by kernel_rfl))
          exact RI.op_val (d := some 55) (v := .pointer (some ⟨g, k * 5, none⟩)) hi (by kernel_rfl) rfl (by simp [go_sem, frame14, d4]) (InvS.val hK hF 5 _ (by kernel_rfl) (by decide) (by decide) (by decide) rfl)
        · have ho := Option.some.inj hi
          subst ho
          have l3 : listed.getD 14 false = false := hcl.not 20 (by kernel_rfl) hl
          have l2 : listed.getD 1000 false = false := by simp [Array.getD, hs]
          have d5 : xs 5 = .pointer (some ⟨g, k * 5, none⟩) := hF l3 5 (by decide) (RI.dep haft 5 (by kernel_rfl))
          have c0 := (hK.gath l2 l3).cell (k := k) (j := 0) hkn hkv (by omega)
          simp [Cal.cellsR] at c0
          exact RI.op_val (d := some 56) (v := .int .i64 (rs[k].ev)) hi (by kernel_rfl) rfl (by simp [go_sem, frame14, d5, c0]) (InvS.val hK hF 6 _ (by kernel_rfl) (by decide) (by decide) (by decide) rfl)
        · have ho := Option.some.inj hi
          subst ho
          have l3 : listed.getD 14 false = false := hcl.not 20 (by kernel_rfl) hl
          have l2 : listed.getD 1000 false = false := by simp [Array.getD, hs]
          have d6 : xs 6 = .int .i64 rs[k].ev := hF l3 6 (by decide) (RI.dep haft 6 (by kernel_rfl))
          have e6 : xs = upd xs 6 (.int .i64 (rs[k].ev)) := upd_id d6
          rw [e6] at hF hK ⊢
          clear e6 d6
          clear t0 t5 t8
          refine RI.op_one hi (by kernel_rfl) fun KK hKK => ?_
          simp only [frame14, upd]
          go_simp
          exact hKK _ _ (InvS.grow hlt hK hF 7 (.slice (some ⟨W.heap.size, 0, none⟩) 2 2) (by kernel_rfl) (by decide) (by decide) l2 l3 (Keeps.of_below ((Below.refl _ _).alloc (Nat.le_refl _) _)) (by rw [RI.up_else (by decide)]; exact hK.rd.alloc _) (fun j u => Ok14.mono (Near.of_keeps hRb (Keeps.of_below ((Below.refl _ _).alloc (Nat.le_refl _) _))) j) ⟨W.heap.size, rfl, hK.size, by simp, by first | (rw [World.cell?_alloc_new]; done) | (rw [World.cell?_alloc_new]; rfl), by first | (rw [World.cell?_alloc_new]; done) | (rw [World.cell?_alloc_new]; rfl)⟩)
        · have ho := Option.some.inj hi
          subst ho
          have l3 : listed.getD 14 false = false := hcl.not 20 (by kernel_rfl) hl
          exact RI.op_val (d := some 58) (v := .pointer (some ⟨R, 0, none⟩)) hi (by kernel_rfl) rfl (by simp [go_sem, frame14, t0]) (InvS.val hK hF 8 _ (by kernel_rfl) (by decide) (by decide) (by decide) rfl)
        · have ho := Option.some.inj hi
          subst ho
          have l3 : listed.getD 14 false = false := hcl.not 20 (by kernel_rfl) hl
          have l2 : listed.getD 1000 false = false := by simp [Array.getD, hs]
          have d8 : xs 8 = .pointer (some ⟨R, 0, none⟩) := hF l3 8 (by decide) (RI.dep haft 8 (by kernel_rfl))
          have hrd := hK.rd
          rw [RI.not_up hl, if_neg (by decide)] at hrd
          refine RI.op_one hi (by kernel_rfl) fun KK hKK => ?_
          refine wp_callTwo (HP.out (p + 1 + 1) 2 W hrd (by omega) (by omega)) (fun e w' h => by obtain ⟨⟨v, h, _⟩, _⟩ := h; exact ⟨_, h⟩) (enters_of Tryz.func15 (by kernel_rfl) rfl) _ _ _ (d := some 59) rfl (by rfl) ((show _ = xs 8 by kernel_rfl).trans d8) (by rfl) ?_
          rintro r w5 ⟨⟨y, he, hv1, hv2, _⟩, hr3, hk3⟩
          cases he
          have hv2 := hv2 (by omega)
          obtain ⟨yn, rfl⟩ : ∃ m : Nat, y = (m : Int) := ⟨y.toNat, by omega⟩
          exact hKK _ _ (InvS.grow hlt hK hF 9 _ (by kernel_rfl) (by decide) (by decide) l2 l3 hk3 (by rw [RI.up_same (by rw [hs]; decide), if_pos rfl]; exact hr3) (fun j u => Ok14.mono (Near.of_keeps hRb hk3) j) ⟨yn, rfl, by omega⟩)
        · have ho := Option.some.inj hi
          subst ho
          have l3 : listed.getD 14 false = false := hcl.not 20 (by kernel_rfl) hl
          have d7 : ∃ b, xs 7 = .slice (some ⟨b, 0, none⟩) 2 2 ∧ w2.heap.size ≤ b ∧ b < W.heap.size ∧ W.cell? ⟨b, 0, none⟩ = some (.int .i64 (-1)) ∧ W.cell? ⟨b, 1, none⟩ = some (.int .i64 (rs[k].ev)) := hF l3 7 (by decide) (RI.dep haft 7 (by kernel_rfl))
          have d9 : ∃ y : Nat, xs 9 = .int .i64 (y : Int) ∧ y < 2 := hF l3 9 (by decide) (RI.dep haft 9 (by kernel_rfl))
          obtain ⟨b, e1, hb1, hb2, c0, c1⟩ := d7
          obtain ⟨y, e2, hy⟩ := d9
          have hcz : ∃ z : Int, W.cell? ⟨b, y, none⟩ = some (.int .i64 z) ∧ -1 ≤ z ∧ z ≤ 999999 := by
            rcases (show y = 0 ∨ y = 1 by omega) with rfl | rfl
            · exact ⟨_, c0, by omega, by omega⟩
            · exact ⟨_, c1, by omega, by omega⟩
          obtain ⟨z, hcz, hz1, hz2⟩ := hcz
          have hyi : ¬ (2 : Int) ≤ (y : Int) := by omega
          exact RI.op_val (d := some 60) (v := .pointer (some ⟨b, y, none⟩)) hi (by kernel_rfl) rfl (by simp [go_sem, frame14, e1, e2, hyi]) (InvS.val hK hF 10 _ (by kernel_rfl) (by decide) (by decide) (by decide) ⟨b, y, z, rfl, hb1, hb2, hcz, hz1, hz2⟩)
        · have ho := Option.some.inj hi
          subst ho
          have l3 : listed.getD 14 false = false := hcl.not 20 (by kernel_rfl) hl
          have d10 : ∃ (b y : Nat) (z : Int), xs 10 = .pointer (some ⟨b, y, none⟩) ∧ w2.heap.size ≤ b ∧ b < W.heap.size ∧ W.cell? ⟨b, y, none⟩ = some (.int .i64 z) ∧ -1 ≤ z ∧ z ≤ 999999 := hF l3 10 (by decide) (RI.dep haft 10 (by kernel_rfl))
          obtain ⟨b, y, z, e1, hb1, hb2, hcz, hz1, hz2⟩ := d10
          exact RI.op_val (d := some 61) (v := .int .i64 z) hi (by kernel_rfl) rfl (by simp [go_sem, frame14, e1, hcz]) (InvS.val hK hF 11 _ (by kernel_rfl) (by decide) (by decide) (by decide) ⟨z, rfl, hz1, hz2⟩)
        · have ho := Option.some.inj hi
          subst ho
          have l3 : listed.getD 14 false = false := hcl.not 20 (by kernel_rfl) hl
          have d0 : xs 0 = .slice (some ⟨g, 0, none⟩) rs.length cv := hF l3 0 (by decide) (RI.dep haft 0 (by kernel_rfl))
          have d1 : xs 1 = .int .i64 (k : Int) := hF l3 1 (by decide) (RI.dep haft 1 (by kernel_rfl))
          exact RI.op_val (d := some 62) (v := .pointer (some ⟨g, k * 5, none⟩)) hi (by kernel_rfl) rfl (by simp [go_sem, frame14, d0, d1, hx2]) (InvS.val hK hF 12 _ (by kernel_rfl) (by decide) (by decide) (by decide) rfl)
        · have ho := Option.some.inj hi
          subst ho
          have l3 : listed.getD 14 false = false := hcl.not 20 (by kernel_rfl) hl
          have d12 : xs 12 = .pointer (some ⟨g, k * 5, none⟩) := hF l3 12 (by decide) (RI.dep haft 12 (by kernel_rfl))
          exact RI.op_val (d := some 63) (v := .pointer (some ⟨g, k * 5 + 1, none⟩)) hi (by kernel_rfl) rfl (by simp [go_sem, frame14, d12]) (InvS.val hK hF 13 _ (by kernel_rfl) (by decide) (by decide) (by decide) rfl)
        · have ho := Option.some.inj hi
          subst ho
          have l3 : listed.getD 14 false = false := RI.not_up hl
          have l2 : listed.getD 1000 false = false := by simp [Array.getD, hs]
          have d13 : xs 13 = .pointer (some ⟨g, k * 5 + 1, none⟩) := hF l3 13 (by decide) (RI.dep haft 13 (by kernel_rfl))
          have d11 : ∃ z : Int, xs 11 = .int .i64 z ∧ -1 ≤ z ∧ z ≤ 999999 := hF l3 11 (by decide) (RI.dep haft 11 (by kernel_rfl))
          obtain ⟨z, e1, hz1, hz2⟩ := d11
          have hg0 := hK.gath l2 l3
          obtain ⟨g', hg', _, _, _, cur', hcur', hcs'⟩ := gathD_base (hg0.toD hlt) rfl (by omega)
          simp only [Option.some.injEq, Addr.mk.injEq, and_true] at hg'
          subst hg'
          have u0 := hcur'.cell (k * 5 + 1)
          have u1 := hcur'.frozen (k * 5 + 1)
          rw [Array.getElem?_eq_getElem (by omega : k * 5 + 1 < cur'.size)] at u0
          generalize cur'[k * 5 + 1] = uu at u0
          have hin := InvS.last (fr := frame14 T) (Ok := (Ok14 R g rs.length cv k w2.heap.size rs[k].ev undef)) (m := 14) (xs := xs) (base := w2.heap.size) (ap := 1000) (pk := 9) (st := 14) hK rfl (by rw [hs]; decide) (by decide) (by omega) (by omega) (k * 5 + 1) (.int .i64 z) (GathO.fin1 hg0 rfl hlt hkn (by omega) (Cal.wf_small ⟨hz1, hz2⟩))
          have HIN : Hid _ := hin
          clear hin hg0 hcur' hcs' hK hF t0 t5 t8
          refine RI.op_one hi (by kernel_rfl) fun KK hKK => ?_
          have hKK2 := hKK _ _ HIN.out
          simp only [frame14, d13, e1] at hKK2 ⊢
          go_simp
          exact hKK2
        -- region 14 ends
      by_cases hC2 : x = 2
      · subst hC2
        have hbe := HSM.out rs[k] (List.getElem_mem _)
        have hev : 0 ≤ rs[k].to_ ∧ rs[k].to_ ≤ 100000 := hbe.2.2.2.1
        have hwr : IntKind.i64.wrap (rs[k].to_ + 1) = rs[k].to_ + 1 := by rw [IntKind.wrap_i64]; omega
        clear hbe
        go_wp2_with fail
        -- region 16 begins
        refine wp_region_noPanic (wp_frame _ frame16 (by kernel_rfl) fun T hT => ?_)
        have t0 : T 0 = .pointer (some ⟨R, 0, none⟩) := by rw [hT]; rfl
        have t5 : T 5 = .slice (some ⟨g, 0, none⟩) rs.length cv := by rw [hT]; rfl
        have t8 : T 8 = .int .i64 (k : Int) := by rw [hT]; rfl
        clear hT
        have hd0 : Below w2.heap.size w2 w2.drew := (Below.refl _ _).drew
        refine RI.wp_region_inv2 (by kernel_rfl) (by kernel_rfl) (InvS (frame16 T) (Ok16 R g rs.length cv k w2.heap.size rs[k].to_ undef) 20 15 1000 20 (KO R w.heap.size g rs.length cv k a len cap bs (p + 1 + 1) rs vs w w2.heap.size 15 1000 20)) ⟨fun _ => undef, by kernel_rfl, ⟨K2.out.trans (Keeps.of_below hd0), Nat.le_refl _, by rw [RI.up_new]; exact R2.out.below hd0, by rw [RI.up_new, RI.up_new]; exact O2.out.below hd0⟩, fun _ j _ h => by rw [RI.up_new] at h; cases h⟩ (fun i o listed act W hi hs hl haft hcl hinv => ?_) (fun listed act W hs hall hinv => ?_)
        case refine_2 =>
          obtain ⟨xs, rfl, hK, hF⟩ := hinv
          have lst : listed.getD 20 false = true := by have := hall 20 (by decide); simpa [Array.getD, hs] using this
          have lpk : listed.getD 15 false = true := by have := hall 15 (by decide); simpa [Array.getD, hs] using this
          have hrd := hK.rd
          rw [lpk, if_pos rfl] at hrd
          have hru := hK.rules
          rw [lst, if_pos rfl] at hru
          obtain ⟨rs', hD, hn⟩ := hru
          have HFI : Hid _ := And.intro hD (And.intro hn (And.intro hrd hK.keep))
          clear hD hn hrd hK hF hall lst lpk
          simp only [frame16, t5]
          refine NoPanic.normal ?_
          go_wp2_with fail
          go_ret
          exact ⟨rs', _, p + 1 + 1 + 1, rfl, HFI.out.1, by have := HFI.out.2.1; omega, HFI.out.2.2.1, by omega, by omega, HFI.out.2.2.2⟩
        obtain ⟨xs, rfl, hK, hF⟩ := hinv
        have hi21 : i < 21 := (Array.getElem?_eq_some_iff.1 hi).1
        rcases (show i = 0 ∨ i = 1 ∨ i = 2 ∨ i = 3 ∨ i = 4 ∨ i = 5 ∨ i = 6 ∨ i = 7 ∨ i = 8 ∨ i = 9 ∨ i = 10 ∨ i = 11 ∨ i = 12 ∨ i = 13 ∨ i = 14 ∨ i = 15 ∨ i = 16 ∨ i = 17 ∨ i = 18 ∨ i = 19 ∨ i = 20 by omega) with rfl | rfl | rfl | rfl | rfl | rfl | rfl | rfl | rfl | rfl | rfl | rfl | rfl | rfl | rfl | rfl | rfl | rfl | rfl | rfl | rfl
        · have ho := Option.some.inj hi
          subst ho
          have l3 : listed.getD 20 false = false := hcl.not 20 (by kernel_rfl) hl
          exact RI.op_val (d := some 66) (v := .slice (some ⟨g, 0, none⟩) rs.length cv) hi (by kernel_rfl) rfl (by simp [go_sem, frame16, t5]) (InvS.val hK hF 0 _ (by kernel_rfl) (by decide) (by decide) (by decide) rfl)
        · have ho := Option.some.inj hi
          subst ho
          have l3 : listed.getD 20 false = false := hcl.not 20 (by kernel_rfl) hl
          exact RI.op_val (d := some 67) (v := .int .i64 (k : Int)) hi (by kernel_rfl) rfl (by simp [go_sem, frame16, t8]) (InvS.val hK hF 1 _ (by kernel_rfl) (by decide) (by decide) (by decide) rfl)
        · have ho := Option.some.inj hi
          subst ho
          have l3 : listed.getD 20 false = false := hcl.not 20 (by kernel_rfl) hl
          exact RI.op_val (d := some 68) (v := .slice (some ⟨g, 0, none⟩) rs.length cv) hi (by kernel_rfl) rfl (by simp [go_sem, frame16, t5]) (InvS.val hK hF 2 _ (by kernel_rfl) (by decide) (by decide) (by decide) rfl)
        · have ho := Option.some.inj hi
          subst ho
          have l3 : listed.getD 20 false = false := hcl.not 20 (by kernel_rfl) hl
          exact RI.op_val (d := some 69) (v := .int .i64 (k : Int)) hi (by kernel_rfl) rfl (by simp [go_sem, frame16, t8]) (InvS.val hK hF 3 _ (by kernel_rfl) (by decide) (by decide) (by decide) rfl)
        · have ho := Option.some.inj hi
          subst ho
          have l3 : listed.getD 20 false = false := hcl.not 20 (by kernel_rfl) hl
          have d2 : xs 2 = .slice (some ⟨g, 0, none⟩) rs.length cv := hF l3 2 (by decide) (RI.dep haft 2 (by kernel_rfl))
          have d3 : xs 3 = .int .i64 (k : Int) := hF l3 3 (by decide) (RI.dep haft 3 (by kernel_rfl))
          exact RI.op_val (d := some 70) (v := .pointer (some ⟨g, k * 5, none⟩)) hi (by kernel_rfl) rfl (by simp [go_sem, frame16, d2, d3, hx2]) (InvS.val hK hF 4 _ (by kernel_rfl) (by decide) (by decide) (by decide) rfl)
        · have ho := Option.some.inj hi
          subst ho
          have l3 : listed.getD 20 false = false := hcl.not 20 (by kernel_rfl) hl
          have d4 : xs 4 = .pointer (some ⟨g, k * 5, none⟩) := hF l3 4 (by decide) (RI.dep haft 4 (by kernel_rfl))
          exact RI.op_val (d := some 71) (v := .pointer (some ⟨g, k * 5 + 3, none⟩)) hi (by kernel_rfl) rfl (by simp [go_sem, frame16, d4]) (InvS.val hK hF 5 _ (by kernel_rfl) (by decide) (by decide) (by decide) rfl)
        · have ho := Option.some.inj hi
          subst ho
          have l3 : listed.getD 20 false = false := hcl.not 20 (by kernel_rfl) hl
          have l2 : listed.getD 1000 false = false := by simp [Array.getD, hs]
          have d5 : xs 5 = .pointer (some ⟨g, k * 5 + 3, none⟩) := hF l3 5 (by decide) (RI.dep haft 5 (by kernel_rfl))
          have c0 := (hK.gath l2 l3).cell (k := k) (j := 3) hkn hkv (by omega)
          simp [Cal.cellsR] at c0
          exact RI.op_val (d := some 72) (v := .int .i64 (rs[k].to_)) hi (by kernel_rfl) rfl (by simp [go_sem, frame16, d5, c0]) (InvS.val hK hF 6 _ (by kernel_rfl) (by decide) (by decide) (by decide) rfl)
        · have ho := Option.some.inj hi
          subst ho
          have l3 : listed.getD 20 false = false := hcl.not 20 (by kernel_rfl) hl
          exact RI.op_val (d := some 73) (v := .slice (some ⟨g, 0, none⟩) rs.length cv) hi (by kernel_rfl) rfl (by simp [go_sem, frame16, t5]) (InvS.val hK hF 7 _ (by kernel_rfl) (by decide) (by decide) (by decide) rfl)
        · have ho := Option.some.inj hi
          subst ho
          have l3 : listed.getD 20 false = false := hcl.not 20 (by kernel_rfl) hl
          exact RI.op_val (d := some 74) (v := .int .i64 (k : Int)) hi (by kernel_rfl) rfl (by simp [go_sem, frame16, t8]) (InvS.val hK hF 8 _ (by kernel_rfl) (by decide) (by decide) (by decide) rfl)
        · have ho := Option.some.inj hi
          subst ho
          have l3 : listed.getD 20 false = false := hcl.not 20 (by kernel_rfl) hl
          have d7 : xs 7 = .slice (some ⟨g, 0, none⟩) rs.length cv := hF l3 7 (by decide) (RI.dep haft 7 (by kernel_rfl))
          have d8 : xs 8 = .int .i64 (k : Int) := hF l3 8 (by decide) (RI.dep haft 8 (by kernel_rfl))
          exact RI.op_val (d := some 75) (v := .pointer (some ⟨g, k * 5, none⟩)) hi (by kernel_rfl) rfl (by simp [go_sem, frame16, d7, d8, hx2]) (InvS.val hK hF 9 _ (by kernel_rfl) (by decide) (by decide) (by decide) rfl)
        · have ho := Option.some.inj hi
          subst ho
          have l3 : listed.getD 20 false = false := hcl.not 20 (by kernel_rfl) hl
          have d9 : xs 9 = .pointer (some ⟨g, k * 5, none⟩) := hF l3 9 (by decide) (RI.dep haft 9 (by kernel_rfl))
          exact RI.op_val (d := some 76) (v := .pointer (some ⟨g, k * 5 + 3, none⟩)) hi (by kernel_rfl) rfl (by simp [go_sem, frame16, d9]) (InvS.val hK hF 10 _ (by kernel_rfl) (by decide) (by decide) (by decide) rfl)
        · have ho := Option.some.inj hi
          subst ho
          have l3 : listed.getD 20 false = false := hcl.not 20 (by kernel_rfl) hl
          have l2 : listed.getD 1000 false = false := by simp [Array.getD, hs]
          have d10 : xs 10 = .pointer (some ⟨g, k * 5 + 3, none⟩) := hF l3 10 (by decide) (RI.dep haft 10 (by kernel_rfl))
          have c0 := (hK.gath l2 l3).cell (k := k) (j := 3) hkn hkv (by omega)
          simp [Cal.cellsR] at c0
          exact RI.op_val (d := some 77) (v := .int .i64 (rs[k].to_)) hi (by kernel_rfl) rfl (by simp [go_sem, frame16, d10, c0]) (InvS.val hK hF 11 _ (by kernel_rfl) (by decide) (by decide) (by decide) rfl)
        · have ho := Option.some.inj hi
          subst ho
          have l3 : listed.getD 20 false = false := hcl.not 20 (by kernel_rfl) hl
          have d11 : xs 11 = .int .i64 rs[k].to_ := hF l3 11 (by decide) (RI.dep haft 11 (by kernel_rfl))
          exact RI.op_val (d := some 78) (v := .int .i64 (rs[k].to_ + 1)) hi (by kernel_rfl) rfl (by simp [go_sem, frame16, d11, hwr]) (InvS.val hK hF 12 _ (by kernel_rfl) (by decide) (by decide) (by decide) rfl)
        · have ho := Option.some.inj hi
          subst ho
          have l3 : listed.getD 20 false = false := hcl.not 20 (by kernel_rfl) hl
          have l2 : listed.getD 1000 false = false := by simp [Array.getD, hs]
          have d6 : xs 6 = .int .i64 rs[k].to_ := hF l3 6 (by decide) (RI.dep haft 6 (by kernel_rfl))
          have d12 : xs 12 = .int .i64 (rs[k].to_ + 1) := hF l3 12 (by decide) (RI.dep haft 12 (by kernel_rfl))
          have e6 : xs = upd xs 6 (.int .i64 (rs[k].to_)) := upd_id d6
          have e12 : xs = upd xs 12 (.int .i64 (rs[k].to_ + 1)) := upd_id d12
          rw [show xs = upd (upd xs 6 (.int .i64 (rs[k].to_))) 12 (.int .i64 (rs[k].to_ + 1)) by rw [← e6]; exact e12] at hF hK ⊢
          clear e6 d6 e12 d12
          clear t0 t5 t8
          refine RI.op_one hi (by kernel_rfl) fun KK hKK => ?_
          simp only [frame16, upd]
          go_simp
          exact hKK _ _ (InvS.grow hlt hK hF 13 (.slice (some ⟨W.heap.size, 0, none⟩) 3 3) (by kernel_rfl) (by decide) (by decide) l2 l3 (Keeps.of_below ((Below.refl _ _).alloc (Nat.le_refl _) _)) (by rw [RI.up_else (by decide)]; exact hK.rd.alloc _) (fun j u => Ok16.mono (Near.of_keeps hRb (Keeps.of_below ((Below.refl _ _).alloc (Nat.le_refl _) _))) j) ⟨W.heap.size, rfl, hK.size, by simp, by first | (rw [World.cell?_alloc_new]; done) | (rw [World.cell?_alloc_new]; rfl), by first | (rw [World.cell?_alloc_new]; done) | (rw [World.cell?_alloc_new]; rfl), by first | (rw [World.cell?_alloc_new]; done) | (rw [World.cell?_alloc_new]; rfl)⟩)
        · have ho := Option.some.inj hi
          subst ho
          have l3 : listed.getD 20 false = false := hcl.not 20 (by kernel_rfl) hl
          exact RI.op_val (d := some 80) (v := .pointer (some ⟨R, 0, none⟩)) hi (by kernel_rfl) rfl (by simp [go_sem, frame16, t0]) (InvS.val hK hF 14 _ (by kernel_rfl) (by decide) (by decide) (by decide) rfl)
        · have ho := Option.some.inj hi
          subst ho
          have l3 : listed.getD 20 false = false := hcl.not 20 (by kernel_rfl) hl
          have l2 : listed.getD 1000 false = false := by simp [Array.getD, hs]
          have d14 : xs 14 = .pointer (some ⟨R, 0, none⟩) := hF l3 14 (by decide) (RI.dep haft 14 (by kernel_rfl))
          have hrd := hK.rd
          rw [RI.not_up hl, if_neg (by decide)] at hrd
          refine RI.op_one hi (by kernel_rfl) fun KK hKK => ?_
          refine wp_callTwo (HP.out (p + 1 + 1) 3 W hrd (by omega) (by omega)) (fun e w' h => by obtain ⟨⟨v, h, _⟩, _⟩ := h; exact ⟨_, h⟩) (enters_of Tryz.func15 (by kernel_rfl) rfl) _ _ _ (d := some 81) rfl (by rfl) ((show _ = xs 14 by kernel_rfl).trans d14) (by rfl) ?_
          rintro r w5 ⟨⟨y, he, hv1, hv2, _⟩, hr3, hk3⟩
          cases he
          have hv2 := hv2 (by omega)
          obtain ⟨yn, rfl⟩ : ∃ m : Nat, y = (m : Int) := ⟨y.toNat, by omega⟩
          exact hKK _ _ (InvS.grow hlt hK hF 15 _ (by kernel_rfl) (by decide) (by decide) l2 l3 hk3 (by rw [RI.up_same (by rw [hs]; decide), if_pos rfl]; exact hr3) (fun j u => Ok16.mono (Near.of_keeps hRb hk3) j) ⟨yn, rfl, by omega⟩)
        · have ho := Option.some.inj hi
          subst ho
          have l3 : listed.getD 20 false = false := hcl.not 20 (by kernel_rfl) hl
          have d13 : ∃ b, xs 13 = .slice (some ⟨b, 0, none⟩) 3 3 ∧ w2.heap.size ≤ b ∧ b < W.heap.size ∧ W.cell? ⟨b, 0, none⟩ = some (.int .i64 (-1)) ∧ W.cell? ⟨b, 1, none⟩ = some (.int .i64 (rs[k].to_)) ∧ W.cell? ⟨b, 2, none⟩ = some (.int .i64 (rs[k].to_ + 1)) := hF l3 13 (by decide) (RI.dep haft 13 (by kernel_rfl))
          have d15 : ∃ y : Nat, xs 15 = .int .i64 (y : Int) ∧ y < 3 := hF l3 15 (by decide) (RI.dep haft 15 (by kernel_rfl))
          obtain ⟨b, e1, hb1, hb2, c0, c1, c2⟩ := d13
          obtain ⟨y, e2, hy⟩ := d15
          have hcz : ∃ z : Int, W.cell? ⟨b, y, none⟩ = some (.int .i64 z) ∧ -1 ≤ z ∧ z ≤ 999999 := by
            rcases (show y = 0 ∨ y = 1 ∨ y = 2 by omega) with rfl | rfl | rfl
            · exact ⟨_, c0, by omega, by omega⟩
            · exact ⟨_, c1, by omega, by omega⟩
            · exact ⟨_, c2, by omega, by omega⟩
          obtain ⟨z, hcz, hz1, hz2⟩ := hcz
          have hyi : ¬ (3 : Int) ≤ (y : Int) := by omega
          exact RI.op_val (d := some 82) (v := .pointer (some ⟨b, y, none⟩)) hi (by kernel_rfl) rfl (by simp [go_sem, frame16, e1, e2, hyi]) (InvS.val hK hF 16 _ (by kernel_rfl) (by decide) (by decide) (by decide) ⟨b, y, z, rfl, hb1, hb2, hcz, hz1, hz2⟩)
        · have ho := Option.some.inj hi
          subst ho
          have l3 : listed.getD 20 false = false := hcl.not 20 (by kernel_rfl) hl
          have d16 : ∃ (b y : Nat) (z : Int), xs 16 = .pointer (some ⟨b, y, none⟩) ∧ w2.heap.size ≤ b ∧ b < W.heap.size ∧ W.cell? ⟨b, y, none⟩ = some (.int .i64 z) ∧ -1 ≤ z ∧ z ≤ 999999 := hF l3 16 (by decide) (RI.dep haft 16 (by kernel_rfl))
          obtain ⟨b, y, z, e1, hb1, hb2, hcz, hz1, hz2⟩ := d16
          exact RI.op_val (d := some 83) (v := .int .i64 z) hi (by kernel_rfl) rfl (by simp [go_sem, frame16, e1, hcz]) (InvS.val hK hF 17 _ (by kernel_rfl) (by decide) (by decide) (by decide) ⟨z, rfl, hz1, hz2⟩)
        · have ho := Option.some.inj hi
          subst ho
          have l3 : listed.getD 20 false = false := hcl.not 20 (by kernel_rfl) hl
          have d0 : xs 0 = .slice (some ⟨g, 0, none⟩) rs.length cv := hF l3 0 (by decide) (RI.dep haft 0 (by kernel_rfl))
          have d1 : xs 1 = .int .i64 (k : Int) := hF l3 1 (by decide) (RI.dep haft 1 (by kernel_rfl))
          exact RI.op_val (d := some 84) (v := .pointer (some ⟨g, k * 5, none⟩)) hi (by kernel_rfl) rfl (by simp [go_sem, frame16, d0, d1, hx2]) (InvS.val hK hF 18 _ (by kernel_rfl) (by decide) (by decide) (by decide) rfl)
        · have ho := Option.some.inj hi
          subst ho
          have l3 : listed.getD 20 false = false := hcl.not 20 (by kernel_rfl) hl
          have d18 : xs 18 = .pointer (some ⟨g, k * 5, none⟩) := hF l3 18 (by decide) (RI.dep haft 18 (by kernel_rfl))
          exact RI.op_val (d := some 85) (v := .pointer (some ⟨g, k * 5 + 2, none⟩)) hi (by kernel_rfl) rfl (by simp [go_sem, frame16, d18]) (InvS.val hK hF 19 _ (by kernel_rfl) (by decide) (by decide) (by decide) rfl)
        · have ho := Option.some.inj hi
          subst ho
          have l3 : listed.getD 20 false = false := RI.not_up hl
          have l2 : listed.getD 1000 false = false := by simp [Array.getD, hs]
          have d19 : xs 19 = .pointer (some ⟨g, k * 5 + 2, none⟩) := hF l3 19 (by decide) (RI.dep haft 19 (by kernel_rfl))
          have d17 : ∃ z : Int, xs 17 = .int .i64 z ∧ -1 ≤ z ∧ z ≤ 999999 := hF l3 17 (by decide) (RI.dep haft 17 (by kernel_rfl))
          obtain ⟨z, e1, hz1, hz2⟩ := d17
          have hg0 := hK.gath l2 l3
          obtain ⟨g', hg', _, _, _, cur', hcur', hcs'⟩ := gathD_base (hg0.toD hlt) rfl (by omega)
          simp only [Option.some.injEq, Addr.mk.injEq, and_true] at hg'
          subst hg'
          have u0 := hcur'.cell (k * 5 + 2)
          have u1 := hcur'.frozen (k * 5 + 2)
          rw [Array.getElem?_eq_getElem (by omega : k * 5 + 2 < cur'.size)] at u0
          generalize cur'[k * 5 + 2] = uu at u0
          have hin := InvS.last (fr := frame16 T) (Ok := (Ok16 R g rs.length cv k w2.heap.size rs[k].to_ undef)) (m := 20) (xs := xs) (base := w2.heap.size) (ap := 1000) (pk := 15) (st := 20) hK rfl (by rw [hs]; decide) (by decide) (by omega) (by omega) (k * 5 + 2) (.int .i64 z) (GathO.fin1 hg0 rfl hlt hkn (by omega) (Cal.wf_small ⟨hz1, hz2⟩))
          have HIN : Hid _ := hin
          clear hin hg0 hcur' hcs' hK hF t0 t5 t8
          refine RI.op_one hi (by kernel_rfl) fun KK hKK => ?_
          have hKK2 := hKK _ _ HIN.out
          simp only [frame16, d19, e1] at hKK2 ⊢
          go_simp
          exact hKK2
        -- region 16 ends
      have hbl : rs[k].but.length ≤ 4 := (HSM.out rs[k] (List.getElem_mem _)).2.2.2.2.1
      by_cases hC4 : x = 4
      · subst hC4
        have hKb : ∀ b, rowB (vs[k]'hkv) = some b → b < w2.heap.size := fun b e => ((O2.out.but k hkn hkv).1.block e).2.1
        go_wp2_with fail
        -- region 20 begins
        refine wp_region_noPanic (wp_frame _ frame20 (by kernel_rfl) fun T hT => ?_)
        have t0 : T 0 = .pointer (some ⟨R, 0, none⟩) := by rw [hT]; rfl
        have t5 : T 5 = .slice (some ⟨g, 0, none⟩) rs.length cv := by rw [hT]; rfl
        have t8 : T 8 = .int .i64 (k : Int) := by rw [hT]; rfl
        clear hT
        have hd0 : Below w2.heap.size w2 w2.drew := (Below.refl _ _).drew
        refine RI.wp_region_inv2 (by kernel_rfl) (by kernel_rfl) (InvS (frame20 T) (Ok20 R g rs.length cv k w2.heap.size 0 (vs[k]'hkv)) 16 9 13 16 (KO R w.heap.size g rs.length cv k a len cap bs (p + 1 + 1) rs vs w w2.heap.size 9 13 16)) ⟨fun _ => undef, by kernel_rfl, ⟨K2.out.trans (Keeps.of_below hd0), Nat.le_refl _, by rw [RI.up_new]; exact R2.out.below hd0, by rw [RI.up_new, RI.up_new]; exact O2.out.below hd0⟩, fun _ j _ h => by rw [RI.up_new] at h; cases h⟩ (fun i o listed act W hi hs hl haft hcl hinv => ?_) (fun listed act W hs hall hinv => ?_)
        case refine_2 =>
          obtain ⟨xs, rfl, hK, hF⟩ := hinv
          have lst : listed.getD 16 false = true := by have := hall 16 (by decide); simpa [Array.getD, hs] using this
          have lpk : listed.getD 9 false = true := by have := hall 9 (by decide); simpa [Array.getD, hs] using this
          have hrd := hK.rd
          rw [lpk, if_pos rfl] at hrd
          have hru := hK.rules
          rw [lst, if_pos rfl] at hru
          obtain ⟨rs', hD, hn⟩ := hru
          have HFI : Hid _ := And.intro hD (And.intro hn (And.intro hrd hK.keep))
          clear hD hn hrd hK hF hall lst lpk
          simp only [frame20, t5]
          refine NoPanic.normal ?_
          go_wp2_with fail
          go_ret
          exact ⟨rs', _, p + 1 + 1 + 1, rfl, HFI.out.1, by have := HFI.out.2.1; omega, HFI.out.2.2.1, by omega, by omega, HFI.out.2.2.2⟩
        obtain ⟨xs, rfl, hK, hF⟩ := hinv
        have hi17 : i < 17 := (Array.getElem?_eq_some_iff.1 hi).1
        rcases (show i = 0 ∨ i = 1 ∨ i = 2 ∨ i = 3 ∨ i = 4 ∨ i = 5 ∨ i = 6 ∨ i = 7 ∨ i = 8 ∨ i = 9 ∨ i = 10 ∨ i = 11 ∨ i = 12 ∨ i = 13 ∨ i = 14 ∨ i = 15 ∨ i = 16 by omega) with rfl | rfl | rfl | rfl | rfl | rfl | rfl | rfl | rfl | rfl | rfl | rfl | rfl | rfl | rfl | rfl | rfl
        · have ho := Option.some.inj hi
          subst ho
          have l3 : listed.getD 16 false = false := hcl.not 20 (by kernel_rfl) hl
          exact RI.op_val (d := some 99) (v := .slice (some ⟨g, 0, none⟩) rs.length cv) hi (by kernel_rfl) rfl (by simp [go_sem, frame20, t5]) (InvS.val hK hF 0 _ (by kernel_rfl) (by decide) (by decide) (by decide) rfl)
        · have ho := Option.some.inj hi
          subst ho
          have l3 : listed.getD 16 false = false := hcl.not 20 (by kernel_rfl) hl
          exact RI.op_val (d := some 100) (v := .int .i64 (k : Int)) hi (by kernel_rfl) rfl (by simp [go_sem, frame20, t8]) (InvS.val hK hF 1 _ (by kernel_rfl) (by decide) (by decide) (by decide) rfl)
        · have ho := Option.some.inj hi
          subst ho
          have l3 : listed.getD 16 false = false := hcl.not 20 (by kernel_rfl) hl
          exact RI.op_val (d := some 101) (v := .slice (some ⟨g, 0, none⟩) rs.length cv) hi (by kernel_rfl) rfl (by simp [go_sem, frame20, t5]) (InvS.val hK hF 2 _ (by kernel_rfl) (by decide) (by decide) (by decide) rfl)
        · have ho := Option.some.inj hi
          subst ho
          have l3 : listed.getD 16 false = false := hcl.not 20 (by kernel_rfl) hl
          exact RI.op_val (d := some 102) (v := .int .i64 (k : Int)) hi (by kernel_rfl) rfl (by simp [go_sem, frame20, t8]) (InvS.val hK hF 3 _ (by kernel_rfl) (by decide) (by decide) (by decide) rfl)
        · have ho := Option.some.inj hi
          subst ho
          have l3 : listed.getD 16 false = false := hcl.not 20 (by kernel_rfl) hl
          have d2 : xs 2 = .slice (some ⟨g, 0, none⟩) rs.length cv := hF l3 2 (by decide) (RI.dep haft 2 (by kernel_rfl))
          have d3 : xs 3 = .int .i64 (k : Int) := hF l3 3 (by decide) (RI.dep haft 3 (by kernel_rfl))
          exact RI.op_val (d := some 103) (v := .pointer (some ⟨g, k * 5, none⟩)) hi (by kernel_rfl) rfl (by simp [go_sem, frame20, d2, d3, hx2]) (InvS.val hK hF 4 _ (by kernel_rfl) (by decide) (by decide) (by decide) rfl)
        · have ho := Option.some.inj hi
          subst ho
          have l3 : listed.getD 16 false = false := hcl.not 20 (by kernel_rfl) hl
          have d4 : xs 4 = .pointer (some ⟨g, k * 5, none⟩) := hF l3 4 (by decide) (RI.dep haft 4 (by kernel_rfl))
          exact RI.op_val (d := some 104) (v := .pointer (some ⟨g, k * 5 + 4, none⟩)) hi (by kernel_rfl) rfl (by simp [go_sem, frame20, d4]) (InvS.val hK hF 5 _ (by kernel_rfl) (by decide) (by decide) (by decide) rfl)
        · have ho := Option.some.inj hi
          subst ho
          have l3 : listed.getD 16 false = false := hcl.not 20 (by kernel_rfl) hl
          have l2 : listed.getD 13 false = false := hcl.not 20 (by kernel_rfl) hl
          have d5 : xs 5 = .pointer (some ⟨g, k * 5 + 4, none⟩) := hF l3 5 (by decide) (RI.dep haft 5 (by kernel_rfl))
          have c0 := (hK.gath l2 l3).cell (k := k) (j := 4) hkn hkv (by omega)
          simp [Cal.cellsR] at c0
          exact RI.op_val (d := some 105) (v := (vs[k]'hkv)) hi (by kernel_rfl) rfl (by simp [go_sem, frame20, d5, c0]) (InvS.val hK hF 6 _ (by kernel_rfl) (by decide) (by decide) (by decide) rfl)
        · have ho := Option.some.inj hi
          subst ho
          have l3 : listed.getD 16 false = false := hcl.not 20 (by kernel_rfl) hl
          have l2 : listed.getD 13 false = false := hcl.not 20 (by kernel_rfl) hl
          clear t0 t5 t8
          refine RI.op_one hi (by kernel_rfl) fun KK hKK => ?_
          simp only [frame20, upd]
          go_simp
          exact hKK _ _ (InvS.grow hlt hK hF 7 (.slice (some ⟨W.heap.size, 0, none⟩) 4 4) (by kernel_rfl) (by decide) (by decide) l2 l3 (Keeps.of_below ((Below.refl _ _).alloc (Nat.le_refl _) _)) (by rw [RI.up_else (by decide)]; exact hK.rd.alloc _) (fun j u => Ok20.mono (Near.of_keeps hRb (Keeps.of_below ((Below.refl _ _).alloc (Nat.le_refl _) _))) j) ⟨W.heap.size, rfl, hK.size, by simp, by first | (rw [World.cell?_alloc_new]; done) | (rw [World.cell?_alloc_new]; rfl), by first | (rw [World.cell?_alloc_new]; done) | (rw [World.cell?_alloc_new]; rfl), by first | (rw [World.cell?_alloc_new]; done) | (rw [World.cell?_alloc_new]; rfl), by first | (rw [World.cell?_alloc_new]; done) | (rw [World.cell?_alloc_new]; rfl)⟩)
        · have ho := Option.some.inj hi
          subst ho
          have l3 : listed.getD 16 false = false := hcl.not 20 (by kernel_rfl) hl
          exact RI.op_val (d := some 107) (v := .pointer (some ⟨R, 0, none⟩)) hi (by kernel_rfl) rfl (by simp [go_sem, frame20, t0]) (InvS.val hK hF 8 _ (by kernel_rfl) (by decide) (by decide) (by decide) rfl)
        · have ho := Option.some.inj hi
          subst ho
          have l3 : listed.getD 16 false = false := hcl.not 20 (by kernel_rfl) hl
          have l2 : listed.getD 13 false = false := hcl.not 20 (by kernel_rfl) hl
          have d8 : xs 8 = .pointer (some ⟨R, 0, none⟩) := hF l3 8 (by decide) (RI.dep haft 8 (by kernel_rfl))
          have hrd := hK.rd
          rw [RI.not_up hl, if_neg (by decide)] at hrd
          refine RI.op_one hi (by kernel_rfl) fun KK hKK => ?_
          refine wp_callTwo (HP.out (p + 1 + 1) 4 W hrd (by omega) (by omega)) (fun e w' h => by obtain ⟨⟨v, h, _⟩, _⟩ := h; exact ⟨_, h⟩) (enters_of Tryz.func15 (by kernel_rfl) rfl) _ _ _ (d := some 108) rfl (by rfl) ((show _ = xs 8 by kernel_rfl).trans d8) (by rfl) ?_
          rintro r w5 ⟨⟨y, he, hv1, hv2, _⟩, hr3, hk3⟩
          cases he
          have hv2 := hv2 (by omega)
          obtain ⟨yn, rfl⟩ : ∃ m : Nat, y = (m : Int) := ⟨y.toNat, by omega⟩
          exact hKK _ _ (InvS.grow hlt hK hF 9 _ (by kernel_rfl) (by decide) (by decide) l2 l3 hk3 (by rw [RI.up_same (by rw [hs]; decide), if_pos rfl]; exact hr3) (fun j u => Ok20.mono (Near.of_keeps hRb hk3) j) ⟨yn, rfl, by omega⟩)
        · have ho := Option.some.inj hi
          subst ho
          have l3 : listed.getD 16 false = false := hcl.not 20 (by kernel_rfl) hl
          have d7 : ∃ b, xs 7 = .slice (some ⟨b, 0, none⟩) 4 4 ∧ w2.heap.size ≤ b ∧ b < W.heap.size ∧ W.cell? ⟨b, 0, none⟩ = some (.int .i64 (0)) ∧ W.cell? ⟨b, 1, none⟩ = some (.int .i64 (-1)) ∧ W.cell? ⟨b, 2, none⟩ = some (.int .i64 (100000)) ∧ W.cell? ⟨b, 3, none⟩ = some (.int .i64 (100001)) := hF l3 7 (by decide) (RI.dep haft 7 (by kernel_rfl))
          have d9 : ∃ y : Nat, xs 9 = .int .i64 (y : Int) ∧ y < 4 := hF l3 9 (by decide) (RI.dep haft 9 (by kernel_rfl))
          obtain ⟨b, e1, hb1, hb2, c0, c1, c2, c3⟩ := d7
          obtain ⟨y, e2, hy⟩ := d9
          have hcz : ∃ z : Int, W.cell? ⟨b, y, none⟩ = some (.int .i64 z) ∧ -1 ≤ z ∧ z ≤ 999999 := by
            rcases (show y = 0 ∨ y = 1 ∨ y = 2 ∨ y = 3 by omega) with rfl | rfl | rfl | rfl
            · exact ⟨_, c0, by omega, by omega⟩
            · exact ⟨_, c1, by omega, by omega⟩
            · exact ⟨_, c2, by omega, by omega⟩
            · exact ⟨_, c3, by omega, by omega⟩
          obtain ⟨z, hcz, hz1, hz2⟩ := hcz
          have hyi : ¬ (4 : Int) ≤ (y : Int) := by omega
          exact RI.op_val (d := some 109) (v := .pointer (some ⟨b, y, none⟩)) hi (by kernel_rfl) rfl (by simp [go_sem, frame20, e1, e2, hyi]) (InvS.val hK hF 10 _ (by kernel_rfl) (by decide) (by decide) (by decide) ⟨b, y, z, rfl, hb1, hb2, hcz, hz1, hz2⟩)
        · have ho := Option.some.inj hi
          subst ho
          have l3 : listed.getD 16 false = false := hcl.not 20 (by kernel_rfl) hl
          have d10 : ∃ (b y : Nat) (z : Int), xs 10 = .pointer (some ⟨b, y, none⟩) ∧ w2.heap.size ≤ b ∧ b < W.heap.size ∧ W.cell? ⟨b, y, none⟩ = some (.int .i64 z) ∧ -1 ≤ z ∧ z ≤ 999999 := hF l3 10 (by decide) (RI.dep haft 10 (by kernel_rfl))
          obtain ⟨b, y, z, e1, hb1, hb2, hcz, hz1, hz2⟩ := d10
          exact RI.op_val (d := some 110) (v := .int .i64 z) hi (by kernel_rfl) rfl (by simp [go_sem, frame20, e1, hcz]) (InvS.val hK hF 11 _ (by kernel_rfl) (by decide) (by decide) (by decide) ⟨z, rfl, hz1, hz2⟩)
        · have ho := Option.some.inj hi
          subst ho
          have l3 : listed.getD 16 false = false := hcl.not 20 (by kernel_rfl) hl
          have l2 : listed.getD 13 false = false := hcl.not 20 (by kernel_rfl) hl
          have d11 : ∃ z : Int, xs 11 = .int .i64 z ∧ -1 ≤ z ∧ z ≤ 999999 := hF l3 11 (by decide) (RI.dep haft 11 (by kernel_rfl))
          obtain ⟨z, d11, hz⟩ := d11
          have e11 : xs = upd xs 11 (.int .i64 (z)) := upd_id d11
          rw [e11] at hF hK ⊢
          clear e11 d11
          clear t0 t5 t8
          refine RI.op_one hi (by kernel_rfl) fun KK hKK => ?_
          simp only [frame20, upd]
          go_simp
          exact hKK _ _ (InvS.grow hlt hK hF 12 (.slice (some ⟨W.heap.size, 0, none⟩) 1 1) (by kernel_rfl) (by decide) (by decide) l2 l3 (Keeps.of_below ((Below.refl _ _).alloc (Nat.le_refl _) _)) (by rw [RI.up_else (by decide)]; exact hK.rd.alloc _) (fun j u => Ok20.mono (Near.of_keeps hRb (Keeps.of_below ((Below.refl _ _).alloc (Nat.le_refl _) _))) j) ⟨W.heap.size, z, rfl, hK.size, by simp, by first | (rw [World.cell?_alloc_new]; done) | (rw [World.cell?_alloc_new]; rfl), hz⟩)
        · have ho := Option.some.inj hi
          subst ho
          have l3 : listed.getD 16 false = false := hcl.not 20 (by kernel_rfl) hl
          have l2 : listed.getD 13 false = false := RI.not_up hl
          have d6 : xs 6 = (vs[k]'hkv) := hF l3 6 (by decide) (RI.dep haft 6 (by kernel_rfl))
          have d12 : ∃ (b : Nat) (z : Int), xs 12 = .slice (some ⟨b, 0, none⟩) 1 1 ∧ w2.heap.size ≤ b ∧ b < W.heap.size ∧ W.cell? ⟨b, 0, none⟩ = some (.int .i64 z) ∧ -1 ≤ z ∧ z ≤ 999999 := hF l3 12 (by decide) (RI.dep haft 12 (by kernel_rfl))
          obtain ⟨b, z, e2, hb1, hb2, hcz, hz⟩ := d12
          have hg0 := hK.gath l2 l3
          have hbut := (hg0.but k hkn hkv).1
          refine RI.op_one hi (by kernel_rfl) fun KK hKK => ?_
          refine op_push _ _ rfl w.heap.size (vs[k]'hkv) rs[k].but ((show _ = xs 6 by kernel_rfl).trans d6) hbut ⟨b, 0, none⟩ 1 z ((show _ = xs 12 by kernel_rfl).trans e2) hcz (by omega) (by have := hK.size; omega) (d := some 112) rfl ?_
          intro v' w' h1 h2 h3 h4
          obtain ⟨g', hg', _, _, hgs', cur', hcur', hcs'⟩ := gathD_base (hg0.toD hlt) rfl (by omega)
          simp only [Option.some.injEq, Addr.mk.injEq, and_true] at hg'
          subst hg'
          have hcur2 : Holds w' g 50 cur' := (h3 g hgs' (fun e => hg0.far hkv e rfl)).trans hcur'
          refine hKK _ _ ⟨upd xs 13 v', by kernel_rfl, ⟨hK.keep.grow h2 (Nat.le_refl _), Nat.le_trans hK.size h2.size, ?_, ?_⟩, fun _ j hj hl2 => ?_⟩
          · rw [RI.up_else (by decide)]; exact Rd.later hK.rd h2 hlt
          · rw [RI.up_else (by decide), l3, RI.up_same (by rw [hs]; decide), upd_same]
            exact ⟨⟨_, (GathO.more hg0 hkn hkv (Cal.wf_small hz) h1 h2.size h3 h4).toD hlt, by simp⟩, cur', hcur2, by omega⟩
          · by_cases e : j = 13
            · subst e; rw [upd_same]; obtain ⟨a9, c9, e9⟩ := h1.form; exact ⟨a9, _, c9, e9⟩
            · rw [upd_else xs v' e]
              have hl3 := (RI.up_inv hl2).resolve_left e
              exact Ok20.mono ⟨h2.size, fun b hb1 hb2 => h3 b hb2 (fun e => by have := hKb b e; omega)⟩ j (hF l3 j hj hl3)
        · have ho := Option.some.inj hi
          subst ho
          have l3 : listed.getD 16 false = false := hcl.not 20 (by kernel_rfl) hl
          have d0 : xs 0 = .slice (some ⟨g, 0, none⟩) rs.length cv := hF l3 0 (by decide) (RI.dep haft 0 (by kernel_rfl))
          have d1 : xs 1 = .int .i64 (k : Int) := hF l3 1 (by decide) (RI.dep haft 1 (by kernel_rfl))
          exact RI.op_val (d := some 113) (v := .pointer (some ⟨g, k * 5, none⟩)) hi (by kernel_rfl) rfl (by simp [go_sem, frame20, d0, d1, hx2]) (InvS.val hK hF 14 _ (by kernel_rfl) (by decide) (by decide) (by decide) rfl)
        · have ho := Option.some.inj hi
          subst ho
          have l3 : listed.getD 16 false = false := hcl.not 20 (by kernel_rfl) hl
          have d14 : xs 14 = .pointer (some ⟨g, k * 5, none⟩) := hF l3 14 (by decide) (RI.dep haft 14 (by kernel_rfl))
          exact RI.op_val (d := some 114) (v := .pointer (some ⟨g, k * 5 + 4, none⟩)) hi (by kernel_rfl) rfl (by simp [go_sem, frame20, d14]) (InvS.val hK hF 15 _ (by kernel_rfl) (by decide) (by decide) (by decide) rfl)
        · have ho := Option.some.inj hi
          subst ho
          have l3 : listed.getD 16 false = false := RI.not_up hl
          have d15 : xs 15 = .pointer (some ⟨g, k * 5 + 4, none⟩) := hF l3 15 (by decide) (RI.dep haft 15 (by kernel_rfl))
          have d13 : ∃ (a : Option Addr) (l c : Nat), xs 13 = .slice a l c := hF l3 13 (by decide) (RI.dep haft 13 (by kernel_rfl))
          obtain ⟨a9, l9, c9, e1⟩ := d13
          have l2 : listed.getD 13 false = true := RI.dep haft 13 (by kernel_rfl)
          have hru := hK.rules
          rw [l3, l2, if_neg (by decide), if_pos rfl] at hru
          obtain ⟨hfin, cur', hcur', hcs'⟩ := hru
          have u0 := hcur'.cell (k * 5 + 4)
          have u1 := hcur'.frozen (k * 5 + 4)
          rw [Array.getElem?_eq_getElem (by omega : k * 5 + 4 < cur'.size)] at u0
          generalize cur'[k * 5 + 4] = uu at u0
          have hin := InvS.last (fr := frame20 T) (Ok := (Ok20 R g rs.length cv k w2.heap.size 0 (vs[k]'hkv))) (m := 16) (xs := xs) (base := w2.heap.size) (ap := 13) (pk := 9) (st := 16) hK rfl (by rw [hs]; decide) (by decide) (by omega) (by omega) (k * 5 + 4) (xs 13) hfin
          rw [e1] at hin
          have HIN : Hid _ := hin
          clear hin hcur' hcs' hK hF t0 t5 t8 hfin
          refine RI.op_one hi (by kernel_rfl) fun KK hKK => ?_
          have hKK2 := hKK _ _ HIN.out
          simp only [frame20, d15, e1] at hKK2 ⊢
          go_simp
          exact hKK2
        -- region 20 ends
      have hC5 : x = 5 := by omega
      subst hC5
      have hbl : rs[k].but.length ≤ 4 := (HSM.out rs[k] (List.getElem_mem _)).2.2.2.2.1
      go_wp2_with fail
      go_loopw [9] (fun t wr => ∃ (es : List Rul) (ws : List Value) (j : Nat) (p' : Int) (hke : k < es.length), t = .int .i64 (j : Int) ∧ es.length = rs.length ∧ GathO wr w.heap.size (.slice (some ⟨g, 0, none⟩) rs.length cv) es ws ∧ es[k].but.length = rs[k].but.length + j ∧ es[k].but.length ≤ 9 ∧ Rd wr R a len cap bs p' ∧ p + 2 ≤ p' ∧ p' ≤ p + 2 + (j : Int) ∧ Keeps R w wr) (fun t _ => 10 - (intOf t).toNat)
      case atStart => exact ⟨rs, vs, 0, _, hkn, rfl, rfl, O2.out, rfl, by omega, R2.out, by omega, by omega, K2.out⟩
      case round =>
        obtain ⟨es, ws, j, p', hke, rfl, hel, hG, hbj, hb9, hR5, hp1, hp2, hK5⟩ := hrel
        have G5 : Hid _ := hG
        have R5 : Hid _ := hR5
        have K5 : Hid (Keeps R w wr) := hK5
        have HBJ : Hid (es[k].but.length = rs[k].but.length + j) := hbj
        have hj9 : j ≤ 9 := by omega
        clear hbj
        have hkw : k < ws.length := by have := G5.out.len; omega
        obtain ⟨a9, c9, e9⟩ := (G5.out.but k hke hkw).1.form
        clear hG hR5 hK5 D2 R2 K2 O2 hcur hcs hgF hg2
        go_wp2_with fail
        -- region 23 begins
        refine wp_region_noPanic (wp_act (frame23 R g k rs.length w.heap.size ra rc cv j u7 u15 u16 u17 u18 u19 u20 u21 u22 u23 u24 u25 u26 u27 u28 u29 u127 u128 u129 u130 u131 u132 u133 u134 u135 u136 u137 u138 u139 u140 u141 (fun i => match i with | 0 => u117 | 1 => u118 | 2 => u119 | 3 => u120 | 4 => u121 | 5 => u122 | 6 => u123 | 7 => u124 | 8 => u125 | _ => u126)) (by kernel_rfl) ?_)
        have hd0 : Below wr.heap.size wr wr.drew := (Below.refl _ _).drew
        refine RI.wp_region_inv2 (by kernel_rfl) (by kernel_rfl) (InvS (frame23 R g k rs.length w.heap.size ra rc cv j u7 u15 u16 u17 u18 u19 u20 u21 u22 u23 u24 u25 u26 u27 u28 u29 u127 u128 u129 u130 u131 u132 u133 u134 u135 u136 u137 u138 u139 u140 u141) (Ok23 R g rs.length cv k (es[k].but.length : Int) (.slice a9 es[k].but.length c9)) 10 7 1001 1000 (KO R w.heap.size g rs.length cv k a len cap bs p' es ws w wr.heap.size 7 1001 1000)) ⟨_, rfl, ⟨K5.out.trans (Keeps.of_below hd0), Nat.le_refl _, by rw [RI.up_new]; exact R5.out.below hd0, by rw [RI.up_new, RI.up_new]; exact G5.out.below hd0⟩, fun _ j _ h => by rw [RI.up_new] at h; cases h⟩ (fun i o listed act W hi hs hl haft hcl hinv => ?_) (fun listed act W hs hall hinv => ?_)
        case refine_2 =>
          obtain ⟨xs, rfl, hK, hF⟩ := hinv
          have l3 : listed.getD 1000 false = false := by simp [Array.getD, hs]
          have l2 : listed.getD 1001 false = false := by simp [Array.getD, hs]
          have lpk : listed.getD 7 false = true := by have := hall 7 (by decide); simpa [Array.getD, hs] using this
          have l9 : listed.getD 9 false = true := by have := hall 9 (by decide); simpa [Array.getD, hs] using this
          have hrd := hK.rd
          rw [lpk, if_pos rfl] at hrd
          obtain ⟨y, d9, hy⟩ : ∃ y : Nat, xs 9 = .bool (decide ((es[k].but.length : Int) < 8 + (y : Int))) ∧ y < 2 := hF l3 9 (by decide) l9
          have G6 : Hid _ := hK.gath l2 l3
          have R6 : Hid _ := hrd
          have K6 : Hid (Keeps R w W) := hK.keep
          have hs6 : w.heap.size ≤ W.heap.size := hK.keep.size
          clear hrd hK hF hall l2 l3 lpk l9 hs
          simp only [frame23, d9]
          refine NoPanic.normal ?_
          by_cases hmore : (es[k].but.length : Int) < 8 + (y : Int)
          · have dm : decide ((es[k].but.length : Int) < 8 + (y : Int)) = true := decide_eq_true hmore
            rw [dm]
            have c4 := G6.out.cell (k := k) (j := 4) hke hkw (by omega)
            simp [Cal.cellsR] at c4
            rw [e9] at c4
            have hw5 : IntKind.i64.wrap (500 + (j : Int)) = 500 + (j : Int) := by rw [IntKind.wrap_i64]; omega
            have hbut : ButO W w.heap.size (.slice a9 es[k].but.length c9) es[k].but := e9 ▸ (G6.out.but k hke hkw).1
            have HBU : Hid _ := hbut
            have hnb : rowB (ws[k]'hkw) = rowB (.slice a9 es[k].but.length c9) := by rw [e9]
            have HNB : Hid _ := hnb
            obtain ⟨g', hg', _, hgF', hgs', cur', hcur', hcs'⟩ := gathD_base (G6.out.toD hlt) hel (by omega)
            simp only [Option.some.injEq, Addr.mk.injEq, and_true] at hg'
            subst hg'
            have HC6 : Hid (Holds W g 50 cur') := hcur'
            clear hbut hnb hcur'
            go_wp2_with (at_builtin; refine wp_push rfl _ _ rfl w.heap.size (.slice a9 es[k].but.length c9) es[k].but rfl ?q1 ⟨W.heap.size, 0, none⟩ 1 (500 + (j : Int)) rfl ?q2 ?q3 ?q4 ?q5)
            case q1 => exact (ButO.stay HBU.out (by simp) fun b e => ((Below.refl _ _).alloc (Nat.le_refl _) _).block b (ButO.block HBU.out e).2.1)
            case q2 => first | (rw [World.cell?_alloc_new]; done) | (rw [World.cell?_alloc_new]; rfl)
            case q3 => omega
            case q4 => simp; omega
            intro v' w' h1 h2 h3 h4
            have H1 : Hid _ := h1
            have H2 : Hid _ := h2
            have H3 : Hid _ := h3
            have H4 : Hid _ := h4
            have hcur2 : Holds w' g 50 cur' := (h3 g (by first | omega | (simp; omega)) (fun e => G6.out.far hkw (HNB.out.trans e) rfl)).trans (HC6.out.below ((Below.refl _ _).alloc (Nat.le_refl _) _))
            have u0 := hcur2.cell (k * 5 + 4)
            have u1 := hcur2.frozen (k * 5 + 4)
            rw [Array.getElem?_eq_getElem (by omega : k * 5 + 4 < cur'.size)] at u0
            generalize cur'[k * 5 + 4] = uu at u0
            obtain ⟨a8, c8, e8⟩ := h1.form
            subst e8
            clear h1 h2 h3 h4 hcur2
            go_wp2_with fail
            go_roundw
            case rel =>
              have hm := GathO.more' (GathO.below G6.out ((Below.refl _ _).alloc (Nat.le_refl _) (.cells #[.int .i64 (500 + (j : Int))] 3))) hel hke hkw (Cal.wf_small (by omega)) H1.out H2.out.size (fun i hi hn => H3.out i (by simpa using hi) (by rw [← HNB.out]; exact hn)) (by rw [HNB.out, World.size_alloc]; exact H4.out)
              simp only [List.length_append, List.length_cons, List.length_nil, Nat.zero_add] at hm
              have hlk : (es.set k (butMore es[k] (500 + (j : Int))))[k]'(by simpa using hke) = butMore es[k] (500 + (j : Int)) := List.getElem_set_self ..
              have hL : (butMore es[k] (500 + (j : Int))).but.length = es[k].but.length + 1 := by simp [butMore]
              refine ⟨es.set k (butMore es[k] (500 + (j : Int))), _, j + 1, p' + 1, by simpa using hke, by go_num, by simpa using hel, hm, by rw [hlk, hL]; have := HBJ.out; omega, by rw [hlk, hL]; omega, ?_, by omega, by omega, ?_⟩
              · exact (Rd.later (R6.out.alloc _) H2.out hlt).set (by omega) _
              · exact ((K6.out.trans (Keeps.of_below ((Below.refl _ _).alloc (Nat.le_refl _) _))).grow H2.out (Nat.le_refl _)).set hgF' _
            case measure => simp [intOf]; omega
          · have dm : decide ((es[k].but.length : Int) < 8 + (y : Int)) = false := decide_eq_false hmore
            rw [dm]
            go_wp2_with fail
            go_ret
            exact ⟨es, _, p' + 1, rfl, G6.out.toD hlt, by omega, R6.out, by omega, by omega, K6.out⟩
        obtain ⟨xs, rfl, hK, hF⟩ := hinv
        have hi10 : i < 10 := (Array.getElem?_eq_some_iff.1 hi).1
        have l3 : listed.getD 1000 false = false := by simp [Array.getD, hs]
        have l2 : listed.getD 1001 false = false := by simp [Array.getD, hs]
        rcases (show i = 0 ∨ i = 1 ∨ i = 2 ∨ i = 3 ∨ i = 4 ∨ i = 5 ∨ i = 6 ∨ i = 7 ∨ i = 8 ∨ i = 9 by omega) with rfl | rfl | rfl | rfl | rfl | rfl | rfl | rfl | rfl | rfl
        · have ho := Option.some.inj hi
          subst ho
          exact RI.op_val (d := some 117) (v := .slice (some ⟨g, 0, none⟩) rs.length cv) hi (by kernel_rfl) rfl (by simp [go_sem, frame23]) (InvS.val hK hF 0 _ (by kernel_rfl) (by decide) (by decide) (by decide) rfl)
        · have ho := Option.some.inj hi
          subst ho
          exact RI.op_val (d := some 118) (v := .int .i64 (k : Int)) hi (by kernel_rfl) rfl (by simp [go_sem, frame23]) (InvS.val hK hF 1 _ (by kernel_rfl) (by decide) (by decide) (by decide) rfl)
        · have ho := Option.some.inj hi
          subst ho
          have d0 : xs 0 = .slice (some ⟨g, 0, none⟩) rs.length cv := hF l3 0 (by decide) (RI.dep haft 0 (by kernel_rfl))
          have d1 : xs 1 = .int .i64 (k : Int) := hF l3 1 (by decide) (RI.dep haft 1 (by kernel_rfl))
          exact RI.op_val (d := some 119) (v := .pointer (some ⟨g, k * 5, none⟩)) hi (by kernel_rfl) rfl (by simp [go_sem, frame23, d0, d1, hx2]) (InvS.val hK hF 2 _ (by kernel_rfl) (by decide) (by decide) (by decide) rfl)
        · have ho := Option.some.inj hi
          subst ho
          have d2 : xs 2 = .pointer (some ⟨g, k * 5, none⟩) := hF l3 2 (by decide) (RI.dep haft 2 (by kernel_rfl))
          exact RI.op_val (d := some 120) (v := .pointer (some ⟨g, k * 5 + 4, none⟩)) hi (by kernel_rfl) rfl (by simp [go_sem, frame23, d2]) (InvS.val hK hF 3 _ (by kernel_rfl) (by decide) (by decide) (by decide) rfl)
        · have ho := Option.some.inj hi
          subst ho
          have d3 : xs 3 = .pointer (some ⟨g, k * 5 + 4, none⟩) := hF l3 3 (by decide) (RI.dep haft 3 (by kernel_rfl))
          have c0 := (hK.gath l2 l3).cell (k := k) (j := 4) hke hkw (by omega)
          simp [Cal.cellsR] at c0
          rw [e9] at c0
          exact RI.op_val (d := some 121) (v := .slice a9 es[k].but.length c9) hi (by kernel_rfl) rfl (by simp [go_sem, frame23, d3, c0]) (InvS.val hK hF 4 _ (by kernel_rfl) (by decide) (by decide) (by decide) rfl)
        · have ho := Option.some.inj hi
          subst ho
          have d4 : xs 4 = .slice a9 es[k].but.length c9 := hF l3 4 (by decide) (RI.dep haft 4 (by kernel_rfl))
          exact RI.op_val (d := some 122) (v := .int .i64 (es[k].but.length : Int)) hi (by kernel_rfl) rfl (by simp [go_sem, frame23, d4]) (InvS.val hK hF 5 _ (by kernel_rfl) (by decide) (by decide) (by decide) rfl)
        · have ho := Option.some.inj hi
          subst ho
          exact RI.op_val (d := some 123) (v := .pointer (some ⟨R, 0, none⟩)) hi (by kernel_rfl) rfl (by simp [go_sem, frame23]) (InvS.val hK hF 6 _ (by kernel_rfl) (by decide) (by decide) (by decide) rfl)
        · have ho := Option.some.inj hi
          subst ho
          have d6 : xs 6 = .pointer (some ⟨R, 0, none⟩) := hF l3 6 (by decide) (RI.dep haft 6 (by kernel_rfl))
          have hrd := hK.rd
          rw [RI.not_up hl, if_neg (by decide)] at hrd
          refine RI.op_one hi (by kernel_rfl) fun KK hKK => ?_
          refine wp_callTwo (HP.out p' 2 W hrd (by omega) (by omega)) (fun e w' h => by obtain ⟨⟨v, h, _⟩, _⟩ := h; exact ⟨_, h⟩) (enters_of Tryz.func15 (by kernel_rfl) rfl) _ _ _ (d := some 124) rfl (by rfl) ((show _ = xs 6 by kernel_rfl).trans d6) (by rfl) ?_
          rintro r w5 ⟨⟨y, he, hv1, hv2, _⟩, hr3, hk3⟩
          cases he
          have hv2 := hv2 (by omega)
          obtain ⟨yn, rfl⟩ : ∃ m : Nat, y = (m : Int) := ⟨y.toNat, by omega⟩
          exact hKK _ _ (InvS.grow hlt hK hF 7 _ (by kernel_rfl) (by decide) (by decide) l2 l3 hk3 (by rw [RI.up_same (by rw [hs]; decide), if_pos rfl]; exact hr3) (fun j u => Ok23.mono j) ⟨yn, rfl, by omega⟩)
        · have ho := Option.some.inj hi
          subst ho
          obtain ⟨y, d7, hy⟩ : ∃ y : Nat, xs 7 = .int .i64 (y : Int) ∧ y < 2 := hF l3 7 (by decide) (RI.dep haft 7 (by kernel_rfl))
          have hw8 : IntKind.i64.wrap (8 + (y : Int)) = 8 + (y : Int) := by rw [IntKind.wrap_i64]; omega
          exact RI.op_val (d := some 125) (v := .int .i64 (8 + (y : Int))) hi (by kernel_rfl) rfl (by simp [go_sem, frame23, d7, hw8]) (InvS.val hK hF 8 _ (by kernel_rfl) (by decide) (by decide) (by decide) ⟨y, rfl, hy⟩)
        · have ho := Option.some.inj hi
          subst ho
          have d5 : xs 5 = .int .i64 (es[k].but.length : Int) := hF l3 5 (by decide) (RI.dep haft 5 (by kernel_rfl))
          obtain ⟨y, d8, hy⟩ : ∃ y : Nat, xs 8 = .int .i64 (8 + (y : Int)) ∧ y < 2 := hF l3 8 (by decide) (RI.dep haft 8 (by kernel_rfl))
          exact RI.op_val (d := some 126) (v := .bool (decide ((es[k].but.length : Int) < 8 + (y : Int)))) hi (by kernel_rfl) rfl (by simp [go_sem, frame23, d5, d8]) (InvS.val hK hF 9 _ (by kernel_rfl) (by decide) (by decide) (by decide) ⟨y, rfl, hy⟩)
        -- region 23 ends
end Dr
end Go.Proofs.YtkemfifkjaclhaaGreatDoor
