/- Numbers that are copied: 'append([]int{}, xs...)'. -/
import Derived.Test.YtkemfifkjaclhaaGreatDoorJ5
import Derived.Deep.AppendLies
import Derived.Test.YtkemfifkjaclhaaGreatDoorJ3
import Derived.Test.YtkemfifkjaclhaaGreatDoorJ2
namespace Go.Proofs.YtkemfifkjaclhaaGreatDoor
set_option linter.unusedVariables false
set_option linter.unusedSimpArgs false
open Go.RowKit Go
namespace Dr
open Cal (cellsR flatR flatR_snoc)

/-- The slice v gathers the rules es; what each leaves out lies in other blocks, behind the reader. -/
def GathD (w : World) (R F : Nat) (v : Value) (es : List Rul) : Prop :=
  ∃ vs : List Value, ∃ hv : vs.length = es.length, Acc w F 50 5 v es.length (flatR es vs) ∧
    ∀ i (h : i < es.length), RulIs w (cellsR es[i] (vs[i]'(by omega))) es[i] ∧ ∀ a l c, vs[i]'(by omega) = .slice a l c → 0 < l → ∀ b off, a = some ⟨b, off, none⟩ → v.ownBlock ≠ some b ∧ R < b
theorem GathD.gath {w : World} {R F : Nat} {v : Value} {es : List Rul} (h : GathD w R F v es) : Cal.GathM w F v es := by
  obtain ⟨vs, hv, h1, h2⟩ := h
  exact ⟨vs, hv, h1, fun i hi => ⟨(h2 i hi).1, fun a l c e hl b off ea => ((h2 i hi).2 a l c e hl b off ea).1⟩⟩
theorem GathD.below {w w' : World} {R F : Nat} {v : Value} {es : List Rul} (h : GathD w R F v es) (hb : Below w.heap.size w w') : GathD w' R F v es := by
  obtain ⟨vs, hv, h1, h2⟩ := h
  exact ⟨vs, hv, h1.below hb, fun i hi => ⟨RulIs.lasts _ _ _ _ hb (h2 i hi).1, (h2 i hi).2⟩⟩
theorem GathD.keeps {w w' : World} {R F : Nat} {v : Value} {es : List Rul} (h : GathD w R F v es) (hk : Keeps R w w') (hF : R < F) : GathD w' R F v es := by
  obtain ⟨vs, hv, h1, h2⟩ := h
  refine ⟨vs, hv, acc_keeps h1 hk hF, fun i hi => ⟨?_, (h2 i hi).2⟩⟩
  obtain ⟨⟨a, l, c, hu, hr, hz⟩, hf⟩ := h2 i hi
  have hu' : vs[i]'(by omega) = .slice a l c := by simpa [cellsR] using hu
  exact ⟨a, l, c, hu, Keeps.row hr hk (fun hl b off e => by have := (hf a l c hu' hl b off e).2; omega), hz⟩
theorem gathD_push {w w' : World} {R F : Nat} {v v' : Value} {es : List Rul} {r : Rul} {a : Option Addr} {l c : Nat} {vs : List Value} (hv : vs.length = es.length)
    (h2 : ∀ i (h : i < es.length), RulIs w (cellsR es[i] (vs[i]'(by omega))) es[i] ∧ ∀ a l c, vs[i]'(by omega) = .slice a l c → 0 < l → ∀ b off, a = some ⟨b, off, none⟩ → v.ownBlock ≠ some b ∧ R < b)
    (h3 : RulIs w (cellsR r (.slice a l c)) r) (h4 : 0 < l → ∀ b off, a = some ⟨b, off, none⟩ → v.ownBlock ≠ some b ∧ R < b)
    (hA : Acc w' F 50 5 v' (es.length + 1) (flatR es vs ++ cellsR r (.slice a l c))) (hs : w.heap.size ≤ w'.heap.size) (hk : ∀ k, k < w.heap.size → v.ownBlock ≠ some k → w'.heap[k]? = w.heap[k]?) (ho : v'.ownBlock = v.ownBlock ∨ v'.ownBlock = some w.heap.size) : GathD w' R F v' (es ++ [r]) := by
  have key : ∀ (x : Rul) (u : Value), RulIs w (cellsR x u) x → (∀ a l c, u = .slice a l c → 0 < l → ∀ b off, a = some ⟨b, off, none⟩ → v.ownBlock ≠ some b ∧ R < b) → RulIs w' (cellsR x u) x ∧ ∀ a l c, u = .slice a l c → 0 < l → ∀ b off, a = some ⟨b, off, none⟩ → v'.ownBlock ≠ some b ∧ R < b := by
    rintro x u ⟨a, l, c, hu, hr, hz⟩ hf
    have hu' : u = .slice a l c := by simpa [cellsR] using hu
    subst hu'
    have hf' := hf a l c rfl
    refine ⟨⟨a, l, c, hu, Cal.isRow_keep hr hs fun hl b off e => hk b (Cal.isRow_lt hr hl e) (hf' hl b off e).1, hz⟩, fun a' l' c' e hl b off ea => ?_⟩
    simp only [Value.slice.injEq] at e
    obtain ⟨rfl, rfl, rfl⟩ := e
    have hlt := Cal.isRow_lt hr hl ea
    refine ⟨?_, (hf' hl b off ea).2⟩
    rcases ho with ho | ho
    · rw [ho]; exact (hf' hl b off ea).1
    · rw [ho]; intro e; cases e; omega
  refine ⟨vs ++ [.slice a l c], by simp [hv], by rw [flatR_snoc hv]; simpa using hA, fun i hi => ?_⟩
  by_cases h : i < es.length
  · rw [List.getElem_append_left (by omega : i < vs.length), List.getElem_append_left h]
    exact key _ _ (h2 i h).1 (h2 i h).2
  · have hie : i = es.length := by simp at hi; omega
    subst hie
    rw [List.getElem_append_right (by omega : vs.length ≤ es.length), List.getElem_append_right (Nat.le_refl _)]
    simp only [Nat.sub_self, List.getElem_cons_zero, hv]
    exact key _ _ h3 (fun a' l' c' e => by simp only [Value.slice.injEq] at e; obtain ⟨rfl, rfl, rfl⟩ := e; exact h4)
theorem news0 {W : World} {v0 v1 v2 v3 v4 : Value} {t : TypeId} : ∀ j u, [v0, v1, v2, v3, v4][j]? = some u → (W.alloc (.cells #[v0, v1, v2, v3, v4] t)).cell? ((⟨W.heap.size, 0, none⟩ : Addr).add j) = some u :=
  World.news_of_block (heap_alloc_new W (.cells #[v0, v1, v2, v3, v4] t))

def RulesPosted (R : Nat) (a : Option Addr) (len cap : Nat) (bs : List Int) (p : Int) (w : World) (e : Ending) (w' : World) : Prop :=
  ∃ (rs : List Rul) (v : Value) (p' : Int), e = .returned v ∧ GathD w' R w.heap.size v rs ∧ (∀ r ∈ rs, SmallR r) ∧ 1 ≤ rs.length ∧ rs.length ≤ 3 ∧ Rd w' R a len cap bs p' ∧ p ≤ p' ∧ p' ≤ p + 70 ∧ Keeps R w w'

set_option maxRecDepth 4000 in
set_option maxHeartbeats 4000000 in
theorem l43Rules (R : Nat) (a : Option Addr) (len cap : Nat) (bs : List Int) (p : Int) (w : World) (h : Rd w R a len cap bs p) (hp : p ≤ 999999800) :
    Calls Tryz.prog 14 #[.pointer (some ⟨R, 0, none⟩)] w fun e w' => RulesPosted R a len cap bs p w e w' := by
  have HP : Hid (∀ (p n : Int) (w : World), Rd w R a len cap bs p → p ≤ 999999999 → n ≤ 1000000000 → Calls Tryz.prog 15 #[.pointer (some ⟨R, 0, none⟩), .int .i64 n] w fun e w' => (∃ v : Int, e = .returned (.int .i64 v) ∧ Picked n v) ∧ Rd w' R a len cap bs (p + 1) ∧ Keeps R w w') := fun p n w h1 h2 h3 => pick R a len cap bs p n w h1 h2 h3
  have HQ : Hid (∀ (p : Int) (w : World), Rd w R a len cap bs p → p ≤ 999999900 → Calls Tryz.prog 30 #[.pointer (some ⟨R, 0, none⟩)] w fun e w' => RulePosted R a len cap bs p w e w') := fun p w h1 h2 => l43Rule R a len cap bs p w h1 h2
  have hlt := h.lt
  have hfar := h.far
  have H0 : Hid _ := h.alloc (.cells #[] 50)
  have K0 : Hid (Keeps R w (w.alloc (.cells #[] 50))) := Keeps.of_below ((Below.refl _ _).alloc (Nat.le_refl _) _)
  have D0 : Hid (GathD (w.alloc (.cells #[] 50)) R w.heap.size (.slice (some ⟨w.heap.size, 0, none⟩) 0 0) []) := ⟨[], rfl, Acc.empty _ _ _ (by simp), fun i h => by simp at h⟩
  clear h
  go_enter Tryz.func14, Tryz.ntmps14
  go_wp2_with fail
  refine (HP.out p 3 _ H0.out (by omega) (by omega)).mono ?_
  rintro e w1 ⟨⟨x1, rfl, hx1, hx2, _⟩, hr1, hk1⟩
  have hx2 := hx2 (by omega)
  have H1 : Hid _ := hr1
  have K1 : Hid (Keeps R w w1) := K0.out.trans hk1
  have D1 : Hid (GathD w1 R w.heap.size (.slice (some ⟨w.heap.size, 0, none⟩) 0 0) []) := D0.out.keeps hk1 hlt
  clear hr1 hk1 H0 K0 D0
  obtain ⟨m0, rfl⟩ : ∃ m : Nat, x1 = (m : Int) := ⟨x1.toNat, by omega⟩
  go_wp2_with fail
  go_loopw [3, 4] (fun x t wr => ∃ (es : List Rul) (m : Nat) (av : Option Addr) (cv : Nat) (p' : Int), x = .slice av es.length cv ∧ t = .int .i64 (m : Int) ∧ es.length + m = m0 + 1 ∧ GathD wr R w.heap.size (.slice av es.length cv) es ∧ (∀ r ∈ es, SmallR r) ∧ Rd wr R a len cap bs p' ∧ p + 1 ≤ p' ∧ p' ≤ p + 1 + 20 * (es.length : Int) ∧ Keeps R w wr) (fun _ t _ => (intOf t).toNat)
  case atStart => exact ⟨[], m0 + 1, _, _, _, rfl, by congr 1; omega, by simp, D1.out, (fun r hr => by cases hr), H1.out, by omega, by simp, K1.out⟩
  case round =>
    clear H1 K1 D1
    obtain ⟨es, m, av, cv, p', rfl, rfl, hem, hD, hsm, hR, hp1, hp2, hK⟩ := hrel
    have HD : Hid _ := hD
    have HS : Hid (∀ r ∈ es, SmallR r) := hsm
    have HR : Hid _ := hR
    have HK : Hid (Keeps R w wr) := hK
    clear hD hsm hR hK
    by_cases hm : 0 < m
    · have dm : decide ((0 : Int) < (m : Int)) = true := decide_eq_true (by omega)
      go_wp2_with fail
      refine (HQ.out p' _ HR.out (by omega)).mono ?_
      rintro e w2 ⟨r, ab, l, c, p2, rfl, hrul, hsr, hfr, hr2, hq1, hq2, hk2⟩
      have HD2 : Hid (GathD w2 R w.heap.size (.slice av es.length cv) es) := GathD.keeps HD.out hk2 hlt
      have hsz : w.heap.size ≤ wr.heap.size := HK.out.size
      have HFAR : Hid (0 < l → ∀ b off, ab = some ⟨b, off, none⟩ → (Value.slice av es.length cv).ownBlock ≠ some b ∧ R < b) := fun hl b off e => by
        have h1 := hfr hl b off e
        refine ⟨fun h => ?_, by omega⟩
        obtain ⟨vs, hv, h2, _⟩ := HD.out
        have := Cal.acc_own h2 h
        omega
      have HRUL : Hid _ := hrul
      have HSR : Hid (SmallR r) := hsr
      have HR2 : Hid _ := hr2
      have HK2 : Hid (Keeps R w w2) := HK.out.trans hk2
      have hs2 : w.heap.size ≤ w2.heap.size := HK2.out.size
      clear hrul hsr hr2 hk2 hfr
      obtain ⟨vs, hv, hA, hall⟩ := GathD.below HD2.out ((Below.refl _ _).alloc (Nat.le_refl _) (.cells #[.int .i64 r.ev, .int .i64 r.at_, .int .i64 r.fr, .int .i64 r.to_, .slice ab l c] 50))
      have HALL : Hid _ := hall
      have HA : Hid _ := hA
      clear hall hA
      go_wp2_with (at_builtin; refine Cal.wp_acc_at rfl _ _ 24 rfl w.heap.size 50 _ 5 56 Tryz.underlying24 info_CalRule rfl (by decide) (.slice av es.length cv) es.length (flatR es vs) rfl HA.out ⟨w2.heap.size, 0, none⟩ 1 1 [.int .i64 r.ev, .int .i64 r.at_, .int .i64 r.fr, .int .i64 r.to_, .slice ab l c] rfl (by decide) rfl news0 (by simp [Value.oneCell']) (by unfold maxLen; omega) (by omega) (by simp; omega) ?_; intro v' w3 hA3 hB3 hk3 ho3; have HK3 : Hid _ := hk3; have HA3 : Hid _ := hA3; have HB3 : Hid _ := hB3; have HO3 : Hid _ := ho3; clear hk3 hA3 hB3 ho3)
      have hent2 : RulIs (w2.alloc (.cells #[.int .i64 r.ev, .int .i64 r.at_, .int .i64 r.fr, .int .i64 r.to_, .slice ab l c] 50)) (cellsR r (.slice ab l c)) r := RulIs.lasts _ _ _ _ ((Below.refl _ _).alloc (Nat.le_refl _) _) HRUL.out
      have hG3 := gathD_push hv HALL.out hent2 HFAR.out HA3.out HB3.out.size HK3.out HO3.out
      obtain ⟨av3, cv3, rfl, _⟩ := Cal.gathM_ruls hG3.gath
      have HG3 : Hid _ := hG3
      clear hG3 hent2
      go_wp2_with fail
      go_roundw
      case rel =>
        refine ⟨es ++ [r], m - 1, av3, cv3, p2, rfl, by congr 1; omega, by simp; omega, HG3.out, ?_, Rd.later (HR2.out.alloc _) HB3.out (by omega), by omega, by simp; omega, (HK2.out.trans (Keeps.of_below ((Below.refl _ _).alloc (Nat.le_refl _) _))).grow HB3.out (Nat.le_refl _)⟩
        intro x hx
        rcases List.mem_append.1 hx with hx | hx
        · exact HS.out x hx
        · simp only [List.mem_singleton] at hx; subst hx; exact HSR.out
      case measure => simp [intOf]; omega
    · have hm0 : m = 0 := by omega
      subst hm0
      go_wp2_with fail
      go_ret
      exact ⟨es, _, p', rfl, HD.out, HS.out, by omega, by omega, HR.out, by omega, by omega, HK.out⟩
end Dr
end Go.Proofs.YtkemfifkjaclhaaGreatDoor

namespace Go.Proofs.YtkemfifkjaclhaaGreatDoor
set_option linter.unusedVariables false
set_option linter.unusedSimpArgs false
open Go.RowKit Go
namespace Dr
open Cal (cellsR flatR flatR_snoc)

/-- A rule with another number at a field. -/
def setF (r : Rul) (j : Nat) (z : Int) : Rul := if j = 0 then { r with ev := z } else if j = 1 then { r with at_ := z } else if j = 2 then { r with fr := z } else { r with to_ := z }
theorem setF_but (r : Rul) (j : Nat) (z : Int) : (setF r j z).but = r.but := by
  unfold setF; split
  · rfl
  · split
    · rfl
    · split <;> rfl
theorem cellsF (r : Rul) (v : Value) (j : Nat) (hj : j < 4) (z : Int) : (cellsR r v).set j (.int .i64 z) = cellsR (setF r j z) v := by
  rcases (by omega : j = 0 ∨ j = 1 ∨ j = 2 ∨ j = 3) with rfl | rfl | rfl | rfl <;> rfl
theorem flat_setF : ∀ (L : List Rul) (vs : List Value) (q j : Nat) (_ : vs.length = L.length) (hq : q < L.length) (_ : j < 4) (z : Int),
    (flatR L vs).set (q * 5 + j) (.int .i64 z) = flatR (L.set q (setF L[q] j z)) vs := by
  intro L
  induction L with
  | nil => intro vs q j _ h; simp at h
  | cons e t ih =>
    intro vs q j hv hq hj z
    cases vs with
    | nil => simp at hv
    | cons v vs =>
      have hf : ∀ x : Rul, ∀ t, flatR (x :: t) (v :: vs) = cellsR x v ++ flatR t vs := fun _ _ => rfl
      have h5 : ∀ x : Rul, (cellsR x v).length = 5 := fun _ => rfl
      cases q with
      | zero =>
        rw [List.set_cons_zero, hf, hf, List.set_append_left _ _ (by rw [h5]; omega), Nat.zero_mul, Nat.zero_add, cellsF e v j hj z]
        rfl
      | succ q =>
        rw [List.set_cons_succ, hf, hf, List.set_append_right _ _ (by rw [h5]; omega), h5, show (q + 1) * 5 + j - 5 = q * 5 + j by omega, ih vs q j (by simpa using hv) (by simpa using hq) hj z]
        rfl
theorem rulIs_set {w : World} {x : Rul} {u : Value} {p : Addr} {v : Value} (h : RulIs w (cellsR x u) x) (hf : ∀ a l c, u = .slice a l c → 0 < l → ∀ b off, a = some ⟨b, off, none⟩ → p.block ≠ b) : RulIs (w.setCell p v) (cellsR x u) x := by
  obtain ⟨a, l, c, hu, hr, hz⟩ := h
  have hu' : u = .slice a l c := by simpa [cellsR] using hu
  refine ⟨a, l, c, hu, ?_, hz⟩
  obtain ⟨h1, h2, h3, h4, h5⟩ := hr
  refine ⟨h1, h2, h3, fun hl => ?_, h5⟩
  obtain ⟨b, off, rfl, hb1, hc⟩ := h4 hl
  refine ⟨b, off, rfl, by simpa using hb1, fun i hi => ?_⟩
  rw [← hc i hi]
  exact World.cell?_of_block (a := ⟨b, off + i, none⟩) (Below.heap_setCell w p v b (fun e => hf _ _ _ hu' hl b off rfl e.symm))
theorem rulIs_setF {w : World} {x : Rul} {u : Value} (h : RulIs w (cellsR x u) x) (j : Nat) (hj : j < 4) (z : Int) (hz : (Lit.int .i64 z).wf = true) : RulIs w (cellsR (setF x j z) u) (setF x j z) := by
  obtain ⟨a, l, c, hu, hr, h0, h1, h2, h3⟩ := h
  have hu' : u = .slice a l c := by simpa [cellsR] using hu
  subst hu'
  refine ⟨a, l, c, rfl, by rw [setF_but]; exact hr, ?_⟩
  rcases (by omega : j = 0 ∨ j = 1 ∨ j = 2 ∨ j = 3) with rfl | rfl | rfl | rfl
  · exact ⟨hz, h1, h2, h3⟩
  · exact ⟨h0, hz, h2, h3⟩
  · exact ⟨h0, h1, hz, h3⟩
  · exact ⟨h0, h1, h2, hz⟩
/-- One number is stored into a rule that was gathered. -/
theorem GathD.setF {w : World} {R F : Nat} {g cap : Nat} {es : List Rul} (h : GathD w R F (.slice (some ⟨g, 0, none⟩) es.length cap) es) {q j : Nat} (hq : q < es.length) (hj : j < 4) {z : Int} (hz : (Lit.int .i64 z).wf = true) :
    GathD (w.setCell ⟨g, q * 5 + j, none⟩ (.int .i64 z)) R F (.slice (some ⟨g, 0, none⟩) es.length cap) (es.set q (Dr.setF es[q] j z)) := by
  obtain ⟨vs, hv, hA, h2⟩ := h
  have hown : w.ownsRow F 50 5 (.slice (some ⟨g, 0, none⟩) es.length cap) es.length (flatR es vs) := by
    rcases hA with ⟨h0, _⟩ | h
    · omega
    · exact h
  have hset : (w.setCell ⟨g, q * 5 + j, none⟩ (.int .i64 z)).ownsRow F 50 5 (.slice (some ⟨g, 0, none⟩) es.length cap) es.length ((flatR es vs).set (q * 5 + j) (.int .i64 z)) := by
    refine ⟨by rw [List.length_set]; exact hown.1, .inr ?_⟩
    rcases hown.2 with ⟨h0, _⟩ | ⟨g', cap', cur, h1, h2, h3, h4, h5, h6, h7⟩
    · cases h0
    · simp only [Value.slice.injEq, Option.some.injEq, Addr.mk.injEq, and_true, true_and] at h1
      obtain ⟨rfl, rfl⟩ := h1
      have hH : Holds w g 50 cur := h3
      refine ⟨g, cap, cur.setIfInBounds (q * 5 + j) (.int .i64 z), rfl, h2, hH.set (q * 5 + j) _, h4, h5, by simpa using h6, ?_⟩
      rw [Array.toList_setIfInBounds, List.take_set, h7]
  rw [flat_setF es vs q j hv hq hj z] at hset
  refine ⟨vs, by rw [List.length_set]; exact hv, .inr (by rw [List.length_set]; exact hset), fun i hi => ?_⟩
  have hi' : i < es.length := by simpa using hi
  have hfar : ∀ a l c, vs[i]'(by omega) = .slice a l c → 0 < l → ∀ b off, a = some ⟨b, off, none⟩ → g ≠ b := fun a l c e hl b off ea h => ((h2 i hi').2 a l c e hl b off ea).1 (by rw [← h]; rfl)
  refine ⟨?_, (h2 i hi').2⟩
  by_cases e : q = i
  · subst e
    rw [List.getElem_set_self]
    exact rulIs_setF (rulIs_set (p := ⟨g, q * 5 + j, none⟩) (h2 q hi').1 hfar) j hj z hz
  · rw [List.getElem_set_ne e]
    exact rulIs_set (p := ⟨g, q * 5 + j, none⟩) (h2 i hi').1 hfar
end Dr
end Go.Proofs.YtkemfifkjaclhaaGreatDoor

namespace Go.Proofs.YtkemfifkjaclhaaGreatDoor
set_option linter.unusedVariables false
set_option linter.unusedSimpArgs false
open Go.RowKit Go

/-- A whole list of numbers is appended onto an empty slice without room. -/
theorem wp_copy_int {w : World} {ops : Array Oper} {rest : List Oper} {o : Oper} {a : Act} {Q : Exit → Act → World → Prop} (hgd : o.guard = none) (s x : Operand)
    (ho : o.op = .call { callee := .builtin .append, args := #[s, x], argTypes := #[48, 48] })
    (F : Nat) (v : Value) (ax : Option Addr) (n cx : Nat) (zs : List Int) (hs : a.eval s = v) (hacc : Acc w F 3 1 v 0 []) (hv : ∃ b, v = .slice b 0 0)
    (hx : a.eval x = .slice ax n cx) (hr : IsRow .i64 w ax n cx zs) (hn : n ≤ 1099511627776) (hF : F ≤ w.heap.size)
    (h : ∀ v' w', Acc w' F 3 1 v' zs.length (zs.map (Value.int .i64)) → Below F w w' → wpList Tryz.prog ops Q rest (a.put o.dst v') w') : wpList Tryz.prog ops Q (o :: rest) a w := by
  have hl := hr.len.1
  by_cases h0 : n = 0
  · have hzs : zs = [] := List.length_eq_zero_iff.1 (by omega)
    subst hzs h0
    obtain ⟨b, rfl⟩ := hv
    obtain ⟨i, hi, _⟩ := Option.map_eq_some_iff.1 Tryz.infoI
    refine wpList_plain hgd fun K hK => ?_
    have hrun := append_none (P := Tryz.prog) w 48 o.type 3 i Tryz.underlying48 hi b ax cx
    unfold Oper.wp execOp
    simp only [ho, resolve, invoke, builtin, Sem.run_bind, Sem.run_pure, Result.andThen_ok, List.map_toArray, List.map_cons, List.map_nil, hs, hx, hrun]
    exact hK _ _ (h _ w hacc (Below.refl _ _))
  · obtain ⟨_, _, _, h4, _⟩ := hr
    obtain ⟨b1, off1, rfl, hb1, hc⟩ := h4 (by omega)
    have hcell : ∀ j u, (zs.map (Value.int .i64))[j]? = some u → w.cell? ((⟨b1, off1, none⟩ : Addr).add j) = some u := by
      intro j u hj
      rw [List.getElem?_map, Option.map_eq_some_iff] at hj
      obtain ⟨z, hz, rfl⟩ := hj
      obtain ⟨hj', rfl⟩ := List.getElem?_eq_some_iff.1 hz
      rw [Addr.add_lit, hc j (by omega), getD_at zs j hj']
    refine wp_acc hgd s x 48 ho F 3 _ 1 8 Tryz.underlying48 Tryz.infoI rfl (by decide) v 0 [] hs hacc ⟨b1, off1, none⟩ n cx (zs.map (Value.int .i64)) hx (by omega) (by simp; omega) hcell ?_ (by unfold maxLen; omega) (by omega) hF ?_
    · intro u hu
      obtain ⟨z, _, rfl⟩ := List.mem_map.1 hu
      rfl
    · intro v' w' h1 h2
      exact h v' w' (by have := h1; rw [Nat.zero_add, List.nil_append] at this; rw [hl]; exact this) h2
end Go.Proofs.YtkemfifkjaclhaaGreatDoor
