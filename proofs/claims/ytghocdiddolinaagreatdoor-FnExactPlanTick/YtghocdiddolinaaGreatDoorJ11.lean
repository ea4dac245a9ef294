/- The model's l42Tells. (Written by wip/gen/gen_ut1.py.) -/
import Derived.Test.YtghocdiddolinaaGreatDoorJ8
import Derived.Test.YtghocdiddolinaaGreatDoorJ9
import Derived.Test.YtghocdiddolinaaGreatDoorJ10
import Derived.Deep.CutBlock
import Derived.Deep.RegionHeld3
import Derived.Deep.DeepCutAuto
namespace Go.Proofs.YtghocdiddolinaaGreatDoor
set_option linter.unusedVariables false
set_option linter.unusedSimpArgs false
open Go.RowKit Go
namespace Pl
open Dr (ButO rowB rowB_own rowB_pos)

/-- Of what was told the last are kept. -/
def tellT (ts : List Tld) (t : Tld) : List Tld := if 60 < ts.length + 1 then (ts ++ [t]).drop 1 else ts ++ [t]
def updU (xs : Nat → Value) (i : Nat) (v : Value) : Nat → Value := fun j => if j = i then v else xs j
theorem updU_same (xs : Nat → Value) (i : Nat) (v : Value) : updU xs i v i = v := if_pos rfl
theorem updU_else (xs : Nat → Value) {i j : Nat} (v : Value) (h : j ≠ i) : updU xs i v j = xs j := if_neg h
theorem updU_id {xs : Nat → Value} {i : Nat} {u : Value} (h : xs i = u) : xs = updU xs i u := by
  funext k; unfold updU; split
  · subst_vars; rfl
  · rfl
theorem wp_frameU {P : Program} {Q : Exit → Act → World → Prop} {c : Code} {w : World} (act : Act) (fr : (Nat → Value) → (Nat → Value) → Act) (X : Nat → Value) (hact : act = fr (fun j => act.tmps.getD j undef) X) (h : ∀ T : Nat → Value, c.wp P Q (fr T X) w) : c.wp P Q act w := by
  rw [hact]; exact h _
/-- Four blocks of one's own. -/
theorem boxes4 (w : World) (tA tB tC tD : TypeId) (A B C D : Array Value) : Holds ((((w.alloc (.cells A tA)).alloc (.cells B tB)).alloc (.cells C tC)).alloc (.cells D tD)) w.heap.size tA A ∧ Holds ((((w.alloc (.cells A tA)).alloc (.cells B tB)).alloc (.cells C tC)).alloc (.cells D tD)) (w.heap.size + 1) tB B ∧ Holds ((((w.alloc (.cells A tA)).alloc (.cells B tB)).alloc (.cells C tC)).alloc (.cells D tD)) (w.heap.size + 1 + 1) tC C ∧ Holds ((((w.alloc (.cells A tA)).alloc (.cells B tB)).alloc (.cells C tC)).alloc (.cells D tD)) (w.heap.size + 1 + 1 + 1) tD D ∧ Below w.heap.size w ((((w.alloc (.cells A tA)).alloc (.cells B tB)).alloc (.cells C tC)).alloc (.cells D tD)) := by
  have al : ∀ (w : World) (o : Obj), Below w.heap.size w (w.alloc o) := fun w o => (Below.refl _ _).alloc (Nat.le_refl _) _
  have nw : ∀ (w : World) (k : Nat) (X : Array Value) (ty : TypeId), k = w.heap.size → Holds (w.alloc (.cells X ty)) k ty X := fun w k X ty e => e ▸ heap_alloc_new _ _
  have sz : ∀ (w : World) (o : Obj), (w.alloc o).heap.size = w.heap.size + 1 := fun w o => by simp
  generalize h1 : w.alloc (.cells A tA) = w1
  have s1 : w1.heap.size = w.heap.size + 1 := h1 ▸ sz _ _
  have hA : Holds w1 w.heap.size tA A := h1 ▸ nw _ _ _ _ rfl
  have b1 : Below w.heap.size w w1 := h1 ▸ al _ _
  generalize h2 : w1.alloc (.cells B tB) = w2
  have s2 : w2.heap.size = w.heap.size + 1 + 1 := by rw [← h2, sz, s1]
  have hB : Holds w2 (w.heap.size + 1) tB B := h2 ▸ nw _ _ _ _ s1.symm
  have b2 : Below w1.heap.size w1 w2 := h2 ▸ al _ _
  generalize h3 : w2.alloc (.cells C tC) = w3
  have s3 : w3.heap.size = w.heap.size + 1 + 1 + 1 := by rw [← h3, sz, s2]
  have hC : Holds w3 (w.heap.size + 1 + 1) tC C := h3 ▸ nw _ _ _ _ s2.symm
  have b3 : Below w2.heap.size w2 w3 := h3 ▸ al _ _
  have hD : Holds (w3.alloc (.cells D tD)) (w.heap.size + 1 + 1 + 1) tD D := nw _ _ _ _ s3.symm
  have b4 : Below w3.heap.size w3 (w3.alloc (.cells D tD)) := al _ _
  exact ⟨((hA.below b2).below b3).below b4, (hB.below b3).below b4, hC.below b4, hD, bcall (bcall (bcall b1 (by omega) b2) (by omega) b3) (by omega) b4⟩
theorem fill7H {W : World} {N : Nat} {u0 u1 u2 u3 u4 u5 u6 : Value} (h : Holds W N 31 #[u0, u1, u2, u3, u4, u5, u6]) (v0 v1 v2 v3 v4 v5 v6 : Value) : Holds (((((((W.setCell ⟨N, 0, none⟩ v0).setCell ⟨N, 1, none⟩ v1).setCell ⟨N, 2, none⟩ v2).setCell ⟨N, 3, none⟩ v3).setCell ⟨N, 4, none⟩ v4).setCell ⟨N, 5, none⟩ v5).setCell ⟨N, 6, none⟩ v6) N 31 #[v0, v1, v2, v3, v4, v5, v6] ∧ SameP W (((((((W.setCell ⟨N, 0, none⟩ v0).setCell ⟨N, 1, none⟩ v1).setCell ⟨N, 2, none⟩ v2).setCell ⟨N, 3, none⟩ v3).setCell ⟨N, 4, none⟩ v4).setCell ⟨N, 5, none⟩ v5).setCell ⟨N, 6, none⟩ v6) := by
  obtain ⟨k0, s0⟩ := box_set (cur' := #[v0, u1, u2, u3, u4, u5, u6]) h 0 v0 rfl
  obtain ⟨k1, s1⟩ := box_set (cur' := #[v0, v1, u2, u3, u4, u5, u6]) k0 1 v1 rfl
  obtain ⟨k2, s2⟩ := box_set (cur' := #[v0, v1, v2, u3, u4, u5, u6]) k1 2 v2 rfl
  obtain ⟨k3, s3⟩ := box_set (cur' := #[v0, v1, v2, v3, u4, u5, u6]) k2 3 v3 rfl
  obtain ⟨k4, s4⟩ := box_set (cur' := #[v0, v1, v2, v3, v4, u5, u6]) k3 4 v4 rfl
  obtain ⟨k5, s5⟩ := box_set (cur' := #[v0, v1, v2, v3, v4, v5, u6]) k4 5 v5 rfl
  obtain ⟨k6, s6⟩ := box_set (cur' := #[v0, v1, v2, v3, v4, v5, v6]) k5 6 v6 rfl
  exact ⟨k6, s0.trans (s1.trans (s2.trans (s3.trans (s4.trans (s5.trans s6)))))⟩
theorem set7_else {W : World} {N k : Nat} (h : k ≠ N) (v0 v1 v2 v3 v4 v5 v6 : Value) : (((((((W.setCell ⟨N, 0, none⟩ v0).setCell ⟨N, 1, none⟩ v1).setCell ⟨N, 2, none⟩ v2).setCell ⟨N, 3, none⟩ v3).setCell ⟨N, 4, none⟩ v4).setCell ⟨N, 5, none⟩ v5).setCell ⟨N, 6, none⟩ v6).heap[k]? = W.heap[k]? := by
  have e : ∀ (W : World) (i : Nat) (v : Value), (W.setCell ⟨N, i, none⟩ v).heap[k]? = W.heap[k]? := fun W i v => Below.heap_setCell W ⟨N, i, none⟩ v k h
  rw [e, e, e, e, e, e, e]
theorem below7U {B : Nat} {w W : World} {N : Nat} (h : Below B w W) (hN : B ≤ N) (v0 v1 v2 v3 v4 v5 v6 : Value) : Below B w (((((((W.setCell ⟨N, 0, none⟩ v0).setCell ⟨N, 1, none⟩ v1).setCell ⟨N, 2, none⟩ v2).setCell ⟨N, 3, none⟩ v3).setCell ⟨N, 4, none⟩ v4).setCell ⟨N, 5, none⟩ v5).setCell ⟨N, 6, none⟩ v6) :=
  ((((((h.setCell (p := ⟨N, 0, none⟩) hN v0).setCell (p := ⟨N, 1, none⟩) hN v1).setCell (p := ⟨N, 2, none⟩) hN v2).setCell (p := ⟨N, 3, none⟩) hN v3).setCell (p := ⟨N, 4, none⟩) hN v4).setCell (p := ⟨N, 5, none⟩) hN v5).setCell (p := ⟨N, 6, none⟩) hN v6
theorem PushedT.form {w w' : World} {F : Nat} {v v' : Value} {ts : List Tld} {t : Tld} (hp : PushedT w F v ts t v' w') : ∃ a c, v' = .slice a (ts.length + 1) c := by
  obtain ⟨a, c, e⟩ := hp.1.form
  exact ⟨a, c, by rw [e]; simp⟩
/-- Appending leaves what is held. -/
theorem PushedT.holds {w w' : World} {F k : Nat} {v v' : Value} {ts : List Tld} {t : Tld} {ty : TypeId} {cur : Array Value} (hp : PushedT w F v ts t v' w') (h : Holds w k ty cur) (hk : rowB v ≠ some k) : Holds w' k ty cur := (hp.2.2.1 k (Array.getElem?_eq_some_iff.1 h).1 hk).trans h
theorem cells_at {W : World} {b : Nat} {ty : TypeId} {t : Tld} (h : Holds W b ty #[.int .i64 t.tk, .int .i64 t.wh]) : ∀ j u, (cellsT t)[j]? = some u → W.cell? ((⟨b, 0, none⟩ : Addr).add j) = some u := fun j u hj => by
  rw [Addr.add_lit, Nat.zero_add, cell_of_row _ _ _ _ _ _ h]
  match j, hj with
  | 0, hj => exact hj
  | 1, hj => exact hj

/-- Boxes of plans stand. -/
def Plans (w w' : World) : Prop := ∀ k cur, Holds w k 31 cur → Holds w' k 31 cur
theorem Plans.trans {a b c : World} (h : Plans a b) (k : Plans b c) : Plans a c := fun i cur hi => k i cur (h i cur hi)
theorem Plans.below {w w' : World} (hb : Below w.heap.size w w') : Plans w w' := fun _ _ h => h.below hb
theorem ptne : (31 : TypeId) ≠ 61 ∧ (31 : TypeId) ≠ 3 := by decide
/-- All but what is told stands. -/
def Tlds (w w' : World) : Prop := ∀ (k : Nat) (t : TypeId) (cur : Array Value) (fz : Nat × Nat), t ≠ 61 → w.heap[k]? = some (.cells cur t fz) → w'.heap[k]? = some (.cells cur t fz)
theorem Tlds.trans {a b c : World} (h : Tlds a b) (k : Tlds b c) : Tlds a c := fun i t cur fz ht hi => k i t cur fz ht (h i t cur fz ht hi)
theorem Tlds.below {w w' : World} (hb : Below w.heap.size w w') : Tlds w w' := fun k _ _ _ _ h => (hb.block k (Array.getElem?_eq_some_iff.1 h).1).trans h
theorem Tlds.plans {w w' : World} (h : Tlds w w') : Plans w w' := fun k cur hk => h k _ cur (0, 0) ptne.1 hk
theorem PushedT.tlds {w w' : World} {F : Nat} {v v' : Value} {ts : List Tld} {t : Tld} (hp : PushedT w F v ts t v' w') (h : TO w F v ts) : Tlds w w' := fun k ty cur fz ht hk => (hp.2.2.1 k (Array.getElem?_eq_some_iff.1 hk).1 fun e => by
  obtain ⟨_, _, c2, k2⟩ := h.block e
  rw [hk] at k2
  simp only [Option.some.injEq, Obj.cells.injEq] at k2
  exact ht k2.2.1).trans hk
theorem PushedI.plans {w w' : World} {F : Nat} {v v' : Value} {xs : List Int} {z : Int} (hp : PushedI w F v xs z v' w') (h : ButO w F v xs) : Plans w w' := fun k cur hk => (hp.2.2.1 k (Array.getElem?_eq_some_iff.1 hk).1 fun e => by
  obtain ⟨_, _, c2, k2⟩ := h.block e
  unfold Holds at hk
  rw [hk] at k2
  simp only [Option.some.injEq, Obj.cells.injEq] at k2
  exact ptne.2 k2.2.1).trans hk

def frameU (n : Nat) (vo : Value) (T xs : Nat → Value) : Act := { tmps := #[T 0, vo, T 2, T 3, .pointer (some ⟨n, 0, none⟩), T 5, T 6, T 7, .pointer (some ⟨n + 1, 0, none⟩), xs 6, .pointer (some ⟨n + 1 + 1, 0, none⟩), T 11, T 12, T 13, T 14, T 15, T 16, T 17, T 18, T 19, T 20, T 21, T 22, T 23, T 24, T 25, T 26, T 27, xs 0, xs 1, xs 2, xs 3, xs 4], defers := [] }
/-- The world of the drawn region. -/
structure K5 (w0 : World) (n F : Nat) (P : Array Value) (vg vw vt vo : Value) (gs ws : List Int) (ts os : List Tld) (t : Tld) (listed : Array Bool) (x : Value) (W : World) : Prop where
  below : Below F w0 W
  size : n + 4 ≤ W.heap.size
  und : if listed.getD 4 false = true then Und W F vg vw vt x gs ws ts (os ++ [t]) else Und W F vg vw vt vo gs ws ts os
  p : Holds W n 31 P
  r : if listed.getD 5 false = true then Holds W (n + 1) 31 P else ∃ u0 u1 u2 u3 u4 u5 u6, Holds W (n + 1) 31 #[u0, u1, u2, u3, u4, u5, u6]
  t : Holds W (n + 1 + 1) 61 #[.int .i64 t.tk, .int .i64 t.wh]
  pls : Tlds w0 W
def Inv5 (w0 : World) (n F : Nat) (P : Array Value) (vg vw vt vo : Value) (gs ws : List Int) (ts os : List Tld) (t : Tld) (T : Nat → Value) (listed : Array Bool) (act : Act) (W : World) : Prop :=
  ∃ xs, act = frameU n vo T xs ∧ K5 w0 n F P vg vw vt vo gs ws ts os t listed (xs 4) W ∧ (listed.getD 0 false = true → xs 0 = .agg P) ∧ (listed.getD 1 false = true → xs 1 = vo) ∧ (listed.getD 2 false = true → xs 2 = .agg #[.int .i64 t.tk, .int .i64 t.wh]) ∧
    (listed.getD 3 false = true → listed.getD 4 false = false → ∃ b, xs 3 = .slice (some ⟨b, 0, none⟩) 1 1 ∧ n + 4 ≤ b ∧ Holds W b 61 #[.int .i64 t.tk, .int .i64 t.wh]) ∧ (listed.getD 6 false = true → xs 6 = xs 4)
section
variable {w0 W : World} {n F : Nat} {P : Array Value} {vg vw vt vo x : Value} {gs ws : List Int} {ts os : List Tld} {t : Tld} {T xs : Nat → Value} {listed : Array Bool} {act : Act}
theorem K5.up (h : K5 w0 n F P vg vw vt vo gs ws ts os t listed x W) {i : Nat} (h4 : 4 ≠ i) (h5 : 5 ≠ i) : K5 w0 n F P vg vw vt vo gs ws ts os t (listed.setIfInBounds i true) x W :=
  ⟨h.below, h.size, by rw [RI.up_else h4]; exact h.und, h.p, by rw [RI.up_else h5]; exact h.r, h.t, h.pls⟩
/-- A value that only reads. -/
theorem Inv5.val (hK : K5 w0 n F P vg vw vt vo gs ws ts os t listed (xs 4) W) (h0 : listed.getD 0 false = true → xs 0 = .agg P) (h1 : listed.getD 1 false = true → xs 1 = vo) (h2 : listed.getD 2 false = true → xs 2 = .agg #[.int .i64 t.tk, .int .i64 t.wh]) (h3 : listed.getD 3 false = true → listed.getD 4 false = false → ∃ b, xs 3 = .slice (some ⟨b, 0, none⟩) 1 1 ∧ n + 4 ≤ b ∧ Holds W b 61 #[.int .i64 t.tk, .int .i64 t.wh]) (h6 : listed.getD 6 false = true → xs 6 = xs 4)
    (i : Nat) (v : Value) (hi : i = 0 ∧ v = .agg P ∨ i = 1 ∧ v = vo ∨ i = 2 ∧ v = .agg #[.int .i64 t.tk, .int .i64 t.wh] ∨ i = 6 ∧ v = xs 4) (ha : act = frameU n vo T (updU xs i v)) : Inv5 w0 n F P vg vw vt vo gs ws ts os t T (listed.setIfInBounds i true) act W := by
  refine ⟨updU xs i v, ha, ?_, fun h => ?_, fun h => ?_, fun h => ?_, fun h g => ?_, fun h => ?_⟩
  · rw [updU_else xs v (by omega)]; exact hK.up (by omega) (by omega)
  · rcases RI.up_inv h with e | h
    · obtain ⟨_, rfl⟩ | h | h | h := hi
      · subst e; rw [updU_same]
      · omega
      · omega
      · omega
    · by_cases e : i = 0
      · obtain ⟨_, rfl⟩ | h | h | h := hi
        · subst e; rw [updU_same]
        · omega
        · omega
        · omega
      · rw [updU_else xs v (by omega)]; exact h0 h
  · by_cases e : i = 1
    · obtain h | ⟨_, rfl⟩ | h | h := hi
      · omega
      · subst e; rw [updU_same]
      · omega
      · omega
    · rcases RI.up_inv h with e | h
      · omega
      · rw [updU_else xs v (by omega)]; exact h1 h
  · by_cases e : i = 2
    · obtain h | h | ⟨_, rfl⟩ | h := hi
      · omega
      · omega
      · subst e; rw [updU_same]
      · omega
    · rcases RI.up_inv h with e | h
      · omega
      · rw [updU_else xs v (by omega)]; exact h2 h
  · rw [RI.up_else (by omega)] at h g
    rw [updU_else xs v (by omega)]
    exact h3 h g
  · by_cases e : i = 6
    · obtain h | h | h | ⟨_, rfl⟩ := hi
      · omega
      · omega
      · omega
      · subst e; rw [updU_same, updU_else xs _ (by omega)]
    · rcases RI.up_inv h with e | h
      · omega
      · rw [updU_else xs v (by omega), updU_else xs v (by omega)]; exact h6 h
theorem K5.new {v0 v1 v2 v3 v4 v5 v6 : Value} (hb : Below F w0 W) (hs : n + 4 ≤ W.heap.size) (hu : Und W F vg vw vt vo gs ws ts os) (hp : Holds W n 31 P) (hr : Holds W (n + 1) 31 #[v0, v1, v2, v3, v4, v5, v6]) (ht : Holds W (n + 1 + 1) 61 #[.int .i64 t.tk, .int .i64 t.wh]) (hpl : Tlds w0 W) : K5 w0 n F P vg vw vt vo gs ws ts os t (Array.replicate 7 false) x W :=
  ⟨hb, hs, by rw [RI.up_new]; exact hu, hp, by rw [RI.up_new]; exact ⟨_, _, _, _, _, _, _, hr⟩, ht, hpl⟩
theorem K5.drew {y : Value} (h : K5 w0 n F P vg vw vt vo gs ws ts os t (Array.replicate 7 false) x W) : K5 w0 n F P vg vw vt vo gs ws ts os t (Array.replicate 7 false) y W.drew := by
  have dr : Below W.heap.size W W.drew := (Below.refl _ _).drew
  have hu := h.und
  rw [RI.up_new] at hu
  have hr := h.r
  rw [RI.up_new] at hr
  obtain ⟨u0, u1, u2, u3, u4, u5, u6, hr⟩ := (show ∃ u0 u1 u2 u3 u4 u5 u6, Holds W (n + 1) 31 #[u0, u1, u2, u3, u4, u5, u6] from hr)
  exact ⟨h.below.drew, h.size, by rw [RI.up_new]; exact Und.below hu dr, h.p.below dr, by rw [RI.up_new]; exact ⟨_, _, _, _, _, _, _, hr.below dr⟩, h.t.below dr, h.pls.trans (Tlds.below dr)⟩
theorem K5.old (h : K5 w0 n F P vg vw vt vo gs ws ts os t listed x W) (l5 : listed.getD 5 false = false) : ∃ u0 u1 u2 u3 u4 u5 u6, Holds W (n + 1) 31 #[u0, u1, u2, u3, u4, u5, u6] := by
  have hr := h.r
  rw [l5] at hr
  exact hr
theorem Inv5.new (h : K5 w0 n F P vg vw vt vo gs ws ts os t (Array.replicate 7 false) x W) (xs : Nat → Value) (ha : act = frameU n vo T xs) : Inv5 w0 n F P vg vw vt vo gs ws ts os t T (Array.replicate 7 false) act W.drew :=
  ⟨xs, ha, h.drew, fun h => by (rw [RI.up_new] at h; cases h), fun h => by (rw [RI.up_new] at h; cases h), fun h => by (rw [RI.up_new] at h; cases h), fun h => by (rw [RI.up_new] at h; cases h), fun h => by (rw [RI.up_new] at h; cases h)⟩
theorem Inv5.alloc (hF : F ≤ n) (hK : K5 w0 n F P vg vw vt vo gs ws ts os t listed (xs 4) W) (h0 : listed.getD 0 false = true → xs 0 = .agg P) (h1 : listed.getD 1 false = true → xs 1 = vo) (h2 : listed.getD 2 false = true → xs 2 = .agg #[.int .i64 t.tk, .int .i64 t.wh]) (h6 : listed.getD 6 false = true → xs 6 = xs 4)
    (l4 : listed.getD 4 false = false) (ha : act = frameU n vo T (updU xs 3 (.slice (some ⟨W.heap.size, 0, none⟩) 1 1))) : Inv5 w0 n F P vg vw vt vo gs ws ts os t T (listed.setIfInBounds 3 true) act (W.alloc (.cells #[.int .i64 t.tk, .int .i64 t.wh] 61)) := by
  have al : Below W.heap.size W (W.alloc (.cells #[.int .i64 t.tk, .int .i64 t.wh] 61)) := (Below.refl _ _).alloc (Nat.le_refl _) _
  have hsz := hK.size
  refine ⟨updU xs 3 _, ha, ⟨bcall hK.below (by omega) al, by simp; omega, ?_, hK.p.below al, ?_, hK.t.below al, hK.pls.trans (Tlds.below al)⟩, fun h => ?_, fun h => ?_, fun h => ?_, fun _ _ => ?_, fun h => ?_⟩
  · have h := hK.und
    rw [RI.up_else (by decide), l4]
    rw [l4] at h
    exact Und.below h al
  · have h := hK.r
    rw [RI.up_else (by decide)]
    by_cases h5 : listed.getD 5 false = true
    · rw [if_pos h5] at h ⊢; exact h.below al
    · rw [if_neg h5] at h ⊢; obtain ⟨u0, u1, u2, u3, u4, u5, u6, h⟩ := h; exact ⟨u0, u1, u2, u3, u4, u5, u6, h.below al⟩
  · rcases RI.up_inv h with e | h
    · omega
    · rw [updU_else xs _ (by decide)]; exact h0 h
  · rcases RI.up_inv h with e | h
    · omega
    · rw [updU_else xs _ (by decide)]; exact h1 h
  · rcases RI.up_inv h with e | h
    · omega
    · rw [updU_else xs _ (by decide)]; exact h2 h
  · exact ⟨W.heap.size, by rw [updU_same], hsz, heap_alloc_new _ _⟩
  · rcases RI.up_inv h with e | h
    · omega
    · rw [updU_else xs _ (by decide), updU_else xs _ (by decide)]; exact h6 h
theorem Inv5.app {v' : Value} {W' : World} (hK : K5 w0 n F P vg vw vt vo gs ws ts os t listed (xs 4) W) (h0 : listed.getD 0 false = true → xs 0 = .agg P) (h1 : listed.getD 1 false = true → xs 1 = vo) (h2 : listed.getD 2 false = true → xs 2 = .agg #[.int .i64 t.tk, .int .i64 t.wh])
    (l4 : listed.getD 4 false = false) (l6 : listed.getD 6 false = false) (hs : 4 < listed.size) (hvo : ∀ b, rowB vo = some b → b < n) (hp : PushedT W F vo os t v' W') (ha : act = frameU n vo T (updU xs 4 v')) : Inv5 w0 n F P vg vw vt vo gs ws ts os t T (listed.setIfInBounds 4 true) act W' := by
  have hu := hK.und
  rw [l4] at hu
  refine ⟨updU xs 4 _, ha, ⟨hK.below.trans hp.2.1, Nat.le_trans hK.size hp.2.1.size, ?_, hp.holds hK.p (fun e => by have := hvo _ e; omega), ?_, hp.holds hK.t (fun e => by have := hvo _ e; omega), hK.pls.trans (hp.tlds (Und.out hu))⟩, fun h => ?_, fun h => ?_, fun h => ?_, fun _ g => ?_, fun h => ?_⟩
  · have h := hK.und
    rw [RI.up_same hs, if_pos rfl, updU_same]
    rw [l4] at h
    exact Und.pushO h hp
  · have h := hK.r
    have hne : rowB vo ≠ some (n + 1) := fun e => by have := hvo _ e; omega
    rw [RI.up_else (by decide)]
    by_cases h5 : listed.getD 5 false = true
    · rw [if_pos h5] at h ⊢; exact hp.holds h hne
    · rw [if_neg h5] at h ⊢; obtain ⟨u0, u1, u2, u3, u4, u5, u6, h⟩ := h; exact ⟨u0, u1, u2, u3, u4, u5, u6, hp.holds h hne⟩
  · rcases RI.up_inv h with e | h
    · omega
    · rw [updU_else xs _ (by decide)]; exact h0 h
  · rcases RI.up_inv h with e | h
    · omega
    · rw [updU_else xs _ (by decide)]; exact h1 h
  · rcases RI.up_inv h with e | h
    · omega
    · rw [updU_else xs _ (by decide)]; exact h2 h
  · rw [RI.up_same hs] at g; cases g
  · rcases RI.up_inv h with e | h
    · omega
    · rw [l6] at h; cases h
theorem Inv5.store {v0 v1 v2 v3 v4 v5 v6 : Value} (hF : F ≤ n) (hn0 : w0.heap.size ≤ n) (hK : K5 w0 n F #[v0, v1, v2, v3, v4, v5, v6] vg vw vt vo gs ws ts os t listed (xs 4) W) (h0 : listed.getD 0 false = true → xs 0 = .agg #[v0, v1, v2, v3, v4, v5, v6]) (h1 : listed.getD 1 false = true → xs 1 = vo) (h2 : listed.getD 2 false = true → xs 2 = .agg #[.int .i64 t.tk, .int .i64 t.wh]) (h3 : listed.getD 3 false = true → listed.getD 4 false = false → ∃ b, xs 3 = .slice (some ⟨b, 0, none⟩) 1 1 ∧ n + 4 ≤ b ∧ Holds W b 61 #[.int .i64 t.tk, .int .i64 t.wh]) (h6 : listed.getD 6 false = true → xs 6 = xs 4)
    (l5 : listed.getD 5 false = false) (hs : 5 < listed.size) (ha : act = frameU n vo T xs) : Inv5 w0 n F #[v0, v1, v2, v3, v4, v5, v6] vg vw vt vo gs ws ts os t T (listed.setIfInBounds 5 true) act (((((((W.setCell ⟨n + 1, 0, none⟩ v0).setCell ⟨n + 1, 1, none⟩ v1).setCell ⟨n + 1, 2, none⟩ v2).setCell ⟨n + 1, 3, none⟩ v3).setCell ⟨n + 1, 4, none⟩ v4).setCell ⟨n + 1, 5, none⟩ v5).setCell ⟨n + 1, 6, none⟩ v6) := by
  have hr := hK.r
  rw [l5] at hr
  obtain ⟨u0, u1, u2, u3, u4, u5, u6, hr⟩ := (show ∃ u0 u1 u2 u3 u4 u5 u6, Holds W (n + 1) 31 #[u0, u1, u2, u3, u4, u5, u6] from hr)
  obtain ⟨k7, s7⟩ := fill7H hr v0 v1 v2 v3 v4 v5 v6
  refine ⟨xs, ha, ⟨below7U hK.below (by omega) _ _ _ _ _ _ _, by simpa using hK.size, ?_, (set7_else (by omega) _ _ _ _ _ _ _).trans hK.p, ?_, (set7_else (by omega) _ _ _ _ _ _ _).trans hK.t, fun k ty cur fz ht hk => (set7_else (by have := (Array.getElem?_eq_some_iff.1 hk).1; omega) _ _ _ _ _ _ _).trans (hK.pls k ty cur fz ht hk)⟩, fun h => ?_, fun h => ?_, fun h => ?_, fun h g => ?_, fun h => ?_⟩
  · have h := hK.und
    rw [RI.up_else (by decide)]
    by_cases h4 : listed.getD 4 false = true
    · rw [if_pos h4] at h ⊢; exact Und.same h s7
    · rw [if_neg h4] at h ⊢; exact Und.same h s7
  · rw [RI.up_same hs, if_pos rfl]; exact k7
  · rw [RI.up_else (by decide)] at h; exact h0 h
  · rw [RI.up_else (by decide)] at h; exact h1 h
  · rw [RI.up_else (by decide)] at h; exact h2 h
  · rw [RI.up_else (by decide)] at h g
    obtain ⟨b, e, hb, hh⟩ := h3 h g
    exact ⟨b, e, hb, (set7_else (by omega) _ _ _ _ _ _ _).trans hh⟩
  · rw [RI.up_else (by decide)] at h; exact h6 h
theorem twoOf {w : World} {N : Nat} {t : TypeId} {v0 v1 : Value} (h : Holds w N t #[v0, v1]) : w.cell? ⟨N, 0, none⟩ = some v0 ∧ w.cell? ⟨N, 1, none⟩ = some v1 := by
  constructor <;> (rw [cell_of_row _ _ _ _ _ _ h]; rfl)
end

set_option maxRecDepth 4000 in
set_option maxHeartbeats 2000000 in
theorem tells (ra : Option Addr) (rl rc : Nat) (pol win last : Int) (vg vw vt vo : Value) (gs ws : List Int) (ts os : List Tld) (tick what : Int) (w : World) (F : Nat) (hU : Und w F vg vw vt vo gs ws ts os) (hF : F ≤ w.heap.size) (hn : ts.length ≤ 1048576) (ho : os.length ≤ 1099511627776) :
    Calls Tryz.prog 23 #[.agg #[.slice ra rl rc, .int .i64 pol, .int .i64 win, .int .i64 last, vg, vw, vt], vo, .int .i64 tick, .int .i64 what] w fun e w' => (∃ vt' vo', e = .returned (.tuple #[.agg #[.slice ra rl rc, .int .i64 pol, .int .i64 win, .int .i64 last, vg, vw, vt'], vo']) ∧ Und w' F vg vw vt' vo' gs ws (tellT ts ⟨tick, what⟩) (os ++ [⟨tick, what⟩])) ∧ Below F w w' ∧ Tlds w w' := by
  obtain ⟨ga, gc, rfl⟩ := hU.goes.form
  obtain ⟨wa, wc, rfl⟩ := hU.waits.form
  obtain ⟨ta, tc, rfl⟩ := hU.told.form
  obtain ⟨oa, oc, rfl⟩ := hU.out.form
  have HU : Hid _ := hU
  clear hU
  have HBX : Hid _ := boxes4 w 31 31 61 61 #[.slice ra rl rc, .int .i64 pol, .int .i64 win, .int .i64 last, .slice ga gs.length gc, .slice wa ws.length wc, .slice ta ts.length tc] #[.slice none 0 0, .int .i64 0, .int .i64 0, .int .i64 0, .slice none 0 0, .slice none 0 0, .slice none 0 0] #[.int .i64 tick, .int .i64 what] #[.int .i64 tick, .int .i64 what]
  go_enter Tryz.func23, Tryz.ntmps23
  go_upto_region 3 with (at_builtin; refine wp_pushT rfl _ _ rfl F (.slice ta ts.length tc) ts rfl (HU.out.below HBX.out.2.2.2.2).told ⟨w.heap.size + 1 + 1 + 1, 0, none⟩ 1 ⟨tick, what⟩ rfl (cells_at HBX.out.2.2.2.1) (by omega) (by simp; omega) ?_; intro v1 w1 hp1; obtain ⟨a1, c1, rfl⟩ := hp1.form; have HP1 : Hid (PushedT _ F (.slice ta ts.length tc) ts ⟨tick, what⟩ _ w1) := hp1; have hx1 : Holds w1 w.heap.size 31 _ := hp1.holds HBX.out.1 (fun e => Nat.lt_irrefl _ (HU.out.told.block e).2.1); have HX1 : Hid _ := hx1; obtain ⟨x0, x1, x2, x3, x4, x5, x6, xf⟩ := sevenOf hx1; clear hx1 hp1)
  obtain ⟨z3, s3⟩ := box_set (cur' := #[.slice ra rl rc, .int .i64 pol, .int .i64 win, .int .i64 last, .slice ga gs.length gc, .slice wa ws.length wc, .slice a1 (ts.length + 1) c1]) HX1.out 6 (.slice a1 (ts.length + 1) c1) rfl
  have hvt : ∀ b, rowB (.slice ta ts.length tc) = some b → b < w.heap.size := fun b e => (HU.out.told.block e).2.1
  have hvo : ∀ b, rowB (.slice oa os.length oc) = some b → b < w.heap.size := fun b e => (HU.out.out.block e).2.1
  have HR3 : Hid (Holds (w1.setCell ⟨w.heap.size, 6, none⟩ (.slice a1 (ts.length + 1) c1)) (w.heap.size + 1) 31 #[.slice none 0 0, .int .i64 0, .int .i64 0, .int .i64 0, .slice none 0 0, .slice none 0 0, .slice none 0 0]) := holds_else (HP1.out.holds HBX.out.2.1 (fun e => by have := hvt _ e; omega)) (by omega) 6 _
  have HT3 : Hid (Holds (w1.setCell ⟨w.heap.size, 6, none⟩ (.slice a1 (ts.length + 1) c1)) (w.heap.size + 1 + 1) 61 #[.int .i64 tick, .int .i64 what]) := holds_else (HP1.out.holds HBX.out.2.2.1 (fun e => by have := hvt _ e; omega)) (by omega) 6 _
  have HU3 : Hid (Und (w1.setCell ⟨w.heap.size, 6, none⟩ (.slice a1 (ts.length + 1) c1)) F (.slice ga gs.length gc) (.slice wa ws.length wc) (.slice a1 (ts.length + 1) c1) (.slice oa os.length oc) gs ws (ts ++ [⟨tick, what⟩]) os) := ((HU.out.below HBX.out.2.2.2.2).pushT HP1.out).same s3
  have HB3 : Hid (Below F w (w1.setCell ⟨w.heap.size, 6, none⟩ (.slice a1 (ts.length + 1) c1)) ∧ w.heap.size + 4 ≤ (w1.setCell ⟨w.heap.size, 6, none⟩ (.slice a1 (ts.length + 1) c1)).heap.size) := ⟨((HBX.out.2.2.2.2.mono hF).trans HP1.out.2.1).setCell (p := ⟨w.heap.size, 6, none⟩) hF _, by have := HP1.out.2.1.size; simp at this ⊢; omega⟩
  have HPL : Hid (Tlds w (w1.setCell ⟨w.heap.size, 6, none⟩ (.slice a1 (ts.length + 1) c1))) := fun k ty cur fz ht hk => (Below.heap_setCell w1 ⟨w.heap.size, 6, none⟩ _ k (by have := (Array.getElem?_eq_some_iff.1 hk).1; simp only; omega)).trans ((HP1.out.tlds (HU.out.below HBX.out.2.2.2.2).told) k ty cur fz ht (Tlds.below HBX.out.2.2.2.2 k ty cur fz ht hk))
  have HZ3 : Hid _ := z3
  have HVO : Hid _ := hvo
  clear HBX HP1 HX1 hvt hvo s3 x0 x1 x2 x3 x4 x5 x6 xf
  generalize hW : w1.setCell ⟨w.heap.size, 6, none⟩ (.slice a1 (ts.length + 1) c1) = w3 at z3 HR3 HT3 HU3 HB3 HZ3 HPL ⊢
  clear hW w1
  obtain ⟨x0, x1, x2, x3, x4, x5, x6, xf⟩ := sevenOf z3
  clear z3
  by_cases hc : 60 < ts.length + 1
  · obtain ⟨g, off, cap, e, hle, hu5⟩ := HU3.out.tail (by simp; omega)
    have e0 : (ts ++ [(⟨tick, what⟩ : Tld)]).length = ts.length + 1 := by simp
    rw [e0] at e hle hu5
    simp only [Value.slice.injEq, true_and] at e
    obtain ⟨rfl, rfl⟩ := e
    have HTT : Hid (tellT ts ⟨tick, what⟩ = (ts ++ [(⟨tick, what⟩ : Tld)]).drop 1) := if_pos hc
    have HU5 : Hid _ := hu5
    clear hu5 e0
    have hc1 : (60 : Int) < ((ts.length : Int) + 1) := by omega
    go_upto_region 5 with fail
    obtain ⟨z5, s5⟩ := box_set (cur' := #[.slice ra rl rc, .int .i64 pol, .int .i64 win, .int .i64 last, .slice ga gs.length gc, .slice wa ws.length wc, .slice (some ⟨g, off + 2, none⟩) ts.length (c1 - 1)]) HZ3.out 6 (.slice (some ⟨g, off + 2, none⟩) ts.length (c1 - 1)) rfl
    have HK5 : Hid (K5 w w.heap.size F #[.slice ra rl rc, .int .i64 pol, .int .i64 win, .int .i64 last, .slice ga gs.length gc, .slice wa ws.length wc, .slice (some ⟨g, off + 2, none⟩) ts.length (c1 - 1)] (.slice ga gs.length gc) (.slice wa ws.length wc) (.slice (some ⟨g, off + 2, none⟩) ts.length (c1 - 1)) (.slice oa os.length oc) gs ws (tellT ts ⟨tick, what⟩) os ⟨tick, what⟩ (Array.replicate 7 false) undef (w3.setCell ⟨w.heap.size, 6, none⟩ (.slice (some ⟨g, off + 2, none⟩) ts.length (c1 - 1)))) := K5.new (HB3.out.1.setCell (p := ⟨w.heap.size, 6, none⟩) hF _) (by simpa using HB3.out.2) (by rw [HTT.out]; exact Und.same HU5.out s5) z5 (holds_else HR3.out (by omega) 6 _) (holds_else HT3.out (by omega) 6 _) (fun k ty cur fz ht hk => (Below.heap_setCell w3 ⟨w.heap.size, 6, none⟩ _ k (by have := (Array.getElem?_eq_some_iff.1 hk).1; simp only; omega)).trans (HPL.out k ty cur fz ht hk))
    clear HPL HZ3 HU3 HU5 HB3 HR3 HT3 z5 s5 x0 x1 x2 x3 x4 x5 x6 xf hc1
    generalize hW : w3.setCell ⟨w.heap.size, 6, none⟩ (.slice (some ⟨g, off + 2, none⟩) ts.length (c1 - 1)) = w5 at HK5 ⊢
    clear hW w3
    refine wp_region_noPanic (wp_frameU _ (frameU w.heap.size (.slice oa os.length oc)) (fun j => if j = 6 then Value.slice none 0 0 else undef) (by kernel_rfl) fun T => ?_)
    refine RI.wp_region_inv2 (by kernel_rfl) (by kernel_rfl) (Inv5 w w.heap.size F #[.slice ra rl rc, .int .i64 pol, .int .i64 win, .int .i64 last, .slice ga gs.length gc, .slice wa ws.length wc, (.slice (some ⟨g, off + 2, none⟩) ts.length (c1 - 1))] (.slice ga gs.length gc) (.slice wa ws.length wc) (.slice (some ⟨g, off + 2, none⟩) ts.length (c1 - 1)) (.slice oa os.length oc) gs ws (tellT ts ⟨tick, what⟩) os ⟨tick, what⟩ T) (Inv5.new HK5.out (fun j => if j = 6 then Value.slice none 0 0 else undef) (by kernel_rfl)) (fun i o listed act W hi hs hl haft hcl hinv => ?_) (fun listed act W hs hall hinv => ?_)
    case refine_2 =>
      obtain ⟨xs, rfl, hK, h0, h1, h2, h3, h6⟩ := hinv
      have l4 : listed.getD 4 false = true := by have := hall 4 (by decide); simpa [Array.getD, hs] using this
      have l5 : listed.getD 5 false = true := by have := hall 5 (by decide); simpa [Array.getD, hs] using this
      have l6 : listed.getD 6 false = true := by have := hall 6 (by decide); simpa [Array.getD, hs] using this
      have e6 := h6 l6
      have hu := hK.und
      rw [l4, if_pos rfl] at hu
      have hr := hK.r
      rw [l5, if_pos rfl] at hr
      have HFI : Hid _ := And.intro hu (And.intro hK.below hK.pls)
      clear hu hK h0 h1 h2 h3 h6 l4 l5 l6 hall hs
      simp only [frameU, e6]
      clear e6
      generalize xs 4 = vo' at HFI ⊢
      obtain ⟨y0, y1, y2, y3, y4, y5, y6, yf⟩ := sevenOf hr
      clear hr
      refine NoPanic.normal ?_
      go_wp2_with fail
      refine bodyPost_ret (v := .tuple #[.agg #[.slice ra rl rc, .int .i64 pol, .int .i64 win, .int .i64 last, .slice ga gs.length gc, .slice wa ws.length wc, (.slice (some ⟨g, off + 2, none⟩) ts.length (c1 - 1))], vo']) ?_ rfl ?_
      · simp [results, Tryz.results23, go_sem, y0, y1, y2, y3, y4, y5, y6]
      · exact ⟨⟨_, _, rfl, HFI.out.1⟩, HFI.out.2⟩
    obtain ⟨xs, rfl, hK, h0, h1, h2, h3, h6⟩ := hinv
    have hi7 : i < 7 := (Array.getElem?_eq_some_iff.1 hi).1
    rcases (show i = 0 ∨ i = 1 ∨ i = 2 ∨ i = 3 ∨ i = 4 ∨ i = 5 ∨ i = 6 by omega) with rfl | rfl | rfl | rfl | rfl | rfl | rfl
    · have ho' := Option.some.inj hi
      subst ho'
      obtain ⟨y0, y1, y2, y3, y4, y5, y6, yf⟩ := sevenOf hK.p
      exact RI.op_val (d := some 28) (v := .agg #[.slice ra rl rc, .int .i64 pol, .int .i64 win, .int .i64 last, .slice ga gs.length gc, .slice wa ws.length wc, (.slice (some ⟨g, off + 2, none⟩) ts.length (c1 - 1))]) hi (by kernel_rfl) rfl (by simp [go_sem, frameU, y0, y1, y2, y3, y4, y5, y6]) (Inv5.val hK h0 h1 h2 h3 h6 0 _ (.inl ⟨rfl, rfl⟩) (by kernel_rfl))
    · have ho' := Option.some.inj hi
      subst ho'
      exact RI.op_val (d := some 29) (v := .slice oa os.length oc) hi (by kernel_rfl) rfl (by simp [go_sem, frameU]) (Inv5.val hK h0 h1 h2 h3 h6 1 _ (.inr (.inl ⟨rfl, rfl⟩)) (by kernel_rfl))
    · have ho' := Option.some.inj hi
      subst ho'
      obtain ⟨y0, y1⟩ := twoOf hK.t
      exact RI.op_val (d := some 30) (v := .agg #[.int .i64 tick, .int .i64 what]) hi (by kernel_rfl) rfl (by simp [go_sem, frameU, y0, y1]) (Inv5.val hK h0 h1 h2 h3 h6 2 _ (.inr (.inr (.inl ⟨rfl, rfl⟩))) (by kernel_rfl))
    · have ho' := Option.some.inj hi
      subst ho'
      have l4 : listed.getD 4 false = false := hcl.not 20 (by kernel_rfl) hl
      have d2 : xs 2 = .agg #[.int .i64 tick, .int .i64 what] := h2 (RI.dep haft 2 (by kernel_rfl))
      have e2 : xs = updU xs 2 (.agg #[.int .i64 tick, .int .i64 what]) := updU_id d2
      rw [e2] at hK h0 h1 h2 h6 ⊢
      clear e2 d2 h3
      refine RI.op_one hi (by kernel_rfl) fun KK hKK => ?_
      simp only [frameU, updU]
      go_simp
      exact hKK _ _ (Inv5.alloc hF hK h0 h1 h2 h6 l4 (by kernel_rfl))
    · have ho' := Option.some.inj hi
      subst ho'
      have l6 : listed.getD 6 false = false := hcl.not 20 (by kernel_rfl) hl
      have hu := hK.und
      rw [RI.not_up hl] at hu
      have d1 : xs 1 = .slice oa os.length oc := h1 (RI.dep haft 1 (by kernel_rfl))
      obtain ⟨b, d3, hb, hh⟩ := h3 (RI.dep haft 3 (by kernel_rfl)) (RI.not_up hl)
      refine RI.op_one hi (by kernel_rfl) fun KK hKK => ?_
      refine op_pushT _ _ rfl F (.slice oa os.length oc) os ((show _ = xs 1 by kernel_rfl).trans d1) (Und.out hu) ⟨b, 0, none⟩ 1 ⟨tick, what⟩ ((show _ = xs 3 by kernel_rfl).trans d3) (cells_at hh) ho (by have := hK.size; omega) (d := some 32) rfl ?_
      intro v' W' hp
      exact hKK _ _ (Inv5.app hK h0 h1 h2 (RI.not_up hl) l6 (by rw [hs]; decide) HVO.out hp (by kernel_rfl))
    · have ho' := Option.some.inj hi
      subst ho'
      have d0 := h0 (RI.dep haft 0 (by kernel_rfl))
      have e0 := updU_id d0
      rw [e0] at hK h0 h1 h2 h3 h6 ⊢
      clear e0 d0
      have l5 := RI.not_up hl
      have hs5 : 5 < listed.size := by rw [hs]; decide
      obtain ⟨u0, u1, u2, u3, u4, u5, u6, hr⟩ := K5.old hK l5
      obtain ⟨y0, y1, y2, y3, y4, y5, y6, yf⟩ := sevenOf hr
      clear hr
      refine RI.op_one hi (by kernel_rfl) fun KK hKK => ?_
      simp only [frameU, updU]
      go_simp
      exact hKK _ _ (Inv5.store hF (Nat.le_refl _) hK h0 h1 h2 h3 h6 l5 hs5 (by kernel_rfl))
    · have ho' := Option.some.inj hi
      subst ho'
      exact RI.op_val (d := some 9) (v := xs 4) hi (by kernel_rfl) rfl (by simp [go_sem, frameU]) (Inv5.val hK h0 h1 h2 h3 h6 6 _ (.inr (.inr (.inr ⟨rfl, rfl⟩))) (by kernel_rfl))
  · have HTT : Hid (tellT ts ⟨tick, what⟩ = ts ++ [(⟨tick, what⟩ : Tld)]) := if_neg hc
    have hc1 : ¬ (60 : Int) < ((ts.length : Int) + 1) := by omega
    go_upto_region 5 with fail
    have HK5 : Hid (K5 w w.heap.size F #[.slice ra rl rc, .int .i64 pol, .int .i64 win, .int .i64 last, .slice ga gs.length gc, .slice wa ws.length wc, .slice a1 (ts.length + 1) c1] (.slice ga gs.length gc) (.slice wa ws.length wc) (.slice a1 (ts.length + 1) c1) (.slice oa os.length oc) gs ws (tellT ts ⟨tick, what⟩) os ⟨tick, what⟩ (Array.replicate 7 false) undef w3) := K5.new HB3.out.1 HB3.out.2 (by rw [HTT.out]; exact HU3.out) HZ3.out HR3.out HT3.out HPL.out
    clear HPL HZ3 HU3 HB3 HR3 HT3 x0 x1 x2 x3 x4 x5 x6 xf hc1
    generalize w3 = w5 at HK5 ⊢
    refine wp_region_noPanic (wp_frameU _ (frameU w.heap.size (.slice oa os.length oc)) (fun j => if j = 6 then Value.slice none 0 0 else undef) (by kernel_rfl) fun T => ?_)
    refine RI.wp_region_inv2 (by kernel_rfl) (by kernel_rfl) (Inv5 w w.heap.size F #[.slice ra rl rc, .int .i64 pol, .int .i64 win, .int .i64 last, .slice ga gs.length gc, .slice wa ws.length wc, (.slice a1 (ts.length + 1) c1)] (.slice ga gs.length gc) (.slice wa ws.length wc) (.slice a1 (ts.length + 1) c1) (.slice oa os.length oc) gs ws (tellT ts ⟨tick, what⟩) os ⟨tick, what⟩ T) (Inv5.new HK5.out (fun j => if j = 6 then Value.slice none 0 0 else undef) (by kernel_rfl)) (fun i o listed act W hi hs hl haft hcl hinv => ?_) (fun listed act W hs hall hinv => ?_)
    case refine_2 =>
      obtain ⟨xs, rfl, hK, h0, h1, h2, h3, h6⟩ := hinv
      have l4 : listed.getD 4 false = true := by have := hall 4 (by decide); simpa [Array.getD, hs] using this
      have l5 : listed.getD 5 false = true := by have := hall 5 (by decide); simpa [Array.getD, hs] using this
      have l6 : listed.getD 6 false = true := by have := hall 6 (by decide); simpa [Array.getD, hs] using this
      have e6 := h6 l6
      have hu := hK.und
      rw [l4, if_pos rfl] at hu
      have hr := hK.r
      rw [l5, if_pos rfl] at hr
      have HFI : Hid _ := And.intro hu (And.intro hK.below hK.pls)
      clear hu hK h0 h1 h2 h3 h6 l4 l5 l6 hall hs
      simp only [frameU, e6]
      clear e6
      generalize xs 4 = vo' at HFI ⊢
      obtain ⟨y0, y1, y2, y3, y4, y5, y6, yf⟩ := sevenOf hr
      clear hr
      refine NoPanic.normal ?_
      go_wp2_with fail
      refine bodyPost_ret (v := .tuple #[.agg #[.slice ra rl rc, .int .i64 pol, .int .i64 win, .int .i64 last, .slice ga gs.length gc, .slice wa ws.length wc, (.slice a1 (ts.length + 1) c1)], vo']) ?_ rfl ?_
      · simp [results, Tryz.results23, go_sem, y0, y1, y2, y3, y4, y5, y6]
      · exact ⟨⟨_, _, rfl, HFI.out.1⟩, HFI.out.2⟩
    obtain ⟨xs, rfl, hK, h0, h1, h2, h3, h6⟩ := hinv
    have hi7 : i < 7 := (Array.getElem?_eq_some_iff.1 hi).1
    rcases (show i = 0 ∨ i = 1 ∨ i = 2 ∨ i = 3 ∨ i = 4 ∨ i = 5 ∨ i = 6 by omega) with rfl | rfl | rfl | rfl | rfl | rfl | rfl
    · have ho' := Option.some.inj hi
      subst ho'
      obtain ⟨y0, y1, y2, y3, y4, y5, y6, yf⟩ := sevenOf hK.p
      exact RI.op_val (d := some 28) (v := .agg #[.slice ra rl rc, .int .i64 pol, .int .i64 win, .int .i64 last, .slice ga gs.length gc, .slice wa ws.length wc, (.slice a1 (ts.length + 1) c1)]) hi (by kernel_rfl) rfl (by simp [go_sem, frameU, y0, y1, y2, y3, y4, y5, y6]) (Inv5.val hK h0 h1 h2 h3 h6 0 _ (.inl ⟨rfl, rfl⟩) (by kernel_rfl))
    · have ho' := Option.some.inj hi
      subst ho'
      exact RI.op_val (d := some 29) (v := .slice oa os.length oc) hi (by kernel_rfl) rfl (by simp [go_sem, frameU]) (Inv5.val hK h0 h1 h2 h3 h6 1 _ (.inr (.inl ⟨rfl, rfl⟩)) (by kernel_rfl))
    · have ho' := Option.some.inj hi
      subst ho'
      obtain ⟨y0, y1⟩ := twoOf hK.t
      exact RI.op_val (d := some 30) (v := .agg #[.int .i64 tick, .int .i64 what]) hi (by kernel_rfl) rfl (by simp [go_sem, frameU, y0, y1]) (Inv5.val hK h0 h1 h2 h3 h6 2 _ (.inr (.inr (.inl ⟨rfl, rfl⟩))) (by kernel_rfl))
    · have ho' := Option.some.inj hi
      subst ho'
      have l4 : listed.getD 4 false = false := hcl.not 20 (by kernel_rfl) hl
      have d2 : xs 2 = .agg #[.int .i64 tick, .int .i64 what] := h2 (RI.dep haft 2 (by kernel_rfl))
      have e2 : xs = updU xs 2 (.agg #[.int .i64 tick, .int .i64 what]) := updU_id d2
      rw [e2] at hK h0 h1 h2 h6 ⊢
      clear e2 d2 h3
      refine RI.op_one hi (by kernel_rfl) fun KK hKK => ?_
      simp only [frameU, updU]
      go_simp
      exact hKK _ _ (Inv5.alloc hF hK h0 h1 h2 h6 l4 (by kernel_rfl))
    · have ho' := Option.some.inj hi
      subst ho'
      have l6 : listed.getD 6 false = false := hcl.not 20 (by kernel_rfl) hl
      have hu := hK.und
      rw [RI.not_up hl] at hu
      have d1 : xs 1 = .slice oa os.length oc := h1 (RI.dep haft 1 (by kernel_rfl))
      obtain ⟨b, d3, hb, hh⟩ := h3 (RI.dep haft 3 (by kernel_rfl)) (RI.not_up hl)
      refine RI.op_one hi (by kernel_rfl) fun KK hKK => ?_
      refine op_pushT _ _ rfl F (.slice oa os.length oc) os ((show _ = xs 1 by kernel_rfl).trans d1) (Und.out hu) ⟨b, 0, none⟩ 1 ⟨tick, what⟩ ((show _ = xs 3 by kernel_rfl).trans d3) (cells_at hh) ho (by have := hK.size; omega) (d := some 32) rfl ?_
      intro v' W' hp
      exact hKK _ _ (Inv5.app hK h0 h1 h2 (RI.not_up hl) l6 (by rw [hs]; decide) HVO.out hp (by kernel_rfl))
    · have ho' := Option.some.inj hi
      subst ho'
      have d0 := h0 (RI.dep haft 0 (by kernel_rfl))
      have e0 := updU_id d0
      rw [e0] at hK h0 h1 h2 h3 h6 ⊢
      clear e0 d0
      have l5 := RI.not_up hl
      have hs5 : 5 < listed.size := by rw [hs]; decide
      obtain ⟨u0, u1, u2, u3, u4, u5, u6, hr⟩ := K5.old hK l5
      obtain ⟨y0, y1, y2, y3, y4, y5, y6, yf⟩ := sevenOf hr
      clear hr
      refine RI.op_one hi (by kernel_rfl) fun KK hKK => ?_
      simp only [frameU, updU]
      go_simp
      exact hKK _ _ (Inv5.store hF (Nat.le_refl _) hK h0 h1 h2 h3 h6 l5 hs5 (by kernel_rfl))
    · have ho' := Option.some.inj hi
      subst ho'
      exact RI.op_val (d := some 9) (v := xs 4) hi (by kernel_rfl) rfl (by simp [go_sem, frameU]) (Inv5.val hK h0 h1 h2 h3 h6 6 _ (.inr (.inr (.inr ⟨rfl, rfl⟩))) (by kernel_rfl))
end Pl
end Go.Proofs.YtghocdiddolinaaGreatDoor
