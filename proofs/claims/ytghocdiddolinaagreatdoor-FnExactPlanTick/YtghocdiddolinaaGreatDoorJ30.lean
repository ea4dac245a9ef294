/- The program's planner while it looks: its box, what it told, its lists. -/
import Derived.Test.YtghocdiddolinaaGreatDoorJ11
import Derived.Test.YtghocdiddolinaaGreatDoorJ18
import Derived.Test.YtghocdiddolinaaGreatDoorJ17
import Derived.RangeFuncOwn
namespace Go.Proofs.YtghocdiddolinaaGreatDoor
set_option linter.unusedVariables false
set_option linter.unusedSimpArgs false
open Go.RowKit Go
namespace Pl
open Dr (ButO rowB rowB_own rowB_pos)

/-- What lies in these blocks stands. -/
def Keep (S : Nat → Prop) (W W' : World) : Prop := ∀ k, S k → W'.heap[k]? = W.heap[k]?
theorem Keep.refl (S : Nat → Prop) (W : World) : Keep S W W := fun _ _ => rfl
theorem Keep.trans {S : Nat → Prop} {A B C : World} (h : Keep S A B) (k : Keep S B C) : Keep S A C := fun i h1 => (k i h1).trans (h i h1)
theorem Keep.below {S : Nat → Prop} {A B : World} (h : Below A.heap.size A B) (hm : ∀ k, S k → k < A.heap.size) : Keep S A B := fun i h2 => h.block i (hm i h2)
/-- A slice without room is none. -/
def NZ (v : Value) : Prop := ∀ a, v = .slice a 0 0 → a = none
/-- The three lists that grow: rows of their own from their beginning on. -/
structure Own3 (W : World) (F : Nat) (vg vw vo : Value) (gs ws : List Int) (os : List Tld) : Prop where
  g : W.ownsRow F 3 1 vg gs.length (gs.map (Value.int .i64))
  w : W.ownsRow F 3 1 vw ws.length (ws.map (Value.int .i64))
  o : W.ownsRow F 61 2 vo os.length (flatT os)
  ng : NZ vg
  nw : NZ vw
  no : NZ vo
theorem nz_row {W : World} {F n : Nat} {t : TypeId} {size : Nat} {v : Value} {xs : List Value} (h : W.ownsRow F t size v n xs) (hz : NZ v) {b : Nat} (e : v.ownBlock = some b) : rowB v = some b := by
  rcases h.2 with ⟨rfl, _⟩ | ⟨g, cap, cur, rfl, _, _, hle, _⟩
  · simp [Value.ownBlock] at e
  · by_cases hc : cap = 0
    · subst hc
      have hn : n = 0 := by omega
      subst hn
      have := hz _ rfl
      cases this
    · simp only [Value.ownBlock, Option.some.injEq] at e
      simp only [rowB]
      rw [if_neg hc, e]
theorem nz_pos {a : Option Addr} {n c : Nat} (h : 0 < n) : NZ (.slice a n c) := fun b e => by
  simp only [Value.slice.injEq] at e
  omega
theorem nz_none : NZ (.slice none 0 0) := fun a e => by
  simp only [Value.slice.injEq, and_true] at e
  exact e.symm
theorem butO_own {W : World} {F : Nat} {v : Value} {zs : List Int} (h : ButO W F v zs) (hn : 0 < zs.length) : W.ownsRow F 3 1 v zs.length (zs.map (Value.int .i64)) ∧ NZ v := by
  rcases id h with ⟨h0, _⟩ | h1
  · omega
  · obtain ⟨a, c, rfl⟩ := h.form
    exact ⟨h1, nz_pos hn⟩
section
variable {W W' : World} {F : Nat} {vg vw vo : Value} {gs ws : List Int} {os : List Tld}
theorem Own3.same (h : Own3 W F vg vw vo gs ws os) (hs : SameP W W') : Own3 W' F vg vw vo gs ws os :=
  ⟨own_same h.g hs (.inr (.inl rfl)), own_same h.w hs (.inr (.inl rfl)), own_same h.o hs (.inr (.inr rfl)), h.ng, h.nw, h.no⟩
theorem Own3.below (h : Own3 W F vg vw vo gs ws os) (hb : Below W.heap.size W W') : Own3 W' F vg vw vo gs ws os := h.same (SameP.below hb)
end
/-- Not one of them. -/
def Out (S : Nat → Prop) (b : Nat) : Prop := ¬ S b
def tellF (m : Nat) : Value := .func (.func 53) #[] #[.pointer (some ⟨m, 0, none⟩)]
/-- The planner. -/
structure Pnr (W : World) (F : Nat) (S : Nat → Prop) (n m : Nat) (vr : Value) (pol win last : Int) (vp vg vw vt vo : Value) (gs ws : List Int) (ts os : List Tld) : Prop where
  box : Holds W n 84 #[vr, .int .i64 pol, .int .i64 win, .int .i64 last, vg, vw, vt, vp, tellF m]
  out : Holds W m 29 #[vo]
  und : Und W F vg vw vt vo gs ws ts os
  own : Own3 W F vg vw vo gs ws os
  low : F ≤ n ∧ F ≤ m
  away : Out S n ∧ Out S m
  big : ∀ k, S k → k < W.heap.size
  freeG : ∀ b, rowB vg = some b → Out S b
  freeW : ∀ b, rowB vw = some b → Out S b
  freeO : ∀ b, rowB vo = some b → Out S b
/-- What every step of the planner keeps. -/
def Stays (F : Nat) (S : Nat → Prop) (W W' : World) : Prop := Below F W W' ∧ Keep S W W' ∧ KeepsOthers W W'
theorem Stays.refl (F : Nat) (S : Nat → Prop) (W : World) : Stays F S W W := ⟨Below.refl _ _, Keep.refl _ _, KeepsOthers.refl _⟩
theorem Stays.trans {F : Nat} {S : Nat → Prop} {A B C : World} (h : Stays F S A B) (k : Stays F S B C) : Stays F S A C := ⟨h.1.trans k.1, h.2.1.trans k.2.1, h.2.2.trans k.2.2⟩
theorem others_below {A B : World} (h : Below A.heap.size A B) : KeepsOthers A B := ⟨h.size, fun k _ hk _ => (h.block k (Array.getElem?_eq_some_iff.1 hk).1).trans hk⟩
theorem Stays.below {F : Nat} {S : Nat → Prop} {A B : World} (h : Below A.heap.size A B) (hF : F ≤ A.heap.size) (hm : ∀ k, S k → k < A.heap.size) : Stays F S A B := ⟨h.mono hF, Keep.below h hm, others_below h⟩
theorem Stays.set {F : Nat} {S : Nat → Prop} {A B : World} (h : Stays F S A B) {p : Addr} (hp : F ≤ p.block) (ho : Out S p.block) (v : Value) : Stays F S A (B.setCell p v) :=
  ⟨h.1.setCell hp v, fun k h1 => (Below.heap_setCell B p v k (fun e => by subst e; exact ho h1)).trans (h.2.1 k h1), h.2.2.trans (KeepsOthers.setCell B p v)⟩
theorem others_row {A B : World} {v : Value} (hk : ∀ k, k < A.heap.size → rowB v ≠ some k → B.heap[k]? = A.heap[k]?) (hs : A.heap.size ≤ B.heap.size) (hc : ∀ b, rowB v = some b → ∃ c t, A.heap[b]? = some (.cells c t (0, 0))) : KeepsOthers A B :=
  ⟨hs, fun k o ho hn => (hk k (Array.getElem?_eq_some_iff.1 ho).1 fun e => by
    obtain ⟨c, t, h⟩ := hc k e
    rw [h] at ho
    cases ho
    cases hn).trans ho⟩
section
variable {W W' : World} {F n m : Nat} {S : Nat → Prop} {vr : Value} {pol win last : Int} {vp vg vw vt vo : Value} {gs ws : List Int} {ts os : List Tld}
theorem neP : (84 : TypeId) ≠ 29 ∧ (84 : TypeId) ≠ 3 ∧ (84 : TypeId) ≠ 61 ∧ (29 : TypeId) ≠ 3 ∧ (29 : TypeId) ≠ 61 ∧ (84 : TypeId) ≠ 73 ∧ (29 : TypeId) ≠ 73 := by decide
theorem holds_ne {W : World} {a b : Nat} {t u : TypeId} {A B : Array Value} (h : Holds W a t A) (k : Holds W b u B) (hne : t ≠ u) : a ≠ b := fun e => by
  subst e
  unfold Holds at h k
  rw [h] at k
  simp only [Option.some.injEq, Obj.cells.injEq] at k
  exact hne k.2.1
theorem Pnr.ne (h : Pnr W F S n m vr pol win last vp vg vw vt vo gs ws ts os) : n ≠ m := holds_ne h.box h.out neP.1
theorem Pnr.below (h : Pnr W F S n m vr pol win last vp vg vw vt vo gs ws ts os) (hb : Below W.heap.size W W') : Pnr W' F S n m vr pol win last vp vg vw vt vo gs ws ts os :=
  ⟨h.box.below hb, h.out.below hb, h.und.below hb, h.own.below hb, h.low, h.away, fun k hk => Nat.lt_of_lt_of_le (h.big k hk) hb.size, h.freeG, h.freeW, h.freeO⟩
theorem sameP_set {W : World} {N i : Nat} {t : TypeId} {cur : Array Value} (h : Holds W N t cur) (ht : t ≠ 73 ∧ t ≠ 3 ∧ t ≠ 61) (v : Value) : SameP W (W.setCell ⟨N, i, none⟩ v) := SameP.setBox h ht i v
/-- A slice's row isn't a box of another type. -/
theorem Und.notBox {W : World} {N : Nat} {t : TypeId} {cur : Array Value} (h : Und W F vg vw vt vo gs ws ts os) (hb : Holds W N t cur) (h1 : t ≠ 3) (h2 : t ≠ 61) : rowB vg ≠ some N ∧ rowB vw ≠ some N ∧ rowB vt ≠ some N ∧ rowB vo ≠ some N := by
  refine ⟨fun e => ?_, fun e => ?_, fun e => ?_, fun e => ?_⟩
  · obtain ⟨_, _, c, k⟩ := h.goes.block e; unfold Holds at hb; rw [hb] at k; simp only [Option.some.injEq, Obj.cells.injEq] at k; exact h1 k.2.1
  · obtain ⟨_, _, c, k⟩ := h.waits.block e; unfold Holds at hb; rw [hb] at k; simp only [Option.some.injEq, Obj.cells.injEq] at k; exact h1 k.2.1
  · obtain ⟨_, _, c, k⟩ := h.told.block e; unfold Holds at hb; rw [hb] at k; simp only [Option.some.injEq, Obj.cells.injEq] at k; exact h2 k.2.1
  · obtain ⟨_, _, c, k⟩ := h.out.block e; unfold Holds at hb; rw [hb] at k; simp only [Option.some.injEq, Obj.cells.injEq] at k; exact h2 k.2.1
theorem PushedT.stays {v v' : Value} {us : List Tld} {t : Tld} (hp : PushedT W F v us t v' W') (ht : TO W F v us) (hf : ∀ b, rowB v = some b → Out S b) (hm : ∀ k, S k → k < W.heap.size) : Stays F S W W' :=
  ⟨hp.2.1, fun k h1 => hp.2.2.1 k (hm k h1) fun e => hf k e h1, others_row hp.2.2.1 hp.2.1.size fun b e => by obtain ⟨_, _, c, k⟩ := ht.block e; exact ⟨c, _, k⟩⟩
theorem PushedT.free {v v' : Value} {us : List Tld} {t : Tld} (hp : PushedT W F v us t v' W') (hf : ∀ b, rowB v = some b → Out S b) (hm : ∀ k, S k → k < W.heap.size) : ∀ b, rowB v' = some b → Out S b := fun b e => by
  rcases hp.2.2.2 with h | h
  · exact hf b (h ▸ e)
  · rw [h] at e; cases e; exact fun h => Nat.lt_irrefl _ (hm _ h)
theorem PushedI.stays {v v' : Value} {us : List Int} {z : Int} (hp : PushedI W F v us z v' W') (ht : ButO W F v us) (hf : ∀ b, rowB v = some b → Out S b) (hm : ∀ k, S k → k < W.heap.size) : Stays F S W W' :=
  ⟨hp.2.1, fun k h1 => hp.2.2.1 k (hm k h1) fun e => hf k e h1, others_row hp.2.2.1 hp.2.1.size fun b e => by obtain ⟨_, _, c, k⟩ := ht.block e; exact ⟨c, _, k⟩⟩
theorem PushedI.free {v v' : Value} {us : List Int} {z : Int} (hp : PushedI W F v us z v' W') (hf : ∀ b, rowB v = some b → Out S b) (hm : ∀ k, S k → k < W.heap.size) : ∀ b, rowB v' = some b → Out S b := fun b e => by
  rcases hp.2.2.2 with h | h
  · exact hf b (h ▸ e)
  · rw [h] at e; cases e; exact fun h => Nat.lt_irrefl _ (hm _ h)
theorem PushedI.holds {v v' : Value} {us : List Int} {z : Int} {k : Nat} {ty : TypeId} {cur : Array Value} (hp : PushedI W F v us z v' W') (h : Holds W k ty cur) (hk : rowB v ≠ some k) : Holds W' k ty cur := (hp.2.2.1 k (Array.getElem?_eq_some_iff.1 h).1 hk).trans h
/-- One more was told, and is kept in its box. -/
theorem Pnr.told {W1 : World} {t : Tld} {vo' : Value} (h : Pnr W F S n m vr pol win last vp vg vw vt vo gs ws ts os) (hb : Below W.heap.size W W1) (hp : PushedT W1 F vo os t vo' W') (ho : W'.ownsRow F 61 2 vo' (os ++ [t]).length (flatT (os ++ [t]))) : Pnr (W'.setCell ⟨m, 0, none⟩ vo') F S n m vr pol win last vp vg vw vt vo' gs ws ts (os ++ [t]) ∧ Stays F S W (W'.setCell ⟨m, 0, none⟩ vo') := by
  have h1 := h.below hb
  have nb := h1.und.notBox h1.box neP.2.1 neP.2.2.1
  have no := h1.und.notBox h1.out neP.2.2.2.1 neP.2.2.2.2.1
  have hx := hp.holds h1.out no.2.2.2
  have h2 : Own3 W' F vg vw vo' gs ws (os ++ [t]) := by
    obtain ⟨a, c, e⟩ := own_form ho
    refine ⟨own_stay h1.own.g fun b e => hp.2.2.1 b (World.ownsRow.lt h1.own.g b e).2 fun e2 => own_ne h1.own.g h1.own.o tne.2.2 b e (rowB_own e2), own_stay h1.own.w fun b e => hp.2.2.1 b (World.ownsRow.lt h1.own.w b e).2 fun e2 => own_ne h1.own.w h1.own.o tne.2.2 b e (rowB_own e2), ho, h1.own.ng, h1.own.nw, by rw [e]; exact nz_pos (by simp)⟩
  refine ⟨⟨holds_else (hp.holds h1.box nb.2.2.2) h.ne.symm 0 _, ?_, (h1.und.pushO hp).same (SameP.setBox hx ⟨neP.2.2.2.2.2.2, neP.2.2.2.1, neP.2.2.2.2.1⟩ 0 vo'), h2.same (SameP.setBox hx ⟨neP.2.2.2.2.2.2, neP.2.2.2.1, neP.2.2.2.2.1⟩ 0 vo'), h.low, h.away, ?_, h.freeG, h.freeW, hp.free h.freeO h1.big⟩, ?_⟩
  · exact hx.set 0 vo'
  · exact fun k hk => by have := h1.big k hk; have := hp.2.1.size; simp; omega
  · exact ((Stays.below hb (Nat.le_trans h.low.1 (Nat.le_of_lt h.box.lt)) h.big).trans (hp.stays h1.und.out h.freeO h1.big)).set h.low.2 h.away.2 vo'
end

/-- One more, onto a row of one's own from its beginning on. -/
theorem wp_pushOwn {w : World} {ops : Array Oper} {rest : List Oper} {o : Oper} {a : Act} {Q : Exit → Act → World → Prop} (hgd : o.guard = none) (s x : Operand)
    (ho : o.op = .call { callee := .builtin .append, args := #[s, x], argTypes := #[29, 29] })
    (F : Nat) (v : Value) (ts : List Tld) (hs : a.eval s = v) (hacc : w.ownsRow F 61 2 v ts.length (flatT ts)) (hz : NZ v)
    (ad : Addr) (c : Nat) (t : Tld) (hx : a.eval x = .slice (some ad) 1 c) (hc : ∀ j u, (cellsT t)[j]? = some u → w.cell? (ad.add j) = some u)
    (hn : ts.length ≤ 1099511627776) (hF : F ≤ w.heap.size)
    (h : ∀ v' w', PushedT w F v ts t v' w' → w'.ownsRow F 61 2 v' (ts ++ [t]).length (flatT (ts ++ [t])) → wpList Tryz.prog ops Q rest (a.put o.dst v') w') : wpList Tryz.prog ops Q (o :: rest) a w := by
  refine Cal.wp_acc_at hgd s x 29 ho F 61 _ 2 16 Tryz.underlying29 info_PlanTold rfl (by decide) v ts.length (flatT ts) hs (.inr hacc) ad 1 c (cellsT t) hx (by decide) rfl hc (fun u hu => by
    simp only [cellsT, List.mem_cons, List.not_mem_nil, or_false] at hu
    rcases hu with rfl | rfl <;> rfl) (by unfold maxLen; omega) (by omega) hF ?_
  intro v' w' hA hb hk hl
  have hown : w'.ownsRow F 61 2 v' (ts ++ [t]).length (flatT (ts ++ [t])) := by
    rcases hA with ⟨h0, _⟩ | h1
    · omega
    · rw [List.length_append, flatT_app]; simpa [flatT] using h1
  have e2 : rowB v' = v'.ownBlock := Dr.rowB_of_own (n := ts.length) (by rw [List.length_append] at hown; exact hown)
  refine h v' w' ⟨TO.of_own hown, hb, fun k hk1 hne => hk k hk1 fun e => hne (nz_row hacc hz e), ?_⟩ hown
  rw [e2]
  rcases hl with hl | hl
  · left
    rw [hl]
    cases e : v.ownBlock with
    | none =>
      cases e3 : rowB v with
      | none => rfl
      | some b => rw [rowB_own e3] at e; cases e
    | some b => exact (nz_row hacc hz e).symm
  · exact .inr hl

set_option maxHeartbeats 1000000 in
theorem tellP {W : World} {F n m : Nat} {S : Nat → Prop} {vr : Value} {pol win last : Int} {vp vg vw vt vo : Value} {gs ws : List Int} {ts os : List Tld} (h : Pnr W F S n m vr pol win last vp vg vw vt vo gs ws ts os) (ho : os.length ≤ 1048576) (tick what : Int) :
    Calls Tryz.prog 53 #[.int .i64 tick, .int .i64 what, .pointer (some ⟨m, 0, none⟩)] W fun e W' => e = .returned (.tuple #[]) ∧ ∃ vo', Pnr W' F S n m vr pol win last vp vg vw vt vo' gs ws ts (os ++ [⟨tick, what⟩]) ∧ Stays F S W W' := by
  have HP : Hid (Pnr W F S n m vr pol win last vp vg vw vt vo gs ws ts os) := h
  clear h
  obtain ⟨oa, oc, rfl⟩ := HP.out.und.out.form
  have c0 : W.cell? ⟨m, 0, none⟩ = some (.slice oa os.length oc) := by rw [HP.out.out.cell]; rfl
  have f0 : ∀ i, W.frozen? ⟨m, i, none⟩ = false := fun i => HP.out.out.frozen i
  have hml := HP.out.out.lt
  have hFl : F ≤ W.heap.size := Nat.le_trans HP.out.low.2 (Nat.le_of_lt hml)
  have HH : Hid (Holds (W.alloc (.cells #[.int .i64 tick, .int .i64 what] 61)) W.heap.size 61 #[.int .i64 tick, .int .i64 what]) := heap_alloc_new _ _
  have HA : Hid (Below W.heap.size W (W.alloc (.cells #[.int .i64 tick, .int .i64 what] 61))) := (Below.refl _ _).alloc (Nat.le_refl _) _
  go_enter Tryz.func53, Tryz.ntmps53
  go_wp2_with (at_builtin; refine wp_pushOwn rfl _ _ rfl F (.slice oa os.length oc) os rfl (HP.out.below HA.out).own.o HP.out.own.no ⟨W.heap.size, 0, none⟩ 1 ⟨tick, what⟩ rfl (cells_at HH.out) (by omega) (by simp; omega) ?_; intro v1 w1 hp1 ho1; have HP1 : Hid _ := hp1; have HO1 : Hid _ := ho1; clear ho1; have g0 : ∀ i, w1.frozen? ⟨m, i, none⟩ = false := (fun i => (hp1.holds (HP.out.below HA.out).out ((HP.out.below HA.out).und.notBox (HP.out.below HA.out).out neP.2.2.2.1 neP.2.2.2.2.1).2.2.2).frozen i); have g1 : w1.cell? ⟨m, 0, none⟩ = some (.slice oa os.length oc) := (by rw [(hp1.holds (HP.out.below HA.out).out ((HP.out.below HA.out).und.notBox (HP.out.below HA.out).out neP.2.2.2.1 neP.2.2.2.2.1).2.2.2).cell]; rfl); obtain ⟨a1, c1, rfl⟩ := hp1.form; clear hp1)
  have hfin := HP.out.told HA.out HP1.out HO1.out
  go_end0
  exact ⟨rfl, _, hfin.1, hfin.2⟩
end Pl
end Go.Proofs.YtghocdiddolinaaGreatDoor
