/- What an iterator does that holds a Builder and goes through a text: nothing else turns; and what a round keeps for it. -/
import Derived.Test.YtkemfifkjaclhaaGreatDoorProg
import Derived.RangeFuncNested
import Derived.RangeFuncBound
import Derived.RangeFuncCalls
import Derived.RangeFuncLeaves
import Derived.WalkKit
import Derived.OwnWalkIn
import Derived.TacticsInMore
import Derived.LoopNIn
import Derived.LoopIn
import Derived.Lib.OthersKept
import Derived.Lib.RuneBytes
namespace Go.Proofs.YtkemfifkjaclhaaGreatDoor
set_option linter.unusedVariables false
set_option linter.unusedSimpArgs false
open Go.RowKit Go

variable {F : Fence} {n : Nat} {P : Program}

/-- What an iterator promises that hands over XS, one behind the other: its own steps are Did's; a round that goes on keeps what Kp says. -/
def Iters {α : Type} (F : Fence) (n : Nat) (P : Program) (g : Nat) (lb : Array Value) (encs : α → Array Value) (Did Kp : World → World → Prop) (XS : List α) (St : World → Prop) : Prop :=
  ∀ (l : Nat) (J Jx : List α → World → Prop) (W : World), St W → (∀ s X Y, J s X → Did X Y → J s Y) → (∀ s X Y, Jx s X → Did X Y → Jx s Y) →
    (∀ pre x W1, J pre W1 → pre ++ [x] <+: XS → YieldAt F (n - 1) P l (encs x) W1 fun e W' =>
      (e = .returned (.bool true) ∧ J (pre ++ [x]) W' ∧ Kp W1 W') ∨ (e = .returned (.bool false) ∧ Jx (pre ++ [x]) W')) →
    J [] W → CallsIn F n P g (#[.func (.yield l) #[] #[]] ++ lb) W fun e W' => (∃ v, e = .returned v) ∧ (J XS W' ∨ ∃ pre, Jx pre W')

/-- How the body of a round may be left. -/
def LeftBy {α : Type} (B : Nat) (Kp : World → World → Prop) (I : List α → World → Prop) (Ix : Code → World → Prop) (xs : List α) (W : World) : Exit → Act → World → Prop
  | .normal, _, W' => KeepsFrom B W W' ∧ Kp W W' ∧ I xs W'
  | .ret, _, W' => KeepsFrom B W W' ∧ Ix .ret W'
  | .exit id, _, W' => KeepsFrom B W W' ∧ Ix (.exit id) W'
  | .goto t, _, W' => KeepsFrom B W W' ∧ Ix (.goto t) W'
  | .panic _, _, _ => False
  | .outgrown, _, _ => False

/-- Where the loop's record (block B + 1) and the block of deferred calls (B) stand. -/
def Books (B : Nat) (r : Loop) (W : World) : Prop := W.heap[B + 1]? = some (.loop r) ∧ W.heap[B]? = some (.deferred (some []))
theorem Books.put {B : Nat} {r r' : Loop} {W : World} (h : Books B r W) : Books B r' (W.putObj (B + 1) (.loop r')) :=
  ⟨World.putObj_heap_same (Array.getElem?_eq_some_iff.1 h.1).1, (World.putObj_heap_other (by omega)).trans h.2⟩
theorem Books.from {B : Nat} {r : Loop} {W W' : World} (h : Books B r W) (k : KeepsFrom B W W') : Books B r W' :=
  ⟨k.same _ _ (by omega) h.1 rfl, k.same _ _ (Nat.le_refl _) h.2 rfl⟩

theorem range_own {α : Type} {g : Operand} {ps : Array Tmp} {assign body : Code} {Q : Exit → Act → World → Prop} {a : Act} {w : World}
    (hro : F.round = none) (h1 : 1 ≤ n) {gf : Nat} {lb : Array Value} (hg : a.eval g = .func (.func gf) #[] lb) (hFg : F.fn gf) (eg : ∀ args w, (callFunc gf args).run P w = .ok (.enter gf args) w)
    {encs : α → Array Value} {Did Kp : World → World → Prop} {XS : List α} {St : World → Prop} (hseq : Iters F (n - 1) P gf lb encs Did Kp XS St)
    (hst : ∀ W, Below w.heap.size w W → St W)
    (hKt : ∀ {A B C : World}, Kp A B → Kp B C → Kp A C) (hKb : ∀ (W : World) (l : Nat) (r r' : Loop), w.heap.size ≤ l → W.heap[l]? = some (.loop r) → Kp W (W.putObj l (.loop r')))
    (hDk : ∀ (A B : World), Did A B → ∀ (k : Nat) (o : Obj), A.heap[k]? = some o → o.isCells = false → o.isWalk = false → B.heap[k]? = some o)
    (hps : ∀ x, (encs x).size = ps.size)
    (I : List α → World → Prop) (Ix : Code → World → Prop) (hI : OwnFrom w.heap.size I) (hIx : ∀ c, OwnFrom w.heap.size (fun (_ : Unit) W => Ix c W))
    (hId : ∀ s X Y, w.heap.size ≤ X.heap.size → I s X → Did X Y → I s Y) (hIxd : ∀ c X Y, w.heap.size ≤ X.heap.size → Ix c X → Did X Y → Ix c Y)
    (h0 : I [] w) (a₁ : α → Act)
    (hassign : ∀ (l : Nat) (x : α) (W : World) (K : Act → World → Prop), K (a₁ x) W →
      assign.wpIn (F.inRound l) (n - 1 - 1) P (Exit.then K (fun _ _ _ => False)) { tmps := (ps.zip (encs x)).foldl (fun t (p, v) => t.setIfInBounds p v) a.tmps, defers := [] } W)
    (hbody : ∀ (l : Nat) (pre : List α) (x : α) (W : World), w.heap.size ≤ l → I pre W → pre ++ [x] <+: XS → body.wpIn (F.inRound l) (n - 1 - 1) P (LeftBy w.heap.size Kp I Ix (pre ++ [x]) W) (a₁ x) W)
    (hdone : ∀ (D : Nat) (W : World), w.heap.size ≤ D → I XS W → W.heap[D]? = some (.deferred (some [])) → Q .normal { a with defers := { target := .collected D, args := #[] } :: a.defers } W)
    (hstop : ∀ (D : Nat) (c : Code) (W : World), w.heap.size ≤ D → Ix c W → W.heap[D]? = some (.deferred (some [])) → c.wpIn F n P Q { a with defers := { target := .collected D, args := #[] } :: a.defers } W) :
    (Code.rangeFunc g ps assign body).wpIn F n P Q a w := by
  refine wpIn_rangeFunc fun fn hfn => ?_
  rw [hro]
  obtain ⟨rc, hrc⟩ : ∃ rc : LoopState → Option Code → Loop, rc = fun st pe => { state := st, pending := pe, fn, tmps := a.tmps, params := ps, assign, body, defers := w.heap.size } := ⟨_, rfl⟩
  have hnew : Books w.heap.size (rc .ready none) ((w.alloc (.deferred (some []))).alloc (.loop (rc .ready none))) :=
    ⟨by have := World.alloc_heap_new (w.alloc (.deferred (some []))) (.loop (rc .ready none)); rwa [World.size_alloc] at this, (Below.heap_alloc _ _ _ (by simp)).trans (World.alloc_heap_new w _)⟩
  have hI1 : I [] ((w.alloc (.deferred (some []))).alloc (.loop (rc .ready none))) := hI.alloc _ (hI.alloc _ h0)
  have hb1 : Below w.heap.size w ((w.alloc (.deferred (some []))).alloc (.loop (rc .ready none))) := ((Below.refl _ w).alloc (Nat.le_refl _) _).alloc (by simp) _
  have hen := run_enterLoop_outer (P := P) (w := w) fn a.tmps ps assign body
  rw [show ({ state := .ready, pending := none, fn, tmps := a.tmps, params := ps, assign, body, defers := w.heap.size } : Loop) = rc .ready none by rw [hrc]] at hen
  generalize (w.alloc (.deferred (some []))).alloc (.loop (rc .ready none)) = W1 at hnew hI1 hb1 hen
  refine ⟨w.heap.size + 1, [{ target := .collected w.heap.size, args := #[] }], W1, { target := .fn (.func gf) lb, args := #[.func (.yield (w.heap.size + 1)) #[] #[]] }, W1, gf,
    #[.func (.yield (w.heap.size + 1)) #[] #[]] ++ lb, W1, hen, ?_, ?_, ?_, fun _ => h1, ?_⟩
  · simp only [resolve, hg]
    simp [go_sem]
  · intro f' hf'; simp [Target.leads] at hf'; subst hf'; exact hFg
  · simp [invoke, go_sem, eg]
  have hdid : ∀ {r : Loop} {X Y : World}, Books w.heap.size r X → Did X Y → Books w.heap.size r Y := fun hb hd => ⟨hDk _ _ hd _ _ hb.1 rfl rfl, hDk _ _ hd _ _ hb.2 rfl rfl⟩
  have hsz : ∀ {r : Loop} {X : World}, Books w.heap.size r X → w.heap.size ≤ X.heap.size := fun hb => by have := (Array.getElem?_eq_some_iff.1 hb.2).1; omega
  refine (hseq (w.heap.size + 1) (fun pre W => I pre W ∧ Books w.heap.size (rc .ready none) W) (fun _ W => ∃ c, Ix c W ∧ Books w.heap.size (rc .done (some c)) W) W1 (hst _ hb1)
    (fun s X Y h hd => ⟨hId s X Y (hsz h.2) h.1 hd, hdid h.2 hd⟩) (fun s X Y ⟨c, h, hb⟩ hd => ⟨c, hIxd c X Y (hsz hb) h hd, hdid hb hd⟩) ?_ ⟨hI1, hnew⟩).mono ?_
  · rintro pre x W ⟨hi, hbk⟩ hpre
    have hy := run_yield (P := P) (args := encs x) hbk.1 (by rw [hrc]; exact hps x)
    rw [hrc] at hy
    refine ⟨fn, _, assign, body, hy, roundIn_of_wpIn hfn (hassign _ x W _ ⟨_, run_beginRound hbk.1 (by rw [hrc]), ?_⟩)⟩
    clear hy
    have hbk2 : Books w.heap.size { rc .ready none with state := .busy } (W.putObj (w.heap.size + 1) (.loop { rc .ready none with state := .busy })) := hbk.put
    have hk2 := hKb W (w.heap.size + 1) (rc .ready none) { rc .ready none with state := .busy } (Nat.le_succ _) hbk.1
    have hi2 := hI.putObj (.loop { rc .ready none with state := .busy }) hi (Nat.le_succ _) hbk.1 rfl
    generalize W.putObj (w.heap.size + 1) (.loop { rc .ready none with state := .busy }) = W2 at hbk2 hk2 hi2
    have fin : ∀ (jump : Option Code) (W3 : World), KeepsFrom w.heap.size W2 W3 → ∃ r3 : Loop, W3.heap[w.heap.size + 1]? = some (.loop r3) ∧
        (Instr.endRound (w.heap.size + 1) jump).run P W3 = .ok (.bool jump.isNone) (W3.putObj (w.heap.size + 1) (.loop (rc (if jump.isNone then .ready else .done) jump))) ∧
        Books w.heap.size (rc (if jump.isNone then .ready else .done) jump) (W3.putObj (w.heap.size + 1) (.loop (rc (if jump.isNone then .ready else .done) jump))) := fun jump W3 hk => by
      have hb3 := hbk2.from hk
      have hr := run_endRound (P := P) jump hb3.1
      exact ⟨_, hb3.1, by rw [hrc] at hr ⊢; exact hr, hb3.put⟩
    refine wpIn_mono (hbody _ pre x W2 (Nat.le_succ _) hi2 hpre) ?_
    rintro e a3 W3 hp
    cases e with
    | normal =>
      obtain ⟨hk3, hkp3, hi3⟩ := hp
      obtain ⟨r3, hl3, hr, hb4⟩ := fin none W3 hk3
      exact ⟨_, _, hr, .inl ⟨rfl, ⟨hI.putObj _ hi3 (Nat.le_succ _) hl3 rfl, hb4⟩, hKt (hKt hk2 hkp3) (hKb _ _ _ _ (Nat.le_succ _) hl3)⟩⟩
    | ret =>
      obtain ⟨hk3, hi3⟩ := hp
      obtain ⟨r3, hl3, hr, hb4⟩ := fin (some .ret) W3 hk3
      exact ⟨_, _, hr, .inr ⟨rfl, .ret, (hIx _).putObj (s := ()) _ hi3 (Nat.le_succ _) hl3 rfl, hb4⟩⟩
    | exit id =>
      obtain ⟨hk3, hi3⟩ := hp
      obtain ⟨r3, hl3, hr, hb4⟩ := fin (some (.exit id)) W3 hk3
      exact ⟨_, _, hr, .inr ⟨rfl, .exit id, (hIx _).putObj (s := ()) _ hi3 (Nat.le_succ _) hl3 rfl, hb4⟩⟩
    | goto t =>
      obtain ⟨hk3, hi3⟩ := hp
      obtain ⟨r3, hl3, hr, hb4⟩ := fin (some (.goto t)) W3 hk3
      exact ⟨_, _, hr, .inr ⟨rfl, .goto t, (hIx _).putObj (s := ()) _ hi3 (Nat.le_succ _) hl3 rfl, hb4⟩⟩
    | panic ch => exact hp.elim
    | outgrown => exact hp.elim
  · rintro e W2 ⟨⟨v, rfl⟩, (⟨hi, hb⟩ | ⟨_, c, hi, hb⟩)⟩
    · exact ⟨none, _, by have := run_endLoop (P := P) hb.1 (by rw [hrc]; simp); rw [hrc] at this; exact this, hdone _ _ (Nat.le_refl _) (hI.putObj _ hi (Nat.le_succ _) hb.1 rfl) ((World.putObj_heap_other (by omega)).trans hb.2)⟩
    · exact ⟨some c, _, by have := run_endLoop (P := P) hb.1 (by rw [hrc]; simp); rw [hrc] at this; exact this, hstop _ c _ (Nat.le_refl _) ((hIx c).putObj (s := ()) _ hi (Nat.le_succ _) hb.1 rfl) ((World.putObj_heap_other (by omega)).trans hb.2)⟩
end Go.Proofs.YtkemfifkjaclhaaGreatDoor

namespace Go.Proofs.YtkemfifkjaclhaaGreatDoor
set_option linter.unusedVariables false
set_option linter.unusedSimpArgs false
open Go.RowKit Go

/-- What is the iterator's own: ways through texts and maps, Builders, rows of bytes. -/
def Mine (o : Obj) : Prop := o.isWalk = true ∨ (∃ c fz, o = .cells c 86 fz) ∨ ∃ c fz, o = .cells c 5 fz
/-- What the iterator did: below B nothing turned, and above it only its own. -/
structure Did (B : Nat) (X Y : World) : Prop where
  os : Y.os = X.os
  tape : Y.tape = X.tape
  output : Y.output = X.output
  size : X.heap.size ≤ Y.heap.size
  low : ∀ k : Nat, k < B → Y.heap[k]? = X.heap[k]?
  same : ∀ (k : Nat) (o : Obj), X.heap[k]? = some o → ¬ Mine o → Y.heap[k]? = some o
/-- What a round kept: all that is the iterator's own. -/
structure Kept (X Y : World) : Prop where
  size : X.heap.size ≤ Y.heap.size
  same : ∀ (k : Nat) (o : Obj), X.heap[k]? = some o → Mine o → Y.heap[k]? = some o

theorem Did.trans {B : Nat} {X Y Z : World} (h : Did B X Y) (k : Did B Y Z) : Did B X Z :=
  ⟨k.os.trans h.os, k.tape.trans h.tape, k.output.trans h.output, Nat.le_trans h.size k.size, fun i hi => (k.low i hi).trans (h.low i hi), fun i o hi ho => k.same i o (h.same i o hi ho) ho⟩
theorem Did.below {B : Nat} {X Y : World} (h : Did B X Y) : Below B X Y := ⟨h.os, h.tape, h.output, h.size, h.low⟩
theorem Did.alloc {B : Nat} (X : World) (o : Obj) (hB : B ≤ X.heap.size) : Did B X (X.alloc o) := by
  have hb : Below X.heap.size X (X.alloc o) := (Below.refl _ X).alloc (Nat.le_refl _) o
  exact ⟨hb.os, hb.tape, hb.output, hb.size, fun k hk => hb.block k (by omega), fun k x hk _ => (hb.block k (Array.getElem?_eq_some_iff.1 hk).1).trans hk⟩
theorem Did.iter {B : Nat} (X : World) (k : Nat) (s : ByteArray) (p q : Nat) (hk : X.heap[k]? = some (.stringIter s p)) (hB : B ≤ k) : Did B X (X.iterAt k s q) := by
  refine ⟨rfl, rfl, rfl, by rw [Lib.iterAt_size]; exact Nat.le_refl _, fun i hi => Lib.iterAt_other X k i s q (by omega), fun i o hi ho => ?_⟩
  rw [Lib.iterAt_other X k i s q ?_]; · exact hi
  rintro rfl
  rw [hk] at hi; cases hi
  exact ho (.inl rfl)
theorem Did.wrote {B N : Nat} {X Y : World} (hN : B ≤ N) (hb : Below N X Y) (hk : Lib.OthersKept 5 (some N) X Y) (hm : ∃ c fz, X.heap[N]? = some (.cells c 86 fz)) : Did B X Y := by
  refine ⟨hb.os, hb.tape, hb.output, hb.size, fun k hkB => hb.block k (by omega), fun k o hko ho => hk k o hko ?_ ?_⟩
  · intro e
    cases e
    obtain ⟨c, fz, hc⟩ := hm
    rw [hko] at hc; cases hc
    exact ho (.inr (.inl ⟨_, _, rfl⟩))
  · rintro c fz rfl
    exact ho (.inr (.inr ⟨_, _, rfl⟩))
theorem Did.set {B N : Nat} (X : World) (i : Nat) (v : Value) (hN : B ≤ N) (hm : ∃ c fz, X.heap[N]? = some (.cells c 86 fz)) : Did B X (X.setCell ⟨N, i, none⟩ v) := by
  have hb : Below N X (X.setCell ⟨N, i, none⟩ v) := (Below.refl _ X).setCell (p := ⟨N, i, none⟩) (Nat.le_refl _) v
  refine ⟨hb.os, hb.tape, hb.output, hb.size, fun k hk => hb.block k (by omega), fun k o hko ho => ?_⟩
  rw [Below.heap_setCell X ⟨N, i, none⟩ v k ?_]; · exact hko
  rintro rfl
  obtain ⟨c, fz, hc⟩ := hm
  rw [hko] at hc; cases hc
  exact ho (.inr (.inl ⟨_, _, rfl⟩))
theorem Kept.trans {X Y Z : World} (h : Kept X Y) (k : Kept Y Z) : Kept X Z := ⟨Nat.le_trans h.size k.size, fun i o hi ho => k.same i o (h.same i o hi ho) ho⟩
theorem Kept.below {X Y : World} (h : Below X.heap.size X Y) : Kept X Y := ⟨h.size, fun k o hk _ => (h.block k (Array.getElem?_eq_some_iff.1 hk).1).trans hk⟩
theorem Kept.put (W : World) (l : Nat) (r r' : Loop) (h : W.heap[l]? = some (.loop r)) : Kept W (W.putObj l (.loop r')) := by
  refine ⟨by simp [World.putObj], fun k o hk ho => ?_⟩
  rw [World.putObj_heap_other ?_]; · exact hk
  rintro rfl
  rw [h] at hk; cases hk
  rcases ho with ho | ⟨_, _, ho⟩ | ⟨_, _, ho⟩ <;> cases ho
theorem Did.keeps {B : Nat} (X Y : World) (h : Did B X Y) (k : Nat) (o : Obj) (hk : X.heap[k]? = some o) (h1 : o.isCells = false) (h2 : o.isWalk = false) : Y.heap[k]? = some o := by
  refine h.same k o hk ?_
  rintro (ho | ⟨_, _, rfl⟩ | ⟨_, _, rfl⟩)
  · rw [h2] at ho; cases ho
  · cases h1
  · cases h1

abbrev BF (N : Nat) (bs : List Value) (W : World) : Prop := Lib.IsBuilderF 86 5 N N bs W
theorem BF.kind {N : Nat} {bs : List Value} {W : World} (h : BF N bs W) : ∃ c fz, W.heap[N]? = some (.cells c 86 fz) := by
  rcases h with ⟨_, v, hb, _⟩ | ⟨_, v, hb, _⟩ <;> exact ⟨_, _, hb⟩
theorem BF.kept {N : Nat} {bs : List Value} {W W' : World} (h : BF N bs W) (hk : Kept W W') : BF N bs W' := by
  have one : ∀ p, Lib.BuilderAtF 86 5 N N p bs W → Lib.BuilderAtF 86 5 N N p bs W' := by
    rintro p ⟨hB, v, hb, hown, hne⟩
    refine ⟨hB, v, hk.same _ _ hb (.inr (.inl ⟨_, _, rfl⟩)), ⟨hown.1, ?_⟩, hne⟩
    rcases hown.2 with hn | ⟨g, cap, cur, fz, hv, hbg, hg, rest⟩
    · exact .inl hn
    · exact .inr ⟨g, cap, cur, fz, hv, hbg, hk.same _ _ hg (.inr (.inr ⟨_, _, rfl⟩)), rest⟩
  exact h.imp (one _) (one _)
theorem BF.reset {N : Nat} {bs : List Value} {W : World} (h : BF N bs W) : BF N [] ((W.setCell ⟨N, 0, none⟩ (.pointer none)).setCell ⟨N, 1, none⟩ (.slice none 0 0)) := by
  have : ∃ p v, W.heap[N]? = some (.cells #[p, v] 86 (0, 0)) := by
    rcases h with ⟨_, v, hb, _⟩ | ⟨_, v, hb, _⟩ <;> exact ⟨_, _, hb⟩
  obtain ⟨p, v, hb⟩ := this
  refine .inl ⟨Nat.le_refl _, .slice none 0 0, ?_, World.ownsRowF_nil _ _ _ _, by simp [Value.ownBlock]⟩
  simp [World.setCell, Array.getElem?_modify, hb]
theorem BF.cells {N : Nat} {bs : List Value} {W : World} (h : BF N bs W) : ∃ p v, W.cell? ⟨N, 0, none⟩ = some p ∧ W.cell? ⟨N, 1, none⟩ = some v ∧ W.frozen? ⟨N, 0, none⟩ = false ∧ W.frozen? ⟨N, 1, none⟩ = false := by
  have : ∃ p v, W.heap[N]? = some (.cells #[p, v] 86 (0, 0)) := by
    rcases h with ⟨_, v, hb, _⟩ | ⟨_, v, hb, _⟩ <;> exact ⟨_, _, hb⟩
  obtain ⟨p, v, hb⟩ := this
  exact ⟨p, v, by simp [World.cell?, hb], by simp [World.cell?, hb], by simp [World.frozen?, hb], by simp [World.frozen?, hb]⟩

/-- The lines of a text, from a place on, acc of the line being there. -/
def linesFrom (s : ByteArray) : Nat → Nat → List UInt8 → List ByteArray
  | 0, _, _ => []
  | f + 1, pos, acc => if pos < s.size then
      (if (Utf8.decode s pos).1 = 10 then ⟨acc.toArray⟩ :: linesFrom s f (pos + (Utf8.decode s pos).2) [] else linesFrom s f (pos + (Utf8.decode s pos).2) (acc ++ Lib.encodeRune (Utf8.decode s pos).1))
    else []
def linesOf (s : ByteArray) : List ByteArray := linesFrom s s.size 0 []
theorem linesFrom_end (s : ByteArray) (f pos : Nat) (acc : List UInt8) (h : ¬ pos < s.size) : linesFrom s f pos acc = [] := by
  cases f with
  | zero => rfl
  | succ f => simp [linesFrom, h]
theorem width_pos (s : ByteArray) (pos : Nat) (h : pos < s.size) : 1 ≤ (Utf8.decode s pos).2 := by
  by_cases ha : (s[pos]'h).toNat < 128
  · rw [decode_ascii s pos h ha]; exact Nat.le_refl _
  · exact (decode_high s pos h (by omega)).2
end Go.Proofs.YtkemfifkjaclhaaGreatDoor
