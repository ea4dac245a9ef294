/- The program's iterator over the lines of a text: it hands over its lines, one behind the other. -/
import Derived.Test.YtbngjpnbjknliaaGreatDoorProg
import Derived.RangeFuncNested
import Derived.RangeFuncBound
import Derived.RangeFuncCalls
import Derived.RangeFuncLeaves
import Derived.WalkKit
import Derived.OwnWalkIn
import Derived.TacticsInMore
import Derived.LoopNIn
import Derived.LoopIn
import Derived.Lib.OthersKept
import Derived.Lib.RuneBytes
import Derived.Shelf.Strings.OnBuilder
import Derived.Shelf.Strings.BuilderK
import Derived.Shelf.Strings.BuilderRune
namespace Go.Proofs.YtbngjpnbjknliaaGreatDoor
set_option linter.unusedVariables false
set_option linter.unusedSimpArgs false
open Go.RowKit Go

variable {F : Fence} {n : Nat} {P : Program}

/-- What an iterator promises that hands over XS, one behind the other: its own steps are Did's; a round that goes on keeps what Kp says. -/
def Iters {α : Type} (F : Fence) (n : Nat) (P : Program) (g : Nat) (lb : Array Value) (encs : α → Array Value) (Did Kp : World → World → Prop) (XS : List α) (St : World → Prop) : Prop :=
  ∀ (l : Nat) (J Jx : List α → World → Prop) (W : World), St W → (∀ s X Y, J s X → Did X Y → J s Y) → (∀ s X Y, Jx s X → Did X Y → Jx s Y) →
    (∀ pre x W1, J pre W1 → pre ++ [x] <+: XS → YieldAt F (n - 1) P l (encs x) W1 fun e W' =>
      (e = .returned (.bool true) ∧ J (pre ++ [x]) W' ∧ Kp W1 W') ∨ (e = .returned (.bool false) ∧ Jx (pre ++ [x]) W')) →
    J [] W → CallsIn F n P g (#[.func (.yield l) #[] #[]] ++ lb) W fun e W' => (∃ v, e = .returned v) ∧ (J XS W' ∨ ∃ pre, Jx pre W')

/-- How the body of a round may be left. -/
def LeftBy {α : Type} (B : Nat) (Kp : World → World → Prop) (I : List α → World → Prop) (Ix : Code → World → Prop) (xs : List α) (W : World) : Exit → Act → World → Prop
  | .normal, _, W' => KeepsFrom B W W' ∧ Kp W W' ∧ I xs W'
  | .ret, _, W' => KeepsFrom B W W' ∧ Ix .ret W'
  | .exit id, _, W' => KeepsFrom B W W' ∧ Ix (.exit id) W'
  | .goto t, _, W' => KeepsFrom B W W' ∧ Ix (.goto t) W'
  | .panic _, _, _ => False
  | .outgrown, _, _ => False

/-- Where the loop's record (block B + 1) and the block of deferred calls (B) stand. -/
def Books (B : Nat) (r : Loop) (W : World) : Prop := W.heap[B + 1]? = some (.loop r) ∧ W.heap[B]? = some (.deferred (some []))
theorem Books.put {B : Nat} {r r' : Loop} {W : World} (h : Books B r W) : Books B r' (W.putObj (B + 1) (.loop r')) :=
  ⟨World.putObj_heap_same (Array.getElem?_eq_some_iff.1 h.1).1, (World.putObj_heap_other (by omega)).trans h.2⟩
theorem Books.from {B : Nat} {r : Loop} {W W' : World} (h : Books B r W) (k : KeepsFrom B W W') : Books B r W' :=
  ⟨k.same _ _ (by omega) h.1 rfl, k.same _ _ (Nat.le_refl _) h.2 rfl⟩

theorem range_own {α : Type} {g : Operand} {ps : Array Tmp} {assign body : Code} {Q : Exit → Act → World → Prop} {a : Act} {w : World}
    (hro : F.round = none) (h1 : 1 ≤ n) {gf : Nat} {lb : Array Value} (hg : a.eval g = .func (.func gf) #[] lb) (hFg : F.fn gf) (eg : ∀ args w, (callFunc gf args).run P w = .ok (.enter gf args) w)
    {encs : α → Array Value} {Did Kp : World → World → Prop} {XS : List α} {St : World → Prop} (hseq : Iters F (n - 1) P gf lb encs Did Kp XS St)
    (hst : ∀ W, Below w.heap.size w W → St W)
    (hKt : ∀ {A B C : World}, Kp A B → Kp B C → Kp A C) (hKb : ∀ (W : World) (l : Nat) (r r' : Loop), W.heap[l]? = some (.loop r) → Kp W (W.putObj l (.loop r')))
    (hDk : ∀ (A B : World), Did A B → ∀ (k : Nat) (o : Obj), A.heap[k]? = some o → o.isCells = false → o.isWalk = false → B.heap[k]? = some o)
    (hps : ∀ x, (encs x).size = ps.size)
    (I : List α → World → Prop) (Ix : Code → World → Prop) (hI : OwnFrom w.heap.size I) (hIx : ∀ c, OwnFrom w.heap.size (fun (_ : Unit) W => Ix c W))
    (hId : ∀ s X Y, w.heap.size ≤ X.heap.size → I s X → Did X Y → I s Y) (hIxd : ∀ c X Y, w.heap.size ≤ X.heap.size → Ix c X → Did X Y → Ix c Y)
    (h0 : I [] w) (a₁ : α → Act)
    (hassign : ∀ (l : Nat) (x : α) (W : World) (K : Act → World → Prop), K (a₁ x) W →
      assign.wpIn (F.inRound l) (n - 1 - 1) P (Exit.then K (fun _ _ _ => False)) { tmps := (ps.zip (encs x)).foldl (fun t (p, v) => t.setIfInBounds p v) a.tmps, defers := [] } W)
    (hbody : ∀ (l : Nat) (pre : List α) (x : α) (W : World), w.heap.size ≤ l → I pre W → pre ++ [x] <+: XS → body.wpIn (F.inRound l) (n - 1 - 1) P (LeftBy w.heap.size Kp I Ix (pre ++ [x]) W) (a₁ x) W)
    (hdone : ∀ (D : Nat) (W : World), w.heap.size ≤ D → I XS W → W.heap[D]? = some (.deferred (some [])) → Q .normal { a with defers := { target := .collected D, args := #[] } :: a.defers } W)
    (hstop : ∀ (D : Nat) (c : Code) (W : World), w.heap.size ≤ D → Ix c W → W.heap[D]? = some (.deferred (some [])) → c.wpIn F n P Q { a with defers := { target := .collected D, args := #[] } :: a.defers } W) :
    (Code.rangeFunc g ps assign body).wpIn F n P Q a w := by
  refine wpIn_rangeFunc fun fn hfn => ?_
  rw [hro]
  obtain ⟨rc, hrc⟩ : ∃ rc : LoopState → Option Code → Loop, rc = fun st pe => { state := st, pending := pe, fn, tmps := a.tmps, params := ps, assign, body, defers := w.heap.size } := ⟨_, rfl⟩
  have hnew : Books w.heap.size (rc .ready none) ((w.alloc (.deferred (some []))).alloc (.loop (rc .ready none))) :=
    ⟨by have := World.alloc_heap_new (w.alloc (.deferred (some []))) (.loop (rc .ready none)); rwa [World.size_alloc] at this, (Below.heap_alloc _ _ _ (by simp)).trans (World.alloc_heap_new w _)⟩
  have hI1 : I [] ((w.alloc (.deferred (some []))).alloc (.loop (rc .ready none))) := hI.alloc _ (hI.alloc _ h0)
  have hb1 : Below w.heap.size w ((w.alloc (.deferred (some []))).alloc (.loop (rc .ready none))) := ((Below.refl _ w).alloc (Nat.le_refl _) _).alloc (by simp) _
  have hen := run_enterLoop_outer (P := P) (w := w) fn a.tmps ps assign body
  rw [show ({ state := .ready, pending := none, fn, tmps := a.tmps, params := ps, assign, body, defers := w.heap.size } : Loop) = rc .ready none by rw [hrc]] at hen
  generalize (w.alloc (.deferred (some []))).alloc (.loop (rc .ready none)) = W1 at hnew hI1 hb1 hen
  refine ⟨w.heap.size + 1, [{ target := .collected w.heap.size, args := #[] }], W1, { target := .fn (.func gf) lb, args := #[.func (.yield (w.heap.size + 1)) #[] #[]] }, W1, gf,
    #[.func (.yield (w.heap.size + 1)) #[] #[]] ++ lb, W1, hen, ?_, ?_, ?_, fun _ => h1, ?_⟩
  · simp only [resolve, hg]
    simp [go_sem]
  · intro f' hf'; simp [Target.leads] at hf'; subst hf'; exact hFg
  · simp [invoke, go_sem, eg]
  have hdid : ∀ {r : Loop} {X Y : World}, Books w.heap.size r X → Did X Y → Books w.heap.size r Y := fun hb hd => ⟨hDk _ _ hd _ _ hb.1 rfl rfl, hDk _ _ hd _ _ hb.2 rfl rfl⟩
  have hsz : ∀ {r : Loop} {X : World}, Books w.heap.size r X → w.heap.size ≤ X.heap.size := fun hb => by have := (Array.getElem?_eq_some_iff.1 hb.2).1; omega
  refine (hseq (w.heap.size + 1) (fun pre W => I pre W ∧ Books w.heap.size (rc .ready none) W) (fun _ W => ∃ c, Ix c W ∧ Books w.heap.size (rc .done (some c)) W) W1 (hst _ hb1)
    (fun s X Y h hd => ⟨hId s X Y (hsz h.2) h.1 hd, hdid h.2 hd⟩) (fun s X Y ⟨c, h, hb⟩ hd => ⟨c, hIxd c X Y (hsz hb) h hd, hdid hb hd⟩) ?_ ⟨hI1, hnew⟩).mono ?_
  · rintro pre x W ⟨hi, hbk⟩ hpre
    have hy := run_yield (P := P) (args := encs x) hbk.1 (by rw [hrc]; exact hps x)
    rw [hrc] at hy
    refine ⟨fn, _, assign, body, hy, roundIn_of_wpIn hfn (hassign _ x W _ ⟨_, run_beginRound hbk.1 (by rw [hrc]), ?_⟩)⟩
    clear hy
    have hbk2 : Books w.heap.size { rc .ready none with state := .busy } (W.putObj (w.heap.size + 1) (.loop { rc .ready none with state := .busy })) := hbk.put
    have hk2 := hKb W (w.heap.size + 1) (rc .ready none) { rc .ready none with state := .busy } hbk.1
    have hi2 := hI.putObj (.loop { rc .ready none with state := .busy }) hi (Nat.le_succ _) hbk.1 rfl
    generalize W.putObj (w.heap.size + 1) (.loop { rc .ready none with state := .busy }) = W2 at hbk2 hk2 hi2
    have fin : ∀ (jump : Option Code) (W3 : World), KeepsFrom w.heap.size W2 W3 → ∃ r3 : Loop, W3.heap[w.heap.size + 1]? = some (.loop r3) ∧
        (Instr.endRound (w.heap.size + 1) jump).run P W3 = .ok (.bool jump.isNone) (W3.putObj (w.heap.size + 1) (.loop (rc (if jump.isNone then .ready else .done) jump))) ∧
        Books w.heap.size (rc (if jump.isNone then .ready else .done) jump) (W3.putObj (w.heap.size + 1) (.loop (rc (if jump.isNone then .ready else .done) jump))) := fun jump W3 hk => by
      have hb3 := hbk2.from hk
      have hr := run_endRound (P := P) jump hb3.1
      exact ⟨_, hb3.1, by rw [hrc] at hr ⊢; exact hr, hb3.put⟩
    refine wpIn_mono (hbody _ pre x W2 (Nat.le_succ _) hi2 hpre) ?_
    rintro e a3 W3 hp
    cases e with
    | normal =>
      obtain ⟨hk3, hkp3, hi3⟩ := hp
      obtain ⟨r3, hl3, hr, hb4⟩ := fin none W3 hk3
      exact ⟨_, _, hr, .inl ⟨rfl, ⟨hI.putObj _ hi3 (Nat.le_succ _) hl3 rfl, hb4⟩, hKt (hKt hk2 hkp3) (hKb _ _ _ _ hl3)⟩⟩
    | ret =>
      obtain ⟨hk3, hi3⟩ := hp
      obtain ⟨r3, hl3, hr, hb4⟩ := fin (some .ret) W3 hk3
      exact ⟨_, _, hr, .inr ⟨rfl, .ret, (hIx _).putObj (s := ()) _ hi3 (Nat.le_succ _) hl3 rfl, hb4⟩⟩
    | exit id =>
      obtain ⟨hk3, hi3⟩ := hp
      obtain ⟨r3, hl3, hr, hb4⟩ := fin (some (.exit id)) W3 hk3
      exact ⟨_, _, hr, .inr ⟨rfl, .exit id, (hIx _).putObj (s := ()) _ hi3 (Nat.le_succ _) hl3 rfl, hb4⟩⟩
    | goto t =>
      obtain ⟨hk3, hi3⟩ := hp
      obtain ⟨r3, hl3, hr, hb4⟩ := fin (some (.goto t)) W3 hk3
      exact ⟨_, _, hr, .inr ⟨rfl, .goto t, (hIx _).putObj (s := ()) _ hi3 (Nat.le_succ _) hl3 rfl, hb4⟩⟩
    | panic ch => exact hp.elim
    | outgrown => exact hp.elim
  · rintro e W2 ⟨⟨v, rfl⟩, (⟨hi, hb⟩ | ⟨_, c, hi, hb⟩)⟩
    · exact ⟨none, _, by have := run_endLoop (P := P) hb.1 (by rw [hrc]; simp); rw [hrc] at this; exact this, hdone _ _ (Nat.le_refl _) (hI.putObj _ hi (Nat.le_succ _) hb.1 rfl) ((World.putObj_heap_other (by omega)).trans hb.2)⟩
    · exact ⟨some c, _, by have := run_endLoop (P := P) hb.1 (by rw [hrc]; simp); rw [hrc] at this; exact this, hstop _ c _ (Nat.le_refl _) ((hIx c).putObj (s := ()) _ hi (Nat.le_succ _) hb.1 rfl) ((World.putObj_heap_other (by omega)).trans hb.2)⟩
end Go.Proofs.YtbngjpnbjknliaaGreatDoor

namespace Go.Proofs.YtbngjpnbjknliaaGreatDoor
set_option linter.unusedVariables false
set_option linter.unusedSimpArgs false
open Go.RowKit Go

/-- What is the iterator's own: ways through texts and maps, Builders, rows of bytes. -/
def Mine (o : Obj) : Prop := o.isWalk = true ∨ (∃ c fz, o = .cells c 52 fz) ∨ ∃ c fz, o = .cells c 5 fz
/-- What the iterator did: below B nothing turned, and above it only its own. -/
structure Did (B : Nat) (X Y : World) : Prop where
  os : Y.os = X.os
  tape : Y.tape = X.tape
  output : Y.output = X.output
  size : X.heap.size ≤ Y.heap.size
  low : ∀ k : Nat, k < B → Y.heap[k]? = X.heap[k]?
  same : ∀ (k : Nat) (o : Obj), X.heap[k]? = some o → ¬ Mine o → Y.heap[k]? = some o
/-- What a round kept: all that is the iterator's own. -/
structure Kept (X Y : World) : Prop where
  size : X.heap.size ≤ Y.heap.size
  same : ∀ (k : Nat) (o : Obj), X.heap[k]? = some o → Mine o → Y.heap[k]? = some o

theorem Did.trans {B : Nat} {X Y Z : World} (h : Did B X Y) (k : Did B Y Z) : Did B X Z :=
  ⟨k.os.trans h.os, k.tape.trans h.tape, k.output.trans h.output, Nat.le_trans h.size k.size, fun i hi => (k.low i hi).trans (h.low i hi), fun i o hi ho => k.same i o (h.same i o hi ho) ho⟩
theorem Did.below {B : Nat} {X Y : World} (h : Did B X Y) : Below B X Y := ⟨h.os, h.tape, h.output, h.size, h.low⟩
theorem Did.alloc {B : Nat} (X : World) (o : Obj) (hB : B ≤ X.heap.size) : Did B X (X.alloc o) := by
  have hb : Below X.heap.size X (X.alloc o) := (Below.refl _ X).alloc (Nat.le_refl _) o
  exact ⟨hb.os, hb.tape, hb.output, hb.size, fun k hk => hb.block k (by omega), fun k x hk _ => (hb.block k (Array.getElem?_eq_some_iff.1 hk).1).trans hk⟩
theorem Did.iter {B : Nat} (X : World) (k : Nat) (s : ByteArray) (p q : Nat) (hk : X.heap[k]? = some (.stringIter s p)) (hB : B ≤ k) : Did B X (X.iterAt k s q) := by
  refine ⟨rfl, rfl, rfl, by rw [Lib.iterAt_size]; exact Nat.le_refl _, fun i hi => Lib.iterAt_other X k i s q (by omega), fun i o hi ho => ?_⟩
  rw [Lib.iterAt_other X k i s q ?_]; · exact hi
  rintro rfl
  rw [hk] at hi; cases hi
  exact ho (.inl rfl)
theorem Did.wrote {B N : Nat} {X Y : World} (hN : B ≤ N) (hb : Below N X Y) (hk : Lib.OthersKept 5 (some N) X Y) (hm : ∃ c fz, X.heap[N]? = some (.cells c 52 fz)) : Did B X Y := by
  refine ⟨hb.os, hb.tape, hb.output, hb.size, fun k hkB => hb.block k (by omega), fun k o hko ho => hk k o hko ?_ ?_⟩
  · intro e
    cases e
    obtain ⟨c, fz, hc⟩ := hm
    rw [hko] at hc; cases hc
    exact ho (.inr (.inl ⟨_, _, rfl⟩))
  · rintro c fz rfl
    exact ho (.inr (.inr ⟨_, _, rfl⟩))
theorem Did.set {B N : Nat} (X : World) (i : Nat) (v : Value) (hN : B ≤ N) (hm : ∃ c fz, X.heap[N]? = some (.cells c 52 fz)) : Did B X (X.setCell ⟨N, i, none⟩ v) := by
  have hb : Below N X (X.setCell ⟨N, i, none⟩ v) := (Below.refl _ X).setCell (p := ⟨N, i, none⟩) (Nat.le_refl _) v
  refine ⟨hb.os, hb.tape, hb.output, hb.size, fun k hk => hb.block k (by omega), fun k o hko ho => ?_⟩
  rw [Below.heap_setCell X ⟨N, i, none⟩ v k ?_]; · exact hko
  rintro rfl
  obtain ⟨c, fz, hc⟩ := hm
  rw [hko] at hc; cases hc
  exact ho (.inr (.inl ⟨_, _, rfl⟩))
theorem Kept.trans {X Y Z : World} (h : Kept X Y) (k : Kept Y Z) : Kept X Z := ⟨Nat.le_trans h.size k.size, fun i o hi ho => k.same i o (h.same i o hi ho) ho⟩
theorem Kept.below {X Y : World} (h : Below X.heap.size X Y) : Kept X Y := ⟨h.size, fun k o hk _ => (h.block k (Array.getElem?_eq_some_iff.1 hk).1).trans hk⟩
theorem Kept.put (W : World) (l : Nat) (r r' : Loop) (h : W.heap[l]? = some (.loop r)) : Kept W (W.putObj l (.loop r')) := by
  refine ⟨by simp [World.putObj], fun k o hk ho => ?_⟩
  rw [World.putObj_heap_other ?_]; · exact hk
  rintro rfl
  rw [h] at hk; cases hk
  rcases ho with ho | ⟨_, _, ho⟩ | ⟨_, _, ho⟩ <;> cases ho
theorem Did.keeps {B : Nat} (X Y : World) (h : Did B X Y) (k : Nat) (o : Obj) (hk : X.heap[k]? = some o) (h1 : o.isCells = false) (h2 : o.isWalk = false) : Y.heap[k]? = some o := by
  refine h.same k o hk ?_
  rintro (ho | ⟨_, _, rfl⟩ | ⟨_, _, rfl⟩)
  · rw [h2] at ho; cases ho
  · cases h1
  · cases h1

abbrev BF (N : Nat) (bs : List Value) (W : World) : Prop := Lib.IsBuilderF 52 5 N N bs W
theorem BF.kind {N : Nat} {bs : List Value} {W : World} (h : BF N bs W) : ∃ c fz, W.heap[N]? = some (.cells c 52 fz) := by
  rcases h with ⟨_, v, hb, _⟩ | ⟨_, v, hb, _⟩ <;> exact ⟨_, _, hb⟩
theorem BF.kept {N : Nat} {bs : List Value} {W W' : World} (h : BF N bs W) (hk : Kept W W') : BF N bs W' := by
  have one : ∀ p, Lib.BuilderAtF 52 5 N N p bs W → Lib.BuilderAtF 52 5 N N p bs W' := by
    rintro p ⟨hB, v, hb, hown, hne⟩
    refine ⟨hB, v, hk.same _ _ hb (.inr (.inl ⟨_, _, rfl⟩)), ⟨hown.1, ?_⟩, hne⟩
    rcases hown.2 with hn | ⟨g, cap, cur, fz, hv, hbg, hg, rest⟩
    · exact .inl hn
    · exact .inr ⟨g, cap, cur, fz, hv, hbg, hk.same _ _ hg (.inr (.inr ⟨_, _, rfl⟩)), rest⟩
  exact h.imp (one _) (one _)
theorem BF.reset {N : Nat} {bs : List Value} {W : World} (h : BF N bs W) : BF N [] ((W.setCell ⟨N, 0, none⟩ (.pointer none)).setCell ⟨N, 1, none⟩ (.slice none 0 0)) := by
  have : ∃ p v, W.heap[N]? = some (.cells #[p, v] 52 (0, 0)) := by
    rcases h with ⟨_, v, hb, _⟩ | ⟨_, v, hb, _⟩ <;> exact ⟨_, _, hb⟩
  obtain ⟨p, v, hb⟩ := this
  refine .inl ⟨Nat.le_refl _, .slice none 0 0, ?_, World.ownsRowF_nil _ _ _ _, by simp [Value.ownBlock]⟩
  simp [World.setCell, Array.getElem?_modify, hb]
theorem BF.cells {N : Nat} {bs : List Value} {W : World} (h : BF N bs W) : ∃ p v, W.cell? ⟨N, 0, none⟩ = some p ∧ W.cell? ⟨N, 1, none⟩ = some v ∧ W.frozen? ⟨N, 0, none⟩ = false ∧ W.frozen? ⟨N, 1, none⟩ = false := by
  have : ∃ p v, W.heap[N]? = some (.cells #[p, v] 52 (0, 0)) := by
    rcases h with ⟨_, v, hb, _⟩ | ⟨_, v, hb, _⟩ <;> exact ⟨_, _, hb⟩
  obtain ⟨p, v, hb⟩ := this
  exact ⟨p, v, by simp [World.cell?, hb], by simp [World.cell?, hb], by simp [World.frozen?, hb], by simp [World.frozen?, hb]⟩

/-- The lines of a text, from a place on, acc of the line being there. -/
def linesFrom (s : ByteArray) : Nat → Nat → List UInt8 → List ByteArray
  | 0, _, _ => []
  | f + 1, pos, acc => if pos < s.size then
      (if (Utf8.decode s pos).1 = 10 then ⟨acc.toArray⟩ :: linesFrom s f (pos + (Utf8.decode s pos).2) [] else linesFrom s f (pos + (Utf8.decode s pos).2) (acc ++ Lib.encodeRune (Utf8.decode s pos).1))
    else []
def linesOf (s : ByteArray) : List ByteArray := linesFrom s s.size 0 []
theorem linesFrom_end (s : ByteArray) (f pos : Nat) (acc : List UInt8) (h : ¬ pos < s.size) : linesFrom s f pos acc = [] := by
  cases f with
  | zero => rfl
  | succ f => simp [linesFrom, h]
theorem width_pos (s : ByteArray) (pos : Nat) (h : pos < s.size) : 1 ≤ (Utf8.decode s pos).2 := by
  by_cases ha : (s[pos]'h).toNat < 128
  · rw [decode_ascii s pos h ha]; exact Nat.le_refl _
  · exact (decode_high s pos h (by omega)).2
end Go.Proofs.YtbngjpnbjknliaaGreatDoor

namespace Go.Proofs.YtbngjpnbjknliaaGreatDoor
set_option linter.unusedVariables false
set_option linter.unusedSimpArgs false
open Go.Shelf Go
def lays169_ren : Go.Shelf.Ren := ⟨fun | 169 => 25 | n => n, fun | 70 => 49 | 9 => 9 | 0 => 0 | 72 => 52 | 37 => 50 | 127 => 74 | 3 => 3 | 5 => 5 | n => n, fun | n => n⟩
theorem lays169 : Go.Proofs.Lays.n169 Tryz.prog lays169_ren := {
  mixed := by kernel_rfl
  f169 := Tryz.func25.trans (congrArg some (by kernel_rfl))
  t0 := Tryz.underlying0
  a0 := Tryz.isAgg0
  z0 := Tryz.sizeOf0
  v0 := Tryz.zeroValue0
  t3 := Tryz.underlying3
  a3 := Tryz.isAgg3
  z3 := Tryz.sizeOf3
  v3 := Tryz.zeroValue3
  t9 := Tryz.underlying9
  a9 := Tryz.isAgg9
  z9 := Tryz.sizeOf9
  v9 := Tryz.zeroValue9
  t37 := Tryz.underlying50
  a37 := Tryz.isAgg50
  z37 := Tryz.sizeOf50
  v37 := Tryz.zeroValue50
  t70 := Tryz.underlying49
  a70 := Tryz.isAgg49
  z70 := Tryz.sizeOf49
  v70 := Tryz.zeroValue49
  t72 := Tryz.underlying52
  a72 := Tryz.isAgg52
  z72 := Tryz.sizeOf52
  v72 := Tryz.zeroValue52
  t127 := Tryz.underlying74
  a127 := Tryz.isAgg74
  z127 := Tryz.sizeOf74
  v127 := Tryz.zeroValue74 }
theorem Builder_Extra_169 : Builder.Extra Tryz.prog lays169_ren := {
  sizeBuilder := by kernel_rfl
  liesBuilder := by kernel_rfl
  t5 := Tryz.underlying5
  a5 := Tryz.isAgg5
  z5 := Tryz.sizeOf5
  v5 := Tryz.zeroValue5
  infoByte := by kernel_rfl
  cellsByte := by kernel_rfl
  sizeByte := by kernel_rfl
  neB5 := by decide }
def lays156_ren : Go.Shelf.Ren := ⟨fun | 156 => 35 | 165 => 53 | 166 => 34 | 169 => 25 | 240 => 44 | 241 => 74 | 276 => 59 | 277 => 88 | n => n, fun | 31 => 28 | 9 => 9 | 3 => 3 | 4 => 4 | 0 => 0 | 20 => 20 | 72 => 52 | 76 => 55 | 70 => 49 | 37 => 50 | 75 => 54 | 127 => 74 | 164 => 96 | 5 => 5 | 80 => 57 | n => n, fun | n => n⟩
theorem lays156 : Go.Proofs.Lays.n156 Tryz.prog lays156_ren := {
  mixed := by kernel_rfl
  f156 := Tryz.func35.trans (congrArg some (by kernel_rfl))
  f165 := Tryz.func53.trans (congrArg some (by kernel_rfl))
  f166 := Tryz.func34.trans (congrArg some (by kernel_rfl))
  f169 := Tryz.func25.trans (congrArg some (by kernel_rfl))
  f240 := Tryz.func44.trans (congrArg some (by kernel_rfl))
  f241 := Tryz.func74.trans (congrArg some (by kernel_rfl))
  f276 := Tryz.func59.trans (congrArg some (by kernel_rfl))
  f277 := Tryz.func88.trans (congrArg some (by kernel_rfl))
  t0 := Tryz.underlying0
  a0 := Tryz.isAgg0
  z0 := Tryz.sizeOf0
  v0 := Tryz.zeroValue0
  t3 := Tryz.underlying3
  a3 := Tryz.isAgg3
  z3 := Tryz.sizeOf3
  v3 := Tryz.zeroValue3
  t4 := Tryz.underlying4
  a4 := Tryz.isAgg4
  z4 := Tryz.sizeOf4
  v4 := Tryz.zeroValue4
  t9 := Tryz.underlying9
  a9 := Tryz.isAgg9
  z9 := Tryz.sizeOf9
  v9 := Tryz.zeroValue9
  t20 := Tryz.underlying20
  a20 := Tryz.isAgg20
  z20 := Tryz.sizeOf20
  v20 := Tryz.zeroValue20
  t31 := Tryz.underlying28
  a31 := Tryz.isAgg28
  z31 := Tryz.sizeOf28
  v31 := Tryz.zeroValue28
  t37 := Tryz.underlying50
  a37 := Tryz.isAgg50
  z37 := Tryz.sizeOf50
  v37 := Tryz.zeroValue50
  t70 := Tryz.underlying49
  a70 := Tryz.isAgg49
  z70 := Tryz.sizeOf49
  v70 := Tryz.zeroValue49
  t72 := Tryz.underlying52
  a72 := Tryz.isAgg52
  z72 := Tryz.sizeOf52
  v72 := Tryz.zeroValue52
  t75 := Tryz.underlying54
  a75 := Tryz.isAgg54
  z75 := Tryz.sizeOf54
  v75 := Tryz.zeroValue54
  t76 := Tryz.underlying55
  a76 := Tryz.isAgg55
  z76 := Tryz.sizeOf55
  v76 := Tryz.zeroValue55
  t127 := Tryz.underlying74
  a127 := Tryz.isAgg74
  z127 := Tryz.sizeOf74
  v127 := Tryz.zeroValue74
  t164 := Tryz.underlying96
  a164 := Tryz.isAgg96
  z164 := Tryz.sizeOf96
  v164 := Tryz.zeroValue96 }
theorem Builder_Extra_156 : Builder.Extra Tryz.prog lays156_ren := {
  sizeBuilder := by kernel_rfl
  liesBuilder := by kernel_rfl
  t5 := Tryz.underlying5
  a5 := Tryz.isAgg5
  z5 := Tryz.sizeOf5
  v5 := Tryz.zeroValue5
  infoByte := by kernel_rfl
  cellsByte := by kernel_rfl
  sizeByte := by kernel_rfl
  neB5 := by decide }
open Go.RowKit in
theorem strings_Join_none (a : Option Addr) (c : Nat) (sep : ByteArray) (w : World) :
    Calls Tryz.prog 35 #[.slice a 0 c, .string sep] w fun e w' => e = .returned (.string ⟨#[]⟩) ∧ w' = w := Any.strings_Join_none lays156 Builder_Extra_156 a c sep w
open Go.RowKit in
theorem strings_Join (bk o c : Nat) (xs : List ByteArray) (sep : ByteArray) (w : World) (hcells : ∀ (j : Nat) x, xs[j]? = some x → w.cell? ⟨bk, o + j, none⟩ = some (.string x)) (hbk : bk < w.heap.size) (hN : xs.length ≤ 140737488355328) (hcap : xs.length ≤ c) (hlen : (Lib.join (xs.map (·.data.toList)) sep.data.toList).length ≤ 140737488355328) :
    Calls Tryz.prog 35 #[.slice (some ⟨bk, o, none⟩) xs.length c, .string sep] w fun e w' => e = .returned (.string ⟨(Lib.join (xs.map (·.data.toList)) sep.data.toList).toArray⟩) ∧ Below w.heap.size w w' := Any.strings_Join lays156 Builder_Extra_156 bk o c xs sep w hcells hbk hN hcap hlen
open Go.RowKit in
theorem Builder_String_any_k (B b : Nat) (l : List UInt8) (w : World) (h : Lib.IsBuilderF 52 5 B b (Lib.byteCells l) w) (hBw : B ≤ w.heap.size) :
    Calls Tryz.prog 25 #[.pointer (some ⟨b, 0, none⟩)] w fun e w' => e = .returned (.string ⟨l.toArray⟩) ∧ (Lib.IsBuilderF 52 5 B b (Lib.byteCells l) w' ∧ Below B w w' ∧ Lib.OthersKept 5 (some b) w w') := Any.Builder_String_any_k lays169 Builder_Extra_169 B b l w h hBw
theorem lays166 : Go.Proofs.Lays.n166 Tryz.prog lays156_ren := { lays156 with }
theorem Builder_WriteString_k (B b : Nat) (bs : List Value) (s : ByteArray) (w : World) (h : Lib.IsBuilderF 52 5 B b bs w) (hlen : bs.length + s.size ≤ 140737488355328) (hBw : B ≤ w.heap.size) :
    Calls Tryz.prog 34 #[.pointer (some ⟨b, 0, none⟩), .string s] w fun e w' => e = .returned (.tuple #[.int .i64 s.size, .nilIface]) ∧ (Lib.BuilderAtF 52 5 B b (.pointer (some ⟨b, 0, none⟩)) (bs ++ Lib.strCells s) w' ∧ RowKit.Below B w w' ∧ Lib.OthersKept 5 (some b) w w') := Any.Builder_WriteString_k lays166 Builder_Extra_156 B b bs s w h hlen hBw
def lays167_ren : Go.Shelf.Ren := ⟨fun | 167 => 37 | 166 => 34 | 240 => 44 | 276 => 59 | n => n, fun | 31 => 28 | 9 => 9 | 3 => 3 | 4 => 4 | 0 => 0 | 20 => 20 | 72 => 52 | 76 => 55 | 70 => 49 | 37 => 50 | 75 => 54 | 127 => 74 | 164 => 96 | 5 => 5 | 80 => 57 | n => n, fun | n => n⟩
theorem lays167 : Go.Proofs.Lays.n167 Tryz.prog lays167_ren := { lays156 with
  f167 := Tryz.func37.trans (congrArg some (by kernel_rfl))
  t5 := Tryz.underlying5
  a5 := Tryz.isAgg5
  z5 := Tryz.sizeOf5
  v5 := Tryz.zeroValue5 }
theorem Builder_Extra_167 : Builder.Extra Tryz.prog lays167_ren := {
  sizeBuilder := by kernel_rfl
  liesBuilder := by kernel_rfl
  t5 := Tryz.underlying5
  a5 := Tryz.isAgg5
  z5 := Tryz.sizeOf5
  v5 := Tryz.zeroValue5
  infoByte := by kernel_rfl
  cellsByte := by kernel_rfl
  sizeByte := by kernel_rfl
  neB5 := by decide }
theorem Builder_WriteByte_k (B b : Nat) (bs : List Value) (c : Int) (w : World) (h : Lib.IsBuilderF 52 5 B b bs w) (hlen : bs.length + 1 ≤ 140737488355328) (hBw : B ≤ w.heap.size) :
    Calls Tryz.prog 37 #[.pointer (some ⟨b, 0, none⟩), .int .u8 c] w fun e w' => e = .returned .nilIface ∧ (Lib.BuilderAtF 52 5 B b (.pointer (some ⟨b, 0, none⟩)) (bs ++ [.int .u8 c]) w' ∧ RowKit.Below B w w' ∧ Lib.OthersKept 5 (some b) w w') := Any.Builder_WriteByte_k lays167 Builder_Extra_167 B b bs c w h hlen hBw
end Go.Proofs.YtbngjpnbjknliaaGreatDoor

namespace Go.Proofs.YtbngjpnbjknliaaGreatDoor
set_option linter.unusedVariables false
set_option linter.unusedSimpArgs false
open Go.Shelf Go Go.RowKit
def lays168_ren : Go.Shelf.Ren := ⟨fun | 168 => 24 | 240 => 44 | 242 => 45 | 276 => 59 | 278 => 60 | n => n, fun | 0 => 0 | 3 => 3 | 4 => 4 | 5 => 5 | 9 => 9 | 20 => 20 | 21 => 21 | 37 => 50 | 46 => 106 | 51 => 98 | 70 => 49 | 72 => 52 | 75 => 54 | 76 => 55 | 80 => 57 | 164 => 96 | n => n, fun | n => n⟩
theorem lays168 : Go.Proofs.Lays.n168 Tryz.prog lays168_ren := {
  mixed := by kernel_rfl
  f168 := Tryz.func24.trans (congrArg some (by kernel_rfl))
  f240 := Tryz.func44.trans (congrArg some (by kernel_rfl))
  f242 := Tryz.func45.trans (congrArg some (by kernel_rfl))
  f276 := Tryz.func59.trans (congrArg some (by kernel_rfl))
  f278 := Tryz.func60.trans (congrArg some (by kernel_rfl))
  t0 := Tryz.underlying0
  a0 := Tryz.isAgg0
  z0 := Tryz.sizeOf0
  v0 := Tryz.zeroValue0
  t3 := Tryz.underlying3
  a3 := Tryz.isAgg3
  z3 := Tryz.sizeOf3
  v3 := Tryz.zeroValue3
  t4 := Tryz.underlying4
  a4 := Tryz.isAgg4
  z4 := Tryz.sizeOf4
  v4 := Tryz.zeroValue4
  t5 := Tryz.underlying5
  a5 := Tryz.isAgg5
  z5 := Tryz.sizeOf5
  v5 := Tryz.zeroValue5
  t9 := Tryz.underlying9
  a9 := Tryz.isAgg9
  z9 := Tryz.sizeOf9
  v9 := Tryz.zeroValue9
  t20 := Tryz.underlying20
  a20 := Tryz.isAgg20
  z20 := Tryz.sizeOf20
  v20 := Tryz.zeroValue20
  t21 := Tryz.underlying21
  a21 := Tryz.isAgg21
  z21 := Tryz.sizeOf21
  v21 := Tryz.zeroValue21
  t37 := Tryz.underlying50
  a37 := Tryz.isAgg50
  z37 := Tryz.sizeOf50
  v37 := Tryz.zeroValue50
  t46 := Tryz.underlying106
  a46 := Tryz.isAgg106
  z46 := Tryz.sizeOf106
  v46 := Tryz.zeroValue106
  t51 := Tryz.underlying98
  a51 := Tryz.isAgg98
  z51 := Tryz.sizeOf98
  v51 := Tryz.zeroValue98
  t70 := Tryz.underlying49
  a70 := Tryz.isAgg49
  z70 := Tryz.sizeOf49
  v70 := Tryz.zeroValue49
  t72 := Tryz.underlying52
  a72 := Tryz.isAgg52
  z72 := Tryz.sizeOf52
  v72 := Tryz.zeroValue52
  t75 := Tryz.underlying54
  a75 := Tryz.isAgg54
  z75 := Tryz.sizeOf54
  v75 := Tryz.zeroValue54
  t164 := Tryz.underlying96
  a164 := Tryz.isAgg96
  z164 := Tryz.sizeOf96
  v164 := Tryz.zeroValue96 }
theorem Builder_Extra_168 : Builder.Extra Tryz.prog lays168_ren := {
  sizeBuilder := by kernel_rfl
  liesBuilder := by kernel_rfl
  t5 := Tryz.underlying5
  a5 := Tryz.isAgg5
  z5 := Tryz.sizeOf5
  v5 := Tryz.zeroValue5
  infoByte := by kernel_rfl
  cellsByte := by kernel_rfl
  sizeByte := by kernel_rfl
  neB5 := by decide }
theorem Builder_WriteRune_k (B b : Nat) (bs : List Value) (r : Int) (hr0 : -2147483648 ≤ r) (hr1 : r ≤ 2147483647) (w : World) (h : Lib.IsBuilderF 52 5 B b bs w) (hlen : bs.length + 4 ≤ 140737488355328) (hBw : B ≤ w.heap.size) :
    Calls Tryz.prog 24 #[.pointer (some ⟨b, 0, none⟩), .int .i32 r] w fun e w' => e = .returned (.tuple #[.int .i64 (Lib.runeCells r).length, .nilIface]) ∧ (Lib.BuilderAtF 52 5 B b (.pointer (some ⟨b, 0, none⟩)) (bs ++ Lib.runeCells r) w' ∧ Below B w w' ∧ Lib.OthersKept 5 (some b) w w') :=
  Any.Builder_WriteRune_k lays168 Builder_Extra_168 B b bs r hr0 hr1 w h hlen hBw
end Go.Proofs.YtbngjpnbjknliaaGreatDoor

namespace Go.Proofs.YtbngjpnbjknliaaGreatDoor
set_option linter.unusedVariables false
set_option linter.unusedSimpArgs false
open Go.RowKit Go
attribute [local go_sem] Oper.semAt_some

theorem reset (N : Nat) (bs : List Value) (w : World) (h : BF N bs w) :
    Calls Tryz.prog 26 #[.pointer (some ⟨N, 0, none⟩)] w fun e w' => e = .returned (.tuple #[]) ∧ w' = (w.setCell ⟨N, 0, none⟩ (.pointer none)).setCell ⟨N, 1, none⟩ (.slice none 0 0) := by
  obtain ⟨p, v, c0, c1, f0, f1⟩ := h.cells
  go_enter Tryz.func26, Tryz.ntmps26
  go_wp2
  go_end0
  exact ⟨rfl, rfl⟩

set_option maxRecDepth 100000 in
set_option maxHeartbeats 4000000 in
theorem textLines1 (s : ByteArray) (hs : s.size ≤ 16777216) (n B Bt : Nat) (hn : 1 ≤ n) :
    Iters Fence.wide n Tryz.prog 23 #[.pointer (some ⟨Bt, 0, none⟩)] (fun x : ByteArray => #[.string x]) (Did B) Kept (linesOf s) (fun W => B ≤ W.heap.size ∧ W.cell? ⟨Bt, 0, none⟩ = some (.string s)) := by
  intro l J Jx W hst hJ hJx hY h0
  obtain ⟨hBW, hct⟩ := hst
  have hbt : Bt < W.heap.size := World.block_lt_of_cell? _ _ hct
  refine callsIn_of_wp Tryz.func23 rfl trivial ?_ rfl
  simp only [Tryz.ntmps23, List.size_toArray, List.length_cons, List.length_nil, Nat.reduceAdd, Nat.reduceSub, Array.replicate_succ, Array.replicate_zero, List.push_toArray, List.append_toArray, List.nil_append, List.cons_append]
  gi_wp2
  gi_loopw [] (fun wr => ∃ (pos fuel : Nat) (acc : List UInt8) (pre : List ByteArray), BF W.heap.size (Lib.byteCells acc) wr ∧ wr.heap[W.heap.size + 1]? = some (.stringIter s pos) ∧ J pre wr ∧ linesOf s = pre ++ linesFrom s fuel pos acc ∧ s.size ≤ pos + fuel ∧ acc.length ≤ 4 * pos) (fun wr => s.size - wr.iterPos (W.heap.size + 1))
  case atStart =>
    refine ⟨0, s.size, [], [], (Lib.IsBuilderF.of (Lib.fresh_isBuilder 52 5 W)).alloc _, ?_, hJ _ _ _ h0 ((Did.alloc W _ hBW).trans (Did.alloc _ _ (by simp; omega))), rfl, by omega, by simp⟩
    have := World.iter_heap (W.alloc (.cells #[.pointer none, .slice none 0 0] 52)) s 0
    simpa using this
  case round =>
    obtain ⟨pos, fuel, acc, pre, hI, hit, hj, hacc, hfu, hal⟩ := hrel
    have hsz : W.heap.size + 1 < wr.heap.size := (Array.getElem?_eq_some_iff.1 hit).1
    by_cases hp : pos < s.size
    · have hnx : ∀ ty, (Instr.next (.pointer (some ⟨W.heap.size + 1, 0, none⟩)) true ty).run Tryz.prog wr = _ := fun ty => Lib.run_next_any_at wr (W.heap.size + 1) s pos ty hit hp
      have hwd := width_pos s pos hp
      have hd1 := decode_le s pos
      have hI2 := hI.iterAt hit (pos + (Utf8.decode s pos).2)
      have hit2 := Lib.iterAt_heap wr (W.heap.size + 1) s pos (pos + (Utf8.decode s pos).2) hit
      have hj2 := hJ _ _ _ hj (Did.iter (B := B) wr _ s pos (pos + (Utf8.decode s pos).2) hit (by omega))
      have hsz2 : W.heap.size ≤ (wr.iterAt (W.heap.size + 1) s (pos + (Utf8.decode s pos).2)).heap.size := by rw [Lib.iterAt_size]; omega
      obtain ⟨f, rfl⟩ : ∃ f, fuel = f + 1 := ⟨fuel - 1, by omega⟩
      by_cases h10 : (Utf8.decode s pos).1 = 10
      · have hlf : linesFrom s (f + 1) pos acc = ⟨acc.toArray⟩ :: linesFrom s f (pos + (Utf8.decode s pos).2) [] := by simp [linesFrom, hp, h10]
        rw [hlf] at hacc
        gi_wp2_with fail
        refine ⟨trivial, (callsIn_wide.2 (Builder_String_any_k W.heap.size W.heap.size acc _ hI2 hsz2)).mono ?_⟩
        rintro e W1 ⟨rfl, hI3, hb3, hk3⟩
        have hit3 := hk3.iter hit2 (by omega)
        have hj3 := hJ _ _ _ hj2 (Did.wrote hBW hb3 hk3 (BF.kind hI2))
        obtain ⟨fn, tmps, assign, body, hy, hR⟩ := hY pre ⟨acc.toArray⟩ W1 hj3 ⟨linesFrom s f (pos + (Utf8.decode s pos).2) [], by rw [hacc]; simp⟩
        gi_wp2_with fail
        refine hR.mono ?_
        rintro e W2 (⟨rfl, hj4, hkp⟩ | ⟨rfl, hx⟩)
        · have hI4 := BF.kept hI3 hkp
          have hit4 := hkp.same _ _ hit3 (.inl rfl)
          gi_wp2_with fail
          refine ⟨trivial, (callsIn_wide.2 (reset W.heap.size _ W2 hI4)).mono ?_⟩
          rintro e W3 ⟨rfl, hW3⟩
          have hI5 := BF.reset hI4
          have hj5 := hJ _ _ _ hj4 ((Did.set W2 0 (.pointer none) hBW (BF.kind hI4)).trans (Did.set _ 1 (.slice none 0 0) hBW (by obtain ⟨c, fz, hc⟩ := BF.kind hI4; exact ⟨c.setIfInBounds 0 (.pointer none), fz, by simp [World.setCell, Array.getElem?_modify, hc]⟩)))
          have hit5 : ((W2.setCell ⟨W.heap.size, 0, none⟩ (.pointer none)).setCell ⟨W.heap.size, 1, none⟩ (.slice none 0 0)).heap[W.heap.size + 1]? = some (.stringIter s (pos + (Utf8.decode s pos).2)) := by
            rw [Below.heap_setCell _ _ _ _ (by simp), Below.heap_setCell _ _ _ _ (by simp)]; exact hit4
          rw [← hW3] at hI5 hj5 hit5
          clear hW3
          gi_wp2_with fail
          go_roundw
          case rel => exact ⟨pos + (Utf8.decode s pos).2, f, [], pre ++ [⟨acc.toArray⟩], hI5, hit5, hj5, by rw [hacc]; simp, by omega, by simp⟩
          case measure =>
            simp only [World.iterPos, hit5, hit]
            omega
        · gi_wp2_with fail
          refine bodyPost_ret (results_none rfl _ _ _) rfl ?_
          exact ⟨⟨_, rfl⟩, .inr ⟨_, hx⟩⟩
      · have hlf : linesFrom s (f + 1) pos acc = linesFrom s f (pos + (Utf8.decode s pos).2) (acc ++ Lib.encodeRune (Utf8.decode s pos).1) := by simp [linesFrom, hp, h10]
        rw [hlf] at hacc
        gi_wp2_with fail
        refine ⟨trivial, (callsIn_wide.2 (Builder_WriteRune_k W.heap.size W.heap.size _ _ (by omega) (by omega) _ hI2 (by rw [Lib.byteCells_length]; omega) hsz2)).mono ?_⟩
        rintro e W1 ⟨rfl, hI3, hb3, hk3⟩
        have hit3 := hk3.iter hit2 (by omega)
        have hj3 := hJ _ _ _ hj2 (Did.wrote hBW hb3 hk3 (BF.kind hI2))
        gi_wp2_with fail
        go_roundw
        case rel =>
          have hl4 := Lib.runeCells_le ((Utf8.decode s pos).1 : Int)
          rw [Lib.runeCells_length] at hl4
          refine ⟨pos + (Utf8.decode s pos).2, f, acc ++ Lib.encodeRune (Utf8.decode s pos).1, pre, ?_, hit3, hj3, hacc, by omega, by simp; omega⟩
          rw [Lib.byteCells_append, Lib.byteCells_encodeRune]; exact Or.inr hI3
        case measure =>
          simp only [World.iterPos, hit3, hit]
          omega
    · have hnx : ∀ ty, (Instr.next (.pointer (some ⟨W.heap.size + 1, 0, none⟩)) true ty).run Tryz.prog wr = _ := fun ty => Lib.run_next_end_at wr (W.heap.size + 1) s pos ty hit hp
      gi_wp2_with fail
      go_end0
      rw [linesFrom_end s fuel pos acc hp, List.append_nil] at hacc
      exact ⟨⟨_, rfl⟩, .inl (by rw [hacc]; exact hj)⟩
end Go.Proofs.YtbngjpnbjknliaaGreatDoor
