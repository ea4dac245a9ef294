/- A range over a function whose iterator keeps memory of its own: the caller's invariant abides the iterator's own steps, the iterator's memory abides a round. -/
import Derived.Test.YtghocdiddolinaaGreatDoorJ36
import Derived.Test.YtghocdiddolinaaGreatDoorJ35
import Derived.Deep.AppendLies
import Derived.Test.YtghocdiddolinaaGreatDoorProg
import Derived.RangeFuncNested
import Derived.RangeFuncBound
import Derived.RangeFuncCalls
import Derived.RangeFuncLeaves
import Derived.WalkKit
import Derived.OwnWalkIn
import Derived.TacticsInMore
import Derived.LoopNIn
import Derived.LoopIn
namespace Go.Proofs.YtghocdiddolinaaGreatDoor
set_option linter.unusedVariables false
set_option linter.unusedSimpArgs false
open Go.RowKit Go

theorem infoP : (Tryz.prog.info? 148).map (fun i => (i.zero, i.size, i.bytes)) = some (some .nilFunc, 1, 8) := by kernel_rfl

theorem merged (pa : Option Addr) (pn pc : Nat) (t : Int) (w : World) : Calls Tryz.prog 83 #[.slice pa pn pc, .int .i64 t] w fun e w' => e = .returned (.func (.func 95) #[] #[.pointer (some ⟨w.heap.size, 0, none⟩), .pointer (some ⟨w.heap.size + 1, 0, none⟩)]) ∧ w' = (w.alloc (.cells #[.slice pa pn pc] 115)).alloc (.cells #[.int .i64 t] 3) := by
  go_enter Tryz.func83, Tryz.ntmps83
  go_wp2
  go_ret
  exact ⟨rfl, rfl⟩

theorem Parts.push {w0 w w' : World} {M : Nat} {v v' : Value} {ps : List Rul} {r : Rul} {k : Nat} {a : Option Addr} {l c : Nat} {us : List Value} (hu : us.length = ps.length) (h1 : w.ownsRow M 148 1 v ps.length us)
    (h2 : ∀ i (h : i < ps.length), PartAt w0 w M (us[i]'(by omega)) ps[i]) (hk : M ≤ k) (hbox : RulBox w k r (.slice a l c)) (hrow : IsRow .i64 w0 a l c r.but)
    (hown : w'.ownsRow M 148 1 v' (ps.length + 1) (us ++ [fnOf k])) (hg : w.grownBy w' v.ownBlock) : Parts w0 w' M v' (ps ++ [r]) := by
  have box : ∀ (j : Nat) (q : Rul) (s : Value), RulBox w j q s → RulBox w' j q s := fun j q s hb => by
    refine (hg.block j (Array.getElem?_eq_some_iff.1 hb).1 (fun e => ?_)).trans hb
    rcases h1.2 with ⟨rfl, _⟩ | ⟨g, cap, cur, rfl, _, hgg, _⟩
    · simp [Value.ownBlock] at e
    · simp [Value.ownBlock] at e
      subst e
      rw [show w.heap[j]? = _ from hb] at hgg
      simp at hgg
  refine ⟨us ++ [fnOf k], by simp [hu], by simpa using hown, fun i hi => ?_⟩
  by_cases h : i < ps.length
  · obtain ⟨kk, aa, ll, cc, e1, e2, e3, e4⟩ := h2 i h
    rw [List.getElem_append_left (by omega : i < us.length), List.getElem_append_left h]
    exact ⟨kk, aa, ll, cc, e1, e2, box _ _ _ e3, e4⟩
  · have hie : i = ps.length := by simp at hi; omega
    subst hie
    rw [List.getElem_append_right (by omega : us.length ≤ ps.length), List.getElem_append_right (Nat.le_refl _)]
    simp only [Nat.sub_self, List.getElem_cons_zero, hu]
    exact ⟨k, a, l, c, rfl, hk, box _ _ _ hbox, hrow⟩

/-- What tells the ticks of ps above t, in memory: M is where its blocks begin. -/
def Teller (w0 W : World) (M p1 p2 : Nat) (v : Value) (t : Int) (ps : List Rul) : Prop :=
  Sees w0 W ∧ M ≤ p1 ∧ M ≤ p2 ∧ W.heap[p1]? = some (.cells #[v] 115 (0, 0)) ∧ W.heap[p2]? = some (.cells #[.int .i64 t] 3 (0, 0)) ∧ Parts w0 W M v ps
theorem Teller.keep {w0 W W' : World} {M p1 p2 : Nat} {v : Value} {t : Int} {ps : List Rul} (h : Teller w0 W M p1 p2 v t ps) (hb : Sees w0 W') (hk : KeptUp M W W') : Teller w0 W' M p1 p2 v t ps :=
  ⟨hb, h.2.1, h.2.2.1, hk _ _ _ _ h.2.1 h.2.2.2.1, hk _ _ _ _ h.2.2.1 h.2.2.2.2.1, h.2.2.2.2.2.keep hk⟩
/-- The rules that count: none, if they are not ok. -/
def okRules (rs : List Rul) : List Rul := if calOk rs = true then rs else []
theorem okRules_ok (rs : List Rul) : ∀ i (hi : i < (okRules rs).length), RuleOk (okRules rs)[i] := by
  unfold okRules
  split
  · rename_i h; exact calOk_rules h
  · intro i hi; simp at hi
theorem okRules_due (rs : List Rul) (u : Int) : OfTo (okRules rs) (okRules rs).length u ↔ calDue rs u = true := by
  unfold okRules
  split
  · rename_i h; exact ofTo_due h u
  · rename_i h
    constructor
    · rintro ⟨i, hi, _⟩; simp at hi
    · intro hd; simp [calDue, h] at hd

def DuePost (w0 w : World) (t : Int) (rs : List Rul) (e : Ending) (w' : World) : Prop :=
  Below w.heap.size w w' ∧ ∃ p1 p2 v, e = .returned (.func (.func 95) #[] #[.pointer (some ⟨p1, 0, none⟩), .pointer (some ⟨p2, 0, none⟩)]) ∧ Teller w0 w' w.heap.size p1 p2 v t (okRules rs)

set_option maxRecDepth 4000 in
set_option maxHeartbeats 2000000 in
theorem dueAbove (w0 : World) (a : Option Addr) (len cap : Nat) (rs : List Rul) (t : Int) (w : World) (hr0 : IsRuls w0 a len cap rs) (hb0 : Below w0.heap.size w0 w) (hg : ErrT w) :
    Calls Tryz.prog 57 #[.slice a len cap, .int .i64 t] w fun e w' => DuePost w0 w t rs e w' := by
  have hr := hr0.below hb0
  obtain ⟨hz, hm⟩ := IsRecs.len hr
  unfold maxLen at hm
  have HK := implCalOk a len cap rs w hr hg
  have HR : Hid (IsRuls w a len cap rs) := hr
  have HR0 : Hid (IsRuls w0 a len cap rs) := hr0
  have HB0 : Hid (Below w0.heap.size w0 w) := hb0
  clear hr hg hr0 hb0
  have fin : ∀ (v : Value) (W : World), Below w.heap.size w W → Parts w0 W w.heap.size v (okRules rs) → DuePost w0 w t rs (.returned (.func (.func 95) #[] #[.pointer (some ⟨W.heap.size, 0, none⟩), .pointer (some ⟨W.heap.size + 1, 0, none⟩)])) ((W.alloc (.cells #[v] 115)).alloc (.cells #[.int .i64 t] 3)) := fun v W hb hp => by
    have hb2 : Below W.heap.size W ((W.alloc (.cells #[v] 115)).alloc (.cells #[.int .i64 t] 3)) := ((Below.refl _ _).alloc (Nat.le_refl _) _).alloc (by simp) _
    refine ⟨hb.trans (hb2.mono hb.size), _, _, v, rfl, Sees.of_below (HB0.out.trans ((hb.trans (hb2.mono hb.size)).mono HB0.out.size)), hb.size, Nat.le_succ_of_le hb.size, ?_, ?_, hp.keep (KeptUp.below hb2)⟩
    · exact (Below.heap_alloc _ _ _ (by simp)).trans (heap_alloc_new W _)
    · have := heap_alloc_new (W.alloc (.cells #[v] 115)) (.cells #[.int .i64 t] 3)
      rwa [World.size_alloc] at this
  have FIN : Hid _ := fin
  clear fin
  have HME : Hid (∀ pa pn pc w, Calls Tryz.prog 83 #[.slice pa pn pc, .int .i64 t] w fun e w' => e = .returned (.func (.func 95) #[] #[.pointer (some ⟨w.heap.size, 0, none⟩), .pointer (some ⟨w.heap.size + 1, 0, none⟩)]) ∧ w' = (w.alloc (.cells #[.slice pa pn pc] 115)).alloc (.cells #[.int .i64 t] 3)) := fun pa pn pc w => merged pa pn pc t w
  by_cases hok : calOk rs = true
  · rw [hok] at HK
    have HK : Hid _ := HK
    have hlen4 : len ≤ 4 := by
      have h := hok
      simp only [calOk, Bool.and_eq_true, decide_eq_true_eq] at h
      omega
    have HOR : Hid (okRules rs = rs) := by show _ = _; unfold okRules; rw [if_pos hok]
    clear hok
    obtain ⟨i0, hi, hz0, hz1, hz2⟩ := info_parts infoP
    go_enter Tryz.func57, Tryz.ntmps57
    go_wp2_with fail
    refine Calls.mono HK.out ?_
    rintro e w1 ⟨rfl, hw1⟩
    go_wp2_with fail
    go_loopw [5, 12] (fun v i wr => ∃ (k : Nat) (vv : Value), k ≤ len ∧ i = .int .i64 k ∧ v = vv ∧ Parts w0 wr w.heap.size vv (rs.take k) ∧ Below w.heap.size w wr) (fun _ i _ => len - (intOf i).toNat)
    case atStart => exact ⟨0, _, Nat.zero_le _, rfl, rfl, Parts.nil _ _ _, hw1⟩
    case round =>
      obtain ⟨k, vv, hk, rfl, rfl, hp, hb⟩ := hrel
      have hlt' : (rs.take k).length = k := by simp; omega
      obtain ⟨av, cv, hvv, _⟩ := hp.form
      rw [hlt'] at hvv
      subst hvv
      by_cases hlt : k < len
      · obtain ⟨b, off, rfl, h1, hbl, a1, l1, k1, c0, c1, c2, c3, c4, hrow1, _⟩ := IsRuls.at (IsRuls.below HR.out hb) (i := k) (by omega)
        obtain ⟨b', off', eb, _, _, a2, l2, k2, _, _, _, _, d4, hrow2, _⟩ := IsRuls.at HR0.out (i := k) (by omega)
        cases eb
        have hsame : Value.slice a1 l1 k1 = .slice a2 l2 k2 := by
          have := ((HB0.out.trans (hb.mono HB0.out.size)).cell (p := ⟨b, off + k * 5 + 4, none⟩) (World.block_lt_of_cell? _ _ d4)).trans d4
          rw [c4] at this; exact Option.some.inj this
        cases hsame
        obtain ⟨us, hu, g1, g2⟩ := hp
        have HTK : Hid (rs.take (k + 1) = rs.take k ++ [rs[k]]) := by show _ = _; rw [List.take_succ_eq_append_getElem (by omega)]
        have HROW2 : Hid _ := hrow2
        clear hrow1 hrow2 d4
        generalize rs[k] = rk at c0 c1 c2 c3 c4 HTK HROW2
        have HG2 : Hid (∀ i (h : i < (rs.take k).length), PartAt w0 wr w.heap.size (us[i]'(by omega)) (rs.take k)[i]) := g2
        clear g2
        have hsz : w.heap.size ≤ wr.heap.size := hb.size
        have hown0 : ((wr.alloc (.cells #[.int .i64 rk.ev, .int .i64 rk.at_, .int .i64 rk.fr, .int .i64 rk.to_, .slice a1 l1 k1] 73)).alloc (.cells #[fnOf wr.heap.size] 148)).ownsRow w.heap.size 148 1 (.slice av k cv) k us := by
          have h5 := own_keep g1 (KeptUp.below (((Below.refl _ _).alloc (Nat.le_refl _) (.cells #[.int .i64 rk.ev, .int .i64 rk.at_, .int .i64 rk.fr, .int .i64 rk.to_, .slice a1 l1 k1] 73)).alloc (by simp) (.cells #[fnOf wr.heap.size] 148)))
          rw [hlt'] at h5; exact h5
        have hnew : ∀ j u, [fnOf wr.heap.size][j]? = some u → ((wr.alloc (.cells #[.int .i64 rk.ev, .int .i64 rk.at_, .int .i64 rk.fr, .int .i64 rk.to_, .slice a1 l1 k1] 73)).alloc (.cells #[fnOf wr.heap.size] 148)).cell? ((⟨wr.heap.size + 1, 0, none⟩ : Addr).add j) = some u := by
          have hbk := heap_alloc_new (wr.alloc (.cells #[.int .i64 rk.ev, .int .i64 rk.at_, .int .i64 rk.fr, .int .i64 rk.to_, .slice a1 l1 k1] 73)) (.cells #[fnOf wr.heap.size] 148)
          rw [World.size_alloc] at hbk
          exact World.news_of_block hbk
        have HO : Hid _ := hown0
        have HNW : Hid _ := hnew
        clear hown0 hnew g1
        unfold fnOf at HO HNW
        go_wp2_with (at_builtin; refine wpList_append_own _ rfl _ _ 115 rfl w.heap.size 148 i0 .nilFunc 1 8 Tryz.underlying115 hi hz0 hz1 hz2 rfl (by decide) (.slice av k cv) k us rfl HO.out ⟨wr.heap.size + 1, 0, none⟩ 1 1 _ rfl rfl HNW.out (by simp [Value.oneCell']) (by unfold maxLen; omega) (by omega) (by simp; omega) ?_; intro v' w5 hown5 hgrow5 _)
        go_roundw
        case rel =>
          refine ⟨k + 1, _, by omega, by go_num, rfl, ?_, ?_⟩
          · rw [HTK.out]
            refine Parts.push (w := (wr.alloc (.cells #[.int .i64 rk.ev, .int .i64 rk.at_, .int .i64 rk.fr, .int .i64 rk.to_, .slice a1 l1 k1] 73)).alloc (.cells #[fnOf wr.heap.size] 148)) (k := wr.heap.size) hu (by rw [hlt']; exact HO.out) (fun i hi => (HG2.out i hi).keep (KeptUp.below (((Below.refl _ _).alloc (Nat.le_refl _) _).alloc (by simp) _))) hsz ?_ HROW2.out (by rw [hlt']; exact hown5) hgrow5
            exact (Below.heap_alloc _ _ _ (by simp)).trans (heap_alloc_new wr _)
          · exact ((hb.alloc hsz _).alloc (by simp; omega) _).trans ((Below.refl _ _).grown hgrow5 (by simp; omega) (fun j hj => (World.ownsRow.lt HO.out j hj).1))
        case measure => simp [intOf]; omega
      · have he : rs.take k = rs := List.take_of_length_le (by omega)
        rw [he, ← HOR.out] at hp
        have HP : Hid _ := hp
        clear hp he
        go_wp2_with fail
        refine (HME.out _ _ _ _).mono ?_
        rintro e w2 ⟨rfl, rfl⟩
        go_wp2_with fail
        go_ret
        exact FIN.out _ _ hb HP.out
  · have hok : calOk rs = false := by simpa using hok
    rw [hok] at HK
    have HK : Hid _ := HK
    have HOR : Hid (okRules rs = []) := by show _ = _; unfold okRules; rw [hok]; rfl
    clear hok
    go_enter Tryz.func57, Tryz.ntmps57
    go_wp2_with fail
    refine Calls.mono HK.out ?_
    rintro e w1 ⟨rfl, hw1⟩
    go_wp2_with fail
    refine (HME.out _ _ _ _).mono ?_
    rintro e w2 ⟨rfl, rfl⟩
    go_wp2_with fail
    go_ret
    exact FIN.out _ _ hw1 (by rw [HOR.out]; exact Parts.nil _ _ _)
end Go.Proofs.YtghocdiddolinaaGreatDoor

namespace Go.Proofs.YtghocdiddolinaaGreatDoor
set_option linter.unusedVariables false
set_option linter.unusedSimpArgs false
open Go.RowKit Go

variable {F : Fence} {n : Nat} {P : Program}

/-- What an iterator promises that hands over XS, one behind the other: its own steps are Did's; a round that goes on keeps what Kp says. -/
def Iters {α : Type} (F : Fence) (n : Nat) (P : Program) (g : Nat) (lb : Array Value) (encs : α → Array Value) (Did Kp : World → World → Prop) (XS : List α) (St : World → Prop) : Prop :=
  ∀ (l : Nat) (J Jx : List α → World → Prop) (W : World), St W → (∀ s X Y, J s X → Did X Y → J s Y) → (∀ s X Y, Jx s X → Did X Y → Jx s Y) →
    (∀ pre x W1, J pre W1 → pre ++ [x] <+: XS → YieldAt F (n - 1) P l (encs x) W1 fun e W' =>
      (e = .returned (.bool true) ∧ J (pre ++ [x]) W' ∧ Kp W1 W') ∨ (e = .returned (.bool false) ∧ Jx (pre ++ [x]) W')) →
    J [] W → CallsIn F n P g (#[.func (.yield l) #[] #[]] ++ lb) W fun e W' => (∃ v, e = .returned v) ∧ (J XS W' ∨ ∃ pre, Jx pre W')

/-- How the body of a round may be left. -/
def LeftBy {α : Type} (B : Nat) (Kp : World → World → Prop) (I : List α → World → Prop) (Ix : Code → World → Prop) (xs : List α) (W : World) : Exit → Act → World → Prop
  | .normal, _, W' => KeepsFrom B W W' ∧ Kp W W' ∧ I xs W'
  | .ret, _, W' => KeepsFrom B W W' ∧ Ix .ret W'
  | .exit id, _, W' => KeepsFrom B W W' ∧ Ix (.exit id) W'
  | .goto t, _, W' => KeepsFrom B W W' ∧ Ix (.goto t) W'
  | .panic _, _, _ => False
  | .outgrown, _, _ => False

/-- Where the loop's record (block B + 1) and the block of deferred calls (B) stand. -/
def Books (B : Nat) (r : Loop) (W : World) : Prop := W.heap[B + 1]? = some (.loop r) ∧ W.heap[B]? = some (.deferred (some []))
theorem Books.put {B : Nat} {r r' : Loop} {W : World} (h : Books B r W) : Books B r' (W.putObj (B + 1) (.loop r')) :=
  ⟨World.putObj_heap_same (Array.getElem?_eq_some_iff.1 h.1).1, (World.putObj_heap_other (by omega)).trans h.2⟩
theorem Books.from {B : Nat} {r : Loop} {W W' : World} (h : Books B r W) (k : KeepsFrom B W W') : Books B r W' :=
  ⟨k.same _ _ (by omega) h.1 rfl, k.same _ _ (Nat.le_refl _) h.2 rfl⟩

theorem range_own {α : Type} {g : Operand} {ps : Array Tmp} {assign body : Code} {Q : Exit → Act → World → Prop} {a : Act} {w : World}
    (hro : F.round = none) (h1 : 1 ≤ n) {gf : Nat} {lb : Array Value} (hg : a.eval g = .func (.func gf) #[] lb) (hFg : F.fn gf) (eg : ∀ args w, (callFunc gf args).run P w = .ok (.enter gf args) w)
    {encs : α → Array Value} {Did Kp : World → World → Prop} {XS : List α} {St : World → Prop} (hseq : Iters F (n - 1) P gf lb encs Did Kp XS St)
    (hst : ∀ W, Below w.heap.size w W → St W)
    (hKt : ∀ {A B C : World}, Kp A B → Kp B C → Kp A C) (hKb : ∀ (W : World) (l : Nat) (r r' : Loop), w.heap.size ≤ l → W.heap[l]? = some (.loop r) → Kp W (W.putObj l (.loop r')))
    (hDk : ∀ (A B : World), Did A B → ∀ (k : Nat) (o : Obj), A.heap[k]? = some o → o.isCells = false → o.isWalk = false → B.heap[k]? = some o)
    (hps : ∀ x, (encs x).size = ps.size)
    (I : List α → World → Prop) (Ix : Code → World → Prop) (hI : OwnFrom w.heap.size I) (hIx : ∀ c, OwnFrom w.heap.size (fun (_ : Unit) W => Ix c W))
    (hId : ∀ s X Y, w.heap.size ≤ X.heap.size → I s X → Did X Y → I s Y) (hIxd : ∀ c X Y, w.heap.size ≤ X.heap.size → Ix c X → Did X Y → Ix c Y)
    (h0 : I [] w) (a₁ : α → Act)
    (hassign : ∀ (l : Nat) (x : α) (W : World) (K : Act → World → Prop), K (a₁ x) W →
      assign.wpIn (F.inRound l) (n - 1 - 1) P (Exit.then K (fun _ _ _ => False)) { tmps := (ps.zip (encs x)).foldl (fun t (p, v) => t.setIfInBounds p v) a.tmps, defers := [] } W)
    (hbody : ∀ (l : Nat) (pre : List α) (x : α) (W : World), w.heap.size ≤ l → I pre W → pre ++ [x] <+: XS → body.wpIn (F.inRound l) (n - 1 - 1) P (LeftBy w.heap.size Kp I Ix (pre ++ [x]) W) (a₁ x) W)
    (hdone : ∀ (D : Nat) (W : World), w.heap.size ≤ D → I XS W → W.heap[D]? = some (.deferred (some [])) → Q .normal { a with defers := { target := .collected D, args := #[] } :: a.defers } W)
    (hstop : ∀ (D : Nat) (c : Code) (W : World), w.heap.size ≤ D → Ix c W → W.heap[D]? = some (.deferred (some [])) → c.wpIn F n P Q { a with defers := { target := .collected D, args := #[] } :: a.defers } W) :
    (Code.rangeFunc g ps assign body).wpIn F n P Q a w := by
  refine wpIn_rangeFunc fun fn hfn => ?_
  rw [hro]
  obtain ⟨rc, hrc⟩ : ∃ rc : LoopState → Option Code → Loop, rc = fun st pe => { state := st, pending := pe, fn, tmps := a.tmps, params := ps, assign, body, defers := w.heap.size } := ⟨_, rfl⟩
  have hnew : Books w.heap.size (rc .ready none) ((w.alloc (.deferred (some []))).alloc (.loop (rc .ready none))) :=
    ⟨by have := World.alloc_heap_new (w.alloc (.deferred (some []))) (.loop (rc .ready none)); rwa [World.size_alloc] at this, (Below.heap_alloc _ _ _ (by simp)).trans (World.alloc_heap_new w _)⟩
  have hI1 : I [] ((w.alloc (.deferred (some []))).alloc (.loop (rc .ready none))) := hI.alloc _ (hI.alloc _ h0)
  have hb1 : Below w.heap.size w ((w.alloc (.deferred (some []))).alloc (.loop (rc .ready none))) := ((Below.refl _ w).alloc (Nat.le_refl _) _).alloc (by simp) _
  have hen := run_enterLoop_outer (P := P) (w := w) fn a.tmps ps assign body
  rw [show ({ state := .ready, pending := none, fn, tmps := a.tmps, params := ps, assign, body, defers := w.heap.size } : Loop) = rc .ready none by rw [hrc]] at hen
  generalize (w.alloc (.deferred (some []))).alloc (.loop (rc .ready none)) = W1 at hnew hI1 hb1 hen
  refine ⟨w.heap.size + 1, [{ target := .collected w.heap.size, args := #[] }], W1, { target := .fn (.func gf) lb, args := #[.func (.yield (w.heap.size + 1)) #[] #[]] }, W1, gf,
    #[.func (.yield (w.heap.size + 1)) #[] #[]] ++ lb, W1, hen, ?_, ?_, ?_, fun _ => h1, ?_⟩
  · simp only [resolve, hg]
    simp [go_sem]
  · intro f' hf'; simp [Target.leads] at hf'; subst hf'; exact hFg
  · simp [invoke, go_sem, eg]
  have hdid : ∀ {r : Loop} {X Y : World}, Books w.heap.size r X → Did X Y → Books w.heap.size r Y := fun hb hd => ⟨hDk _ _ hd _ _ hb.1 rfl rfl, hDk _ _ hd _ _ hb.2 rfl rfl⟩
  have hsz : ∀ {r : Loop} {X : World}, Books w.heap.size r X → w.heap.size ≤ X.heap.size := fun hb => by have := (Array.getElem?_eq_some_iff.1 hb.2).1; omega
  refine (hseq (w.heap.size + 1) (fun pre W => I pre W ∧ Books w.heap.size (rc .ready none) W) (fun _ W => ∃ c, Ix c W ∧ Books w.heap.size (rc .done (some c)) W) W1 (hst _ hb1)
    (fun s X Y h hd => ⟨hId s X Y (hsz h.2) h.1 hd, hdid h.2 hd⟩) (fun s X Y ⟨c, h, hb⟩ hd => ⟨c, hIxd c X Y (hsz hb) h hd, hdid hb hd⟩) ?_ ⟨hI1, hnew⟩).mono ?_
  · rintro pre x W ⟨hi, hbk⟩ hpre
    have hy := run_yield (P := P) (args := encs x) hbk.1 (by rw [hrc]; exact hps x)
    rw [hrc] at hy
    refine ⟨fn, _, assign, body, hy, roundIn_of_wpIn hfn (hassign _ x W _ ⟨_, run_beginRound hbk.1 (by rw [hrc]), ?_⟩)⟩
    clear hy
    have hbk2 : Books w.heap.size { rc .ready none with state := .busy } (W.putObj (w.heap.size + 1) (.loop { rc .ready none with state := .busy })) := hbk.put
    have hk2 := hKb W (w.heap.size + 1) (rc .ready none) { rc .ready none with state := .busy } (Nat.le_succ _) hbk.1
    have hi2 := hI.putObj (.loop { rc .ready none with state := .busy }) hi (Nat.le_succ _) hbk.1 rfl
    generalize W.putObj (w.heap.size + 1) (.loop { rc .ready none with state := .busy }) = W2 at hbk2 hk2 hi2
    have fin : ∀ (jump : Option Code) (W3 : World), KeepsFrom w.heap.size W2 W3 → ∃ r3 : Loop, W3.heap[w.heap.size + 1]? = some (.loop r3) ∧
        (Instr.endRound (w.heap.size + 1) jump).run P W3 = .ok (.bool jump.isNone) (W3.putObj (w.heap.size + 1) (.loop (rc (if jump.isNone then .ready else .done) jump))) ∧
        Books w.heap.size (rc (if jump.isNone then .ready else .done) jump) (W3.putObj (w.heap.size + 1) (.loop (rc (if jump.isNone then .ready else .done) jump))) := fun jump W3 hk => by
      have hb3 := hbk2.from hk
      have hr := run_endRound (P := P) jump hb3.1
      exact ⟨_, hb3.1, by rw [hrc] at hr ⊢; exact hr, hb3.put⟩
    refine wpIn_mono (hbody _ pre x W2 (Nat.le_succ _) hi2 hpre) ?_
    rintro e a3 W3 hp
    cases e with
    | normal =>
      obtain ⟨hk3, hkp3, hi3⟩ := hp
      obtain ⟨r3, hl3, hr, hb4⟩ := fin none W3 hk3
      exact ⟨_, _, hr, .inl ⟨rfl, ⟨hI.putObj _ hi3 (Nat.le_succ _) hl3 rfl, hb4⟩, hKt (hKt hk2 hkp3) (hKb _ _ _ _ (Nat.le_succ _) hl3)⟩⟩
    | ret =>
      obtain ⟨hk3, hi3⟩ := hp
      obtain ⟨r3, hl3, hr, hb4⟩ := fin (some .ret) W3 hk3
      exact ⟨_, _, hr, .inr ⟨rfl, .ret, (hIx _).putObj (s := ()) _ hi3 (Nat.le_succ _) hl3 rfl, hb4⟩⟩
    | exit id =>
      obtain ⟨hk3, hi3⟩ := hp
      obtain ⟨r3, hl3, hr, hb4⟩ := fin (some (.exit id)) W3 hk3
      exact ⟨_, _, hr, .inr ⟨rfl, .exit id, (hIx _).putObj (s := ()) _ hi3 (Nat.le_succ _) hl3 rfl, hb4⟩⟩
    | goto t =>
      obtain ⟨hk3, hi3⟩ := hp
      obtain ⟨r3, hl3, hr, hb4⟩ := fin (some (.goto t)) W3 hk3
      exact ⟨_, _, hr, .inr ⟨rfl, .goto t, (hIx _).putObj (s := ()) _ hi3 (Nat.le_succ _) hl3 rfl, hb4⟩⟩
    | panic ch => exact hp.elim
    | outgrown => exact hp.elim
  · rintro e W2 ⟨⟨v, rfl⟩, (⟨hi, hb⟩ | ⟨_, c, hi, hb⟩)⟩
    · exact ⟨none, _, by have := run_endLoop (P := P) hb.1 (by rw [hrc]; simp); rw [hrc] at this; exact this, hdone _ _ (Nat.le_refl _) (hI.putObj _ hi (Nat.le_succ _) hb.1 rfl) ((World.putObj_heap_other (by omega)).trans hb.2)⟩
    · exact ⟨some c, _, by have := run_endLoop (P := P) hb.1 (by rw [hrc]; simp); rw [hrc] at this; exact this, hstop _ c _ (Nat.le_refl _) ((hIx c).putObj (s := ()) _ hi (Nat.le_succ _) hb.1 rfl) ((World.putObj_heap_other (by omega)).trans hb.2)⟩
end Go.Proofs.YtghocdiddolinaaGreatDoor
