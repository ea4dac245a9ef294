/- Helpers for the reading of a rule: numbers that are written are read back; where the reading stands. -/
import Derived.Test.YtkemfifkjaclhaaGreatDoorJ25
import Derived.Test.YtkemfifkjaclhaaGreatDoorJ17
import Derived.Test.YtkemfifkjaclhaaGreatDoorJ14
import Derived.Deep.AppendLies
import Derived.Deep.RegionLaw
namespace Go.Proofs.YtkemfifkjaclhaaGreatDoor
set_option linter.unusedVariables false
set_option linter.unusedSimpArgs false
open Go.RowKit Go

theorem Holds.grown {w w' : World} {N R : Nat} {t : TypeId} {cur : Array Value} (h : Holds w N t cur) (hg : w.grownBy w' (some R)) (hne : N ≠ R) : Holds w' N t cur := by
  have hl := h.lt
  unfold Holds at h ⊢
  rw [hg.block N hl (by simpa using hne)]; exact h
theorem Holds.else {w : World} {N R : Nat} {t : TypeId} {cur : Array Value} (h : Holds w N t cur) (i : Nat) (u : Value) (hne : N ≠ R) : Holds (w.setCell ⟨R, i, none⟩ u) N t cur := h.grown (grown_set _ _ _ _) hne
theorem below_grown {B : Nat} {a w w' : World} {R : Nat} (h : Below B a w) (hg : w.grownBy w' (some R)) (hB : B ≤ w.heap.size) (hR : B ≤ R) : Below B a w' := h.trans ((Below.refl B w).grown hg hB (fun k hk => by cases hk; exact hR))
/-- Where the reading stands: the answer's block, the rule's (cur), the words that are left (rv). -/
structure St (w : World) (E R : Nat) (cur : Array Value) (rv : Value) (f : Bool) (wx : World) : Prop where
  res : Holds wx w.heap.size 50 #[.int .i64 0, .int .i64 0, .int .i64 0, .int .i64 0, .slice none 0 0]
  ent : Holds wx E 50 cur
  rest : Rest wx R rv f
  bel : Below w.heap.size w wx
  lt1 : w.heap.size < E
  lt2 : E < R
theorem St.grown {w : World} {E R : Nat} {cur : Array Value} {rv rv' : Value} {f f' : Bool} {wx w' : World} (h : St w E R cur rv f wx) (hg : wx.grownBy w' (some R)) (hr : Rest w' R rv' f') : St w E R cur rv' f' w' :=
  ⟨h.res.grown hg (by have := h.lt1; have := h.lt2; omega), h.ent.grown hg (by have := h.lt2; omega), hr, below_grown h.bel hg h.bel.size (by have := h.lt1; have := h.lt2; omega), h.lt1, h.lt2⟩
theorem St.set {w : World} {E R : Nat} {cur : Array Value} {rv : Value} {f : Bool} {wx : World} (h : St w E R cur rv f wx) (i : Nat) (u : Value) : St w E R (cur.setIfInBounds i u) rv f (wx.setCell ⟨E, i, none⟩ u) :=
  ⟨h.res.else i u (by have := h.lt1; omega), h.ent.set i u, Holds.else h.rest i u (by have := h.lt2; omega), h.bel.setCell (p := ⟨E, i, none⟩) (by have := h.lt1; simp only; omega) u, h.lt1, h.lt2⟩

theorem St.kept {w : World} {E R : Nat} {cur : Array Value} {rv : Value} {f : Bool} {wx w' : World} {row : Option Nat} (h : St w E R cur rv f wx) (hg : wx.grownBy w' row) (hrow : ∀ k, row = some k → R < k) : St w E R cur rv f w' := by
  have h1 := h.lt1
  have h2 := h.lt2
  have one : ∀ {N : Nat} {t : TypeId} {c : Array Value}, Holds wx N t c → N ≤ R → Holds w' N t c := fun hh hN => by
    have hl := hh.lt
    unfold Holds at hh ⊢
    rw [hg.block _ hl (fun e => by have := hrow _ e.symm; omega)]; exact hh
  exact ⟨one h.res (by omega), one h.ent (by omega), one h.rest (Nat.le_refl _), h.bel.trans ((Below.refl _ wx).grown hg h.bel.size (fun k hk => by have := hrow k hk; omega)), h1, h2⟩

theorem tail_size {rs : List ByteArray} (h : ∀ y ∈ rs, y.size ≤ 16777216) : ∀ y ∈ rs.tail, y.size ≤ 16777216 := fun y hy => h y (List.mem_of_mem_tail hy)
theorem numA_wf {ws : List ByteArray} {z : Int} (h : numA ws = some z) : (Lit.int .i64 z).wf = true := by
  cases ws with
  | nil => cases h
  | cons x t => exact atoiO_wf h
/-- How long the words that are left are. -/
def left (R : Nat) (w : World) : Nat := match w.cell? ⟨R, 0, none⟩ with
  | some (.slice _ n _) => n
  | _ => 0
theorem news1 {w : World} {b : Nat} {x : Value} {t : TypeId} (h : w.heap[b]? = some (.cells #[x] t (0, 0))) : ∀ j u, [x][j]? = some u → w.cell? ((⟨b, 0, none⟩ : Addr).add j) = some u := by
  intro j u hj
  rw [Addr.add_lit, Nat.zero_add, cell_of_row _ _ _ _ _ _ h]
  simpa using hj
theorem own_alloc' {w : World} {base : Nat} {e : TypeId} {size : Nat} {v : Value} {n : Nat} {xs : List Value} (h : w.ownsRow base e size v n xs) (o : Obj) : (w.alloc o).ownsRow base e size v n xs := own_below h ((Below.refl _ _).alloc (Nat.le_refl _) _)
theorem own_grown {w w' : World} {R base : Nat} {e : TypeId} {size : Nat} {v : Value} {n : Nat} {xs : List Value} (h : w.ownsRow base e size v n xs) (hg : w.grownBy w' (some R)) (hR : R < base) : w'.ownsRow base e size v n xs := by
  refine h.kept hg ?_
  cases hv : v.ownBlock with
  | none => exact .inl rfl
  | some k =>
    refine .inr fun e => ?_
    have := (h.lt k hv).1
    simp at e
    omega
theorem own_set5 {w : World} {N base : Nat} {e : TypeId} {size : Nat} {v : Value} {n : Nat} {xs : List Value} (h : w.ownsRow base e size v n xs) (hN : N < base) (o : Nat) (v0 v1 v2 v3 v4 : Value) :
    (((((w.setCell ⟨N, o, none⟩ v0).setCell ⟨N, o + 1, none⟩ v1).setCell ⟨N, o + 2, none⟩ v2).setCell ⟨N, o + 3, none⟩ v3).setCell ⟨N, o + 4, none⟩ v4).ownsRow base e size v n xs :=
  own_grown (own_grown (own_grown (own_grown (own_grown h (grown_set w N o v0) hN) (grown_set _ N _ v1) hN) (grown_set _ N _ v2) hN) (grown_set _ N _ v3) hN) (grown_set _ N _ v4) hN
theorem own_drew {w : World} {base : Nat} {e : TypeId} {size : Nat} {v : Value} {n : Nat} {xs : List Value} (h : w.ownsRow base e size v n xs) : w.drew.ownsRow base e size v n xs := h
theorem own_slice {w : World} {base : Nat} {e : TypeId} {v : Value} {n : Nat} {xs : List Value} (h : w.ownsRow base e 1 v n xs) : ∃ a c, v = .slice a n c := by
  rcases h.2 with ⟨rfl, rfl⟩ | ⟨g, cap, cur, rfl, _⟩
  · exact ⟨none, 0, rfl⟩
  · exact ⟨_, _, rfl⟩
/-- A function of one argument is called, as one step of a region that draws. -/
theorem step_call {P : Program} {ops : Array Oper} {o : Oper} {a : Act} {K : Act → World → Prop} {Q : Exit → Act → World → Prop} {E : Prop} {w : World} {f : Nat} {R : Ending → World → Prop} {v : Value} (hc : Calls P f #[v] w R) (hR : ∀ e w', R e w' → ∃ r, e = .returned r) (en : ∀ args w, (callFunc f args).run P w = .ok (.enter f args) w) (hgd : o.guard = none) (s : Operand) (tys : Array TypeId)
    (ho : o.op = .call { callee := .value (.func f), args := #[s], argTypes := tys }) (hs : a.eval s = v) (h : ∀ r w', R (.returned r) w' → K (a.put o.dst r) w') :
    if Region.wanted o (yielded ops a.tmps) = true then Oper.wp P o a w K Q else E := by
  have hw : Region.wanted o (yielded ops a.tmps) = true := by simp [Region.wanted, hgd]
  rw [if_pos hw]
  have hx : (execOp a.eval o).run P w = .ok (.enter f #[v]) w := by
    unfold execOp
    have hs' := hs
    simp only [Act.eval] at hs'
    simp [ho, resolve, invoke, go_sem, en]
    first | exact hs' | (rw [← hs]; cases s <;> rfl) | (rw [← hs]; cases s <;> simp [Act.eval])
  unfold Oper.wp
  rw [hx, Oper.upon_enter]
  refine hc.mono fun e w' hr => ?_
  obtain ⟨r, rfl⟩ := hR e w' hr
  exact h r w' hr
/-- One number is appended, as one step of a region that draws. -/
theorem step_app1 {ops : Array Oper} {o : Oper} {a : Act} {K : Act → World → Prop} {Q : Exit → Act → World → Prop} {E : Prop} {w3 : World} {F : Nat} {v : Value} {n : Nat} {xs : List Int} {z : Int} (hown : w3.ownsRow F 3 1 v n (xs.map (Value.int .i64))) (hF : F ≤ w3.heap.size) (hn : n ≤ 100000000) (hgd : o.guard = none) (s t : Operand)
    (ho : o.op = .call { callee := .builtin .append, args := #[s, t], argTypes := #[48, 48] }) (hs : a.eval s = v) (ht : a.eval t = .slice (some ⟨w3.heap.size, 0, none⟩) 1 1)
    (h : ∀ g cap w', w'.ownsRow F 3 1 (.slice (some ⟨g, 0, none⟩) (n + 1) cap) (n + 1) ((xs ++ [z]).map (Value.int .i64)) → (w3.alloc (.cells #[.int .i64 z] 3)).grownBy w' v.ownBlock → K (a.put o.dst (.slice (some ⟨g, 0, none⟩) (n + 1) cap)) w') :
    if Region.wanted o (yielded ops a.tmps) = true then Oper.wp Tryz.prog o a (w3.alloc (.cells #[.int .i64 z] 3)) K Q else E := by
  obtain ⟨i0, hi0, hzz⟩ := Option.map_eq_some_iff.1 Tryz.infoI
  simp only [Prod.mk.injEq] at hzz
  obtain ⟨hz0, hz1, hz2⟩ := hzz
  refine step_append_lies _ hgd s t 48 ho F 3 i0 _ 1 8 Tryz.underlying48 hi0 hz0 hz1 hz2 rfl (by omega) v n (xs.map (Value.int .i64)) hs (own_alloc' hown _) ⟨w3.heap.size, 0, none⟩ 1 1 [.int .i64 z] ht rfl (news1 (heap_alloc_new w3 _)) (by simp [Value.oneCell']) (by omega) (by unfold maxLen; omega) (by omega) (by simp; omega) _ rfl ?_
  intro g cap w' h1 h2 _ _
  exact h g cap w' (by rw [List.map_append]; exact h1) h2

theorem St.below {w : World} {E R : Nat} {cur : Array Value} {rv : Value} {f : Bool} {wx w' : World} (h : St w E R cur rv f wx) (hb : Below wx.heap.size wx w') : St w E R cur rv f w' :=
  ⟨Holds.below h.res hb, Holds.below h.ent hb, Holds.below h.rest hb, h.bel.trans (hb.mono h.bel.size), h.lt1, h.lt2⟩
theorem St.cells6 {w : World} {E R : Nat} {z0 z1 z2 z3 : Int} {v rv : Value} {f : Bool} {wx : World} (h : St w E R #[.int .i64 z0, .int .i64 z1, .int .i64 z2, .int .i64 z3, v] rv f wx) : wx.cell? ⟨E, 0, none⟩ = some (.int .i64 z0) ∧ wx.cell? ⟨E, 1, none⟩ = some (.int .i64 z1) ∧ wx.cell? ⟨E, 2, none⟩ = some (.int .i64 z2) ∧ wx.cell? ⟨E, 3, none⟩ = some (.int .i64 z3) ∧ wx.cell? ⟨E, 4, none⟩ = some v ∧ wx.cell? ⟨R, 1, none⟩ = some (.bool f) :=
  ⟨by have := h.ent.cell 0; simpa using this, by have := h.ent.cell 1; simpa using this, by have := h.ent.cell 2; simpa using this, by have := h.ent.cell 3; simpa using this, by have := h.ent.cell 4; simpa using this, by have := Holds.cell h.rest 1; simpa using this⟩
theorem St.cells6set {wx : World} {N E R : Nat} {v0 v1 v2 v3 v4 v5 : Value} {u0 u1 u2 u3 u4 : Value} (h : wx.cell? ⟨E, 0, none⟩ = some v0 ∧ wx.cell? ⟨E, 1, none⟩ = some v1 ∧ wx.cell? ⟨E, 2, none⟩ = some v2 ∧ wx.cell? ⟨E, 3, none⟩ = some v3 ∧ wx.cell? ⟨E, 4, none⟩ = some v4 ∧ wx.cell? ⟨R, 1, none⟩ = some v5) (hE : N ≠ E) (hR : N ≠ R) :
    let wy := ((((wx.setCell ⟨N, 0, none⟩ u0).setCell ⟨N, 1, none⟩ u1).setCell ⟨N, 2, none⟩ u2).setCell ⟨N, 3, none⟩ u3).setCell ⟨N, 4, none⟩ u4
    wy.cell? ⟨E, 0, none⟩ = some v0 ∧ wy.cell? ⟨E, 1, none⟩ = some v1 ∧ wy.cell? ⟨E, 2, none⟩ = some v2 ∧ wy.cell? ⟨E, 3, none⟩ = some v3 ∧ wy.cell? ⟨E, 4, none⟩ = some v4 ∧ wy.cell? ⟨R, 1, none⟩ = some v5 := by
  have one : ∀ {b j i : Nat} {u : Value} (x : World), N ≠ b → (x.setCell ⟨N, i, none⟩ u).cell? ⟨b, j, none⟩ = x.cell? ⟨b, j, none⟩ := fun {b j i u} x hb => by
    simp only [World.cell?, Below.heap_setCell x ⟨N, i, none⟩ u b (fun e => hb e.symm)]
  intro wy
  refine ⟨?_, ?_, ?_, ?_, ?_, ?_⟩ <;> simp only [wy, one _ hE, one _ hR, h]

namespace Cal

theorem parseUint10_app : ∀ (a b : List UInt8) (acc v : Nat), Lib.parseUint10 acc a = .ok v → Lib.parseUint10 acc (a ++ b) = Lib.parseUint10 v b := by
  intro a
  induction a with
  | nil => intro b acc v h; simp [Lib.parseUint10] at h; subst h; rfl
  | cons c a ih =>
    intro b acc v h
    rw [List.cons_append, Lib.parseUint10]
    rw [Lib.parseUint10] at h
    split
    · rename_i h1
      rw [if_pos h1] at h
      split
      · rename_i h2; rw [if_pos h2] at h; cases h
      · rename_i h2
        rw [if_neg h2] at h
        split
        · rename_i h3; rw [if_pos h3] at h; cases h
        · rename_i h3; rw [if_neg h3] at h; exact ih b _ v h
    · rename_i h1; rw [if_neg h1] at h; cases h
theorem parse_digit (acc d : Nat) (hd : d < 10) (ha : acc < 1000000) : Lib.parseUint10 acc [UInt8.ofNat (48 + d)] = .ok (acc * 10 + d) := by
  have h1 : ∀ d : Nat, d < 10 → (UInt8.ofNat (48 + d)).toNat = 48 + d := by decide
  rw [Lib.parseUint10, if_pos (by rw [h1 d hd]; omega), if_neg (by omega), if_neg (by rw [h1 d hd]; omega), Lib.parseUint10, h1 d hd]
  congr 1; omega
theorem parse_dec (u : Nat) (hu : u < 1000000) : Lib.parseUint10 0 (Lib.decDigits u) = .ok u := by
  induction u using Nat.strongRecOn with
  | _ u ih =>
    rw [Lib.decDigits]
    split
    · rename_i h; rw [parse_digit 0 u h (by omega)]; congr 1; omega
    · rw [parseUint10_app _ _ 0 (u / 10) (ih (u / 10) (by omega) (by omega)), parse_digit (u / 10) (u % 10) (by omega) (by omega)]; congr 1; omega
theorem parseMag_dec (u : Nat) (hu : u < 1000000) : Lib.parseMag (Lib.decDigits u) = .ok u := by
  have h := parse_dec u hu
  have hl := dec_len u
  unfold Lib.parseMag
  cases hx : Lib.decDigits u with
  | nil => rw [hx] at hl; simp at hl
  | cons c l => rw [hx] at h; simpa using h
theorem atoi_own (n : Int) (h0 : 0 ≤ n) (h1 : n ≤ 999999) : atoiO (itoB n) = some n := by
  have e : (itoB n).data.toList = Lib.itoa n := by simp [itoB]
  have key : Lib.atoiAll (Lib.itoa n) = .ok n := by
    obtain ⟨u, rfl⟩ : ∃ u : Nat, n = (u : Int) := ⟨n.toNat, by omega⟩
    have e2 : Lib.itoa (u : Int) = Lib.decDigits u := by unfold Lib.itoa; rw [if_neg (by omega)]; simp
    rw [e2]
    have hm := parseMag_dec u (by omega)
    have hd := dec_dig u
    have hl := dec_len u
    cases hx : Lib.decDigits u with
    | nil => rw [hx] at hl; simp at hl
    | cons c l =>
      rw [hx] at hm hd
      have hc := hd c (by simp)
      have hcb : 48 ≤ c.toNat ∧ c.toNat ≤ 57 := by simpa [isDig] using hc
      have n1 : ¬ (c.toNat = 43 ∨ c.toNat = 45) := by omega
      have n2 : ¬ c.toNat = 45 := by omega
      show (match Lib.parseMag (if c.toNat = 43 ∨ c.toNat = 45 then l else c :: l) with | .syntax => _ | .range => _ | .ok u => _) = _
      rw [if_neg n1, hm]
      simp [n2]
      omega
  unfold atoiO
  rw [e, key]

/-- The world, cut off behind its first blocks. -/
def cutW (w : World) (R : Nat) : World := { w with heap := w.heap.extract 0 R }
theorem cut_size {w : World} {R : Nat} (h : R ≤ w.heap.size) : (cutW w R).heap.size = R := by simp [cutW]; omega
theorem cut_heap (w : World) {R k : Nat} (h : k < R) : (cutW w R).heap[k]? = w.heap[k]? := by
  unfold cutW
  by_cases hk : k < w.heap.size
  · rw [Array.getElem?_extract, if_pos (by omega), Nat.zero_add]
  · rw [Array.getElem?_eq_none (by simp; omega), Array.getElem?_eq_none (by omega)]
theorem cut_cell (w : World) {R b j : Nat} (h : b < R) : (cutW w R).cell? ⟨b, j, none⟩ = w.cell? ⟨b, j, none⟩ := by
  simp only [World.cell?, cut_heap w h]
theorem cut_below {w : World} {R : Nat} (h : R ≤ w.heap.size) : Below (cutW w R).heap.size (cutW w R) w :=
  ⟨rfl, rfl, rfl, by rw [cut_size h]; exact h, fun k hk => (cut_heap w (by rw [cut_size h] at hk; exact hk)).symm⟩
/-- A row of strings in the first blocks stands, where what turned there holds none. -/
theorem rowC {w w' : World} {R : Nat} {v : Value} {xs : List ByteArray} (h : Row (cutW w R) v (sv xs)) (hR : R ≤ w.heap.size) (hR' : R ≤ w'.heap.size) (hs : ∀ k, k < R → (∀ j s, w.cell? ⟨k, j, none⟩ ≠ some (.string s)) ∨ w'.heap[k]? = w.heap[k]?) : Row (cutW w' R) v (sv xs) := by
  rcases h with h | ⟨b, off, cap, h1, h2, h3, h4, h5⟩
  · exact .inl h
  · rw [cut_size hR] at h4
    refine .inr ⟨b, off, cap, h1, h2, h3, by rw [cut_size hR']; exact h4, fun i x hx => ?_⟩
    have hc := h5 i x hx
    rw [cut_cell w h4] at hc
    have hst : ∃ s, x = .string s := by
      unfold sv at hx; rw [List.getElem?_map] at hx
      cases hy : xs[i]? with
      | none => rw [hy] at hx; cases hx
      | some y => rw [hy] at hx; exact ⟨y, (Option.some.inj hx).symm⟩
    obtain ⟨s, rfl⟩ := hst
    rw [cut_cell w' h4, ← hc]
    rcases hs b h4 with hno | hb
    · exact absurd hc (hno _ _)
    · simp only [World.cell?, hb]
theorem rowC_grown {w w' : World} {R : Nat} {v : Value} {xs : List ByteArray} {row : Option Nat} (h : Row (cutW w R) v (sv xs)) (hR : R ≤ w.heap.size) (hg : w.grownBy w' row) (hrow : ∀ k, row = some k → R ≤ k) : Row (cutW w' R) v (sv xs) :=
  rowC h hR (Nat.le_trans hR hg.size) (fun k hk => .inr (hg.block k (by omega) (fun e => by have := hrow k e.symm; omega)))
theorem rowC_set {w : World} {R E i : Nat} {v u : Value} {xs : List ByteArray} (h : Row (cutW w R) v (sv xs)) (hR : R ≤ w.heap.size) (hno : ∀ j s, w.cell? ⟨E, j, none⟩ ≠ some (.string s)) : Row (cutW (w.setCell ⟨E, i, none⟩ u) R) v (sv xs) :=
  rowC h hR (by simp; exact hR) (fun k _ => by
    by_cases e : k = E
    · subst e; exact .inl hno
    · exact .inr (Below.heap_setCell w ⟨E, i, none⟩ u k e))
theorem rowC_of {w : World} {R : Nat} {v : Value} {xs : List ByteArray} (h : Row w v (sv xs)) (hR : R = w.heap.size) : Row (cutW w R) v (sv xs) := by
  have e : cutW w R = w := by subst hR; unfold cutW; rw [Array.extract_size]
  rw [e]; exact h
theorem rul_noS {w : World} {E : Nat} {z0 z1 z2 z3 : Int} {a : Option Addr} {n c : Nat} (h : Holds w E 50 #[.int .i64 z0, .int .i64 z1, .int .i64 z2, .int .i64 z3, .slice a n c]) : ∀ j s, w.cell? ⟨E, j, none⟩ ≠ some (.string s) := fun j s => by
  rw [Holds.cell h j]
  match j with
  | 0 => simp
  | 1 => simp
  | 2 => simp
  | 3 => simp
  | 4 => simp
  | j + 5 => simp
/-- The words of a rule. -/
def wordsR (r : Rul) : List ByteArray := evB :: rwW r
theorem bys_words (r : Rul) : bys (wordsR r) = rulWs r := by
  unfold wordsR rwW rulWs headW butWs bys numS
  split
  · rename_i h; rw [h]; rfl
  · simp; exact ⟨rfl, rfl, rfl, rfl, rfl, rfl, rfl, rfl, rfl, fun a _ => rfl⟩
end Cal
end Go.Proofs.YtkemfifkjaclhaaGreatDoor
