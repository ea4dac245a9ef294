/- The program's reading of an entry. -/
import Derived.Test.YtbngjpnbjknliaaGreatDoorJ9
import Derived.Test.YtbngjpnbjknliaaGreatDoorJ14
import Derived.Deep.CutBlock
import Derived.Deep.DeepCutAuto
import Derived.Deep.LoopGhost
import Derived.Deep.RegionHeld3
import Derived.Deep.AppendLies
import Derived.Deep.RegionLaw
import Derived.BigGuard
import Derived.BigRegion
namespace Go.Proofs.YtbngjpnbjknliaaGreatDoor
set_option linter.unusedVariables false
set_option linter.unusedSimpArgs false
open Go.RowKit Go

theorem Holds.grown {w w' : World} {N R : Nat} {t : TypeId} {cur : Array Value} (h : Holds w N t cur) (hg : w.grownBy w' (some R)) (hne : N ≠ R) : Holds w' N t cur := by
  have hl := h.lt
  unfold Holds at h ⊢
  rw [hg.block N hl (by simpa using hne)]; exact h
theorem Holds.else {w : World} {N R : Nat} {t : TypeId} {cur : Array Value} (h : Holds w N t cur) (i : Nat) (u : Value) (hne : N ≠ R) : Holds (w.setCell ⟨R, i, none⟩ u) N t cur := h.grown (grown_set _ _ _ _) hne
theorem below_grown {B : Nat} {a w w' : World} {R : Nat} (h : Below B a w) (hg : w.grownBy w' (some R)) (hB : B ≤ w.heap.size) (hR : B ≤ R) : Below B a w' := h.trans ((Below.refl B w).grown hg hB (fun k hk => by cases hk; exact hR))

/-- Where the reading stands: the answer's block, the entry's (cur), the words that are left (rv). -/
structure St (w : World) (E R : Nat) (cur : Array Value) (rv : Value) (f : Bool) (wx : World) : Prop where
  res : Holds wx w.heap.size 32 #[.int .i64 0, .int .i64 0, .string ⟨#[]⟩, .string ⟨#[]⟩, .slice none 0 0]
  ent : Holds wx E 32 cur
  rest : Rest wx R rv f
  bel : Below w.heap.size w wx
  lt1 : w.heap.size < E
  lt2 : E < R
theorem St.grown {w : World} {E R : Nat} {cur : Array Value} {rv rv' : Value} {f f' : Bool} {wx w' : World} (h : St w E R cur rv f wx) (hg : wx.grownBy w' (some R)) (hr : Rest w' R rv' f') : St w E R cur rv' f' w' :=
  ⟨h.res.grown hg (by have := h.lt1; have := h.lt2; omega), h.ent.grown hg (by have := h.lt2; omega), hr, below_grown h.bel hg h.bel.size (by have := h.lt1; have := h.lt2; omega), h.lt1, h.lt2⟩
theorem St.set {w : World} {E R : Nat} {cur : Array Value} {rv : Value} {f : Bool} {wx : World} (h : St w E R cur rv f wx) (i : Nat) (u : Value) : St w E R (cur.setIfInBounds i u) rv f (wx.setCell ⟨E, i, none⟩ u) :=
  ⟨h.res.else i u (by have := h.lt1; omega), h.ent.set i u, Holds.else h.rest i u (by have := h.lt2; omega), h.bel.setCell (p := ⟨E, i, none⟩) (by have := h.lt1; simp only; omega) u, h.lt1, h.lt2⟩

theorem St.kept {w : World} {E R : Nat} {cur : Array Value} {rv : Value} {f : Bool} {wx w' : World} {row : Option Nat} (h : St w E R cur rv f wx) (hg : wx.grownBy w' row) (hrow : ∀ k, row = some k → R < k) : St w E R cur rv f w' := by
  have h1 := h.lt1
  have h2 := h.lt2
  have one : ∀ {N : Nat} {t : TypeId} {c : Array Value}, Holds wx N t c → N ≤ R → Holds w' N t c := fun hh hN => by
    have hl := hh.lt
    unfold Holds at hh ⊢
    rw [hg.block _ hl (fun e => by have := hrow _ e.symm; omega)]; exact hh
  exact ⟨one h.res (by omega), one h.ent (by omega), one h.rest (Nat.le_refl _), h.bel.trans ((Below.refl _ wx).grown hg h.bel.size (fun k hk => by have := hrow k hk; omega)), h1, h2⟩

/-- What readEntry answers: an entry whose numbers lie in a row of their own, just if the words are read as it. -/
def ReadPost (all : List ByteArray) (w : World) (e : Ending) (w' : World) : Prop :=
  ∃ (k id : Int) (key name : ByteArray) (a : Option Addr) (n c : Nat) (ok : Bool), e = .returned (.tuple #[.agg #[.int .i64 k, .int .i64 id, .string key, .string name, .slice a n c], .bool ok]) ∧ Below w.heap.size w w' ∧
    (ok = true → ∃ nums : List Int, readP all = some ⟨k, id, key, name, nums⟩ ∧ w'.ownsRow w.heap.size 3 1 (.slice a n c) nums.length (nums.map (Value.int .i64)) ∧
      key.size ≤ 16777216 ∧ name.size ≤ 16777216 ∧ (Lit.int .i64 k).wf = true ∧ (Lit.int .i64 id).wf = true ∧ ∀ z ∈ nums, (Lit.int .i64 z).wf = true) ∧
    (ok = false → readP all = none)

theorem idxFromS_bd (x : ByteArray) : ∀ (zs : List ByteArray) (i : Nat), Lib.idxFromS zs x i = -1 ∨ ((i : Int) ≤ Lib.idxFromS zs x i ∧ Lib.idxFromS zs x i < (i : Int) + zs.length) := by
  intro zs
  induction zs with
  | nil => intro i; exact .inl rfl
  | cons z zs ih =>
    intro i
    rw [Lib.idxFromS]
    split
    · right; simp; omega
    · rcases ih (i + 1) with h | h
      · exact .inl h
      · right; simp at h ⊢; omega
theorem kindA_bd (x : ByteArray) : -1 ≤ kindA x ∧ kindA x ≤ 9 := by
  have h := idxFromS_bd x entW 0
  have e : entW.length = 10 := rfl
  unfold kindA Lib.idxOfS
  rw [e] at h
  omega
theorem bB_beq (a b : ByteArray) : bB a = bB b ↔ (a.toList == b.toList) = true := by
  rw [eqS_iff]
  constructor
  · intro h; cases a; cases b; simpa [bB] using h
  · rintro rfl; rfl

/-- What is read so far is good. -/
def Good (id : Int) (key name : ByteArray) : Prop := (Lit.int .i64 id).wf = true ∧ key.size ≤ 16777216 ∧ name.size ≤ 16777216
theorem wf_zero : (Lit.int .i64 0).wf = true := by decide
theorem mid_word {x n : ByteArray} {rs : List ByteArray} {f : Bool} {k : Int} (hk : kindA x = k) (h2 : k = 2 ∨ k = 7) (hf : (f = false ∧ rs = n :: rs.tail) ∨ (f = true ∧ rs = [])) : Mid (x :: rs) k 0 eZ n [] rs.tail f := by
  unfold Mid
  rcases hf with ⟨rfl, h⟩ | ⟨rfl, rfl⟩
  · rw [h]
    simp only [readP, hk, if_pos h2, List.tail_cons]
    rfl
  · simp only [readP, hk, if_pos h2]
    rfl
theorem mid_num {x : ByteArray} {rs : List ByteArray} {f : Bool} {k z : Int} (hk : kindA x = k) (h4 : k = 4 ∨ k = 5 ∨ k = 6 ∨ k = 9) (hf : (f = false ∧ numA rs = some z) ∨ (f = true ∧ numA rs = none)) : Mid (x :: rs) k z eZ eZ [] rs.tail f := by
  unfold Mid
  have n2 : ¬ (k = 2 ∨ k = 7) := by omega
  have n3 : ¬ k = 3 := by omega
  cases rs with
  | nil =>
    rcases hf with ⟨rfl, h⟩ | ⟨rfl, _⟩
    · cases h
    · simp only [readP, hk, if_neg n2, if_neg n3, if_pos h4]; rfl
  | cons i t =>
    simp only [readP, hk, if_neg n2, if_neg n3, if_pos h4, List.tail_cons]
    rcases hf with ⟨rfl, h⟩ | ⟨rfl, h⟩
    · simp only [numA] at h; rw [h]; rfl
    · simp only [numA] at h; rw [h]; rfl
theorem mid_ask {x y n : ByteArray} {rs ws1 ws2 : List ByteArray} {f1 f2 f3 : Bool} {z : Int} (hk : kindA x = 3) (e1 : ws1 = rs.tail) (e2 : ws2 = ws1.tail)
    (h1 : (f1 = false ∧ numA rs = some z) ∨ (f1 = true ∧ numA rs = none)) (h2 : (f2 = f1 ∧ ws1 = y :: ws1.tail) ∨ (f2 = true ∧ ws1 = [])) (h3 : (f3 = f2 ∧ ws2 = n :: ws2.tail) ∨ (f3 = true ∧ ws2 = [])) :
    Mid (x :: rs) 3 z y (unNm n) [] ws2.tail f3 := by
  unfold Mid
  have n2 : ¬ ((3 : Int) = 2 ∨ (3 : Int) = 7) := by omega
  subst e1 e2
  match rs with
  | [] =>
    simp at h2
    rcases h3 with ⟨rfl, h⟩ | ⟨rfl, _⟩
    · simp at h
    · simp only [readP, hk, if_neg n2]; rfl
  | [i] =>
    simp at h2
    rcases h3 with ⟨rfl, h⟩ | ⟨rfl, _⟩
    · simp at h
    · simp only [readP, hk, if_neg n2]; rfl
  | [i, j] =>
    rcases h3 with ⟨rfl, h⟩ | ⟨rfl, _⟩
    · simp at h
    · simp only [readP, hk, if_neg n2]; rfl
  | i :: j :: m :: t =>
    simp only [List.tail_cons, List.cons.injEq, and_true, reduceCtorEq, and_false, or_false] at h2 h3 ⊢
    obtain ⟨rfl, rfl⟩ := h2
    obtain ⟨rfl, rfl⟩ := h3
    simp only [readP, hk, if_neg n2]
    rcases h1 with ⟨rfl, h⟩ | ⟨rfl, h⟩
    · simp only [numA] at h; rw [h]; rfl
    · simp only [numA] at h; rw [h]; rfl
theorem mid_plain {x : ByteArray} {rs : List ByteArray} {k : Int} (hk : kindA x = k) (hn : ¬ (k = 2 ∨ k = 7) ∧ ¬ k = 3 ∧ ¬ (k = 4 ∨ k = 5 ∨ k = 6 ∨ k = 9)) : Mid (x :: rs) k 0 eZ eZ [] rs false := by
  unfold Mid
  simp only [readP, hk, if_neg hn.1, if_neg hn.2.1, if_neg hn.2.2]; rfl
theorem tail_size {rs : List ByteArray} (h : ∀ y ∈ rs, y.size ≤ 16777216) : ∀ y ∈ rs.tail, y.size ≤ 16777216 := fun y hy => h y (List.mem_of_mem_tail hy)

theorem numA_wf {ws : List ByteArray} {z : Int} (h : numA ws = some z) : (Lit.int .i64 z).wf = true := by
  cases ws with
  | nil => cases h
  | cons x t => exact atoiO_wf h
/-- How long the words that are left are. -/
def left (R : Nat) (w : World) : Nat := match w.cell? ⟨R, 0, none⟩ with
  | some (.slice _ n _) => n
  | _ => 0

theorem news1 {w : World} {b : Nat} {x : Value} {t : TypeId} (h : w.heap[b]? = some (.cells #[x] t (0, 0))) : ∀ j u, [x][j]? = some u → w.cell? ((⟨b, 0, none⟩ : Addr).add j) = some u := by
  intro j u hj
  rw [Addr.add_lit, Nat.zero_add, cell_of_row _ _ _ _ _ _ h]
  simpa using hj
theorem own_alloc' {w : World} {base : Nat} {e : TypeId} {size : Nat} {v : Value} {n : Nat} {xs : List Value} (h : w.ownsRow base e size v n xs) (o : Obj) : (w.alloc o).ownsRow base e size v n xs := own_below h ((Below.refl _ _).alloc (Nat.le_refl _) _)
theorem own_grown {w w' : World} {R base : Nat} {e : TypeId} {size : Nat} {v : Value} {n : Nat} {xs : List Value} (h : w.ownsRow base e size v n xs) (hg : w.grownBy w' (some R)) (hR : R < base) : w'.ownsRow base e size v n xs := by
  refine h.kept hg ?_
  cases hv : v.ownBlock with
  | none => exact .inl rfl
  | some k =>
    refine .inr fun e => ?_
    have := (h.lt k hv).1
    simp at e
    omega
theorem own_base {w : World} {base base' : Nat} {e : TypeId} {size : Nat} {v : Value} {n : Nat} {xs : List Value} (h : w.ownsRow base e size v n xs) (hb : base' ≤ base) : w.ownsRow base' e size v n xs := by
  refine ⟨h.1, ?_⟩
  rcases h.2 with h | ⟨g, cap, cur, h1, h2, h3⟩
  · exact .inl h
  · exact .inr ⟨g, cap, cur, h1, Nat.le_trans hb h2, h3⟩
theorem own_set5 {w : World} {N base : Nat} {e : TypeId} {size : Nat} {v : Value} {n : Nat} {xs : List Value} (h : w.ownsRow base e size v n xs) (hN : N < base) (o : Nat) (v0 v1 v2 v3 v4 : Value) :
    (((((w.setCell ⟨N, o, none⟩ v0).setCell ⟨N, o + 1, none⟩ v1).setCell ⟨N, o + 2, none⟩ v2).setCell ⟨N, o + 3, none⟩ v3).setCell ⟨N, o + 4, none⟩ v4).ownsRow base e size v n xs :=
  own_grown (own_grown (own_grown (own_grown (own_grown h (grown_set w N o v0) hN) (grown_set _ N _ v1) hN) (grown_set _ N _ v2) hN) (grown_set _ N _ v3) hN) (grown_set _ N _ v4) hN
theorem own_drew {w : World} {base : Nat} {e : TypeId} {size : Nat} {v : Value} {n : Nat} {xs : List Value} (h : w.ownsRow base e size v n xs) : w.drew.ownsRow base e size v n xs := h
theorem own_slice {w : World} {base : Nat} {e : TypeId} {v : Value} {n : Nat} {xs : List Value} (h : w.ownsRow base e 1 v n xs) : ∃ a c, v = .slice a n c := by
  rcases h.2 with ⟨rfl, rfl⟩ | ⟨g, cap, cur, rfl, _⟩
  · exact ⟨none, 0, rfl⟩
  · exact ⟨_, _, rfl⟩
/-- A function of one argument is called, as one step of a region that draws. -/
theorem step_call {P : Program} {ops : Array Oper} {o : Oper} {a : Act} {K : Act → World → Prop} {Q : Exit → Act → World → Prop} {E : Prop} {w : World} {f : Nat} {R : Ending → World → Prop} {v : Value} (hc : Calls P f #[v] w R) (hR : ∀ e w', R e w' → ∃ r, e = .returned r) (en : ∀ args w, (callFunc f args).run P w = .ok (.enter f args) w) (hgd : o.guard = none) (s : Operand) (tys : Array TypeId)
    (ho : o.op = .call { callee := .value (.func f), args := #[s], argTypes := tys }) (hs : a.eval s = v) (h : ∀ r w', R (.returned r) w' → K (a.put o.dst r) w') :
    if Region.wanted o (yielded ops a.tmps) = true then Oper.wp P o a w K Q else E := by
  have hw : Region.wanted o (yielded ops a.tmps) = true := by simp [Region.wanted, hgd]
  rw [if_pos hw]
  have hx : (execOp a.eval o).run P w = .ok (.enter f #[v]) w := by
    unfold execOp
    have hs' := hs
    simp only [Act.eval] at hs'
    simp [ho, resolve, invoke, go_sem, en]
    first | exact hs' | (rw [← hs]; cases s <;> rfl) | (rw [← hs]; cases s <;> simp [Act.eval])
  unfold Oper.wp
  rw [hx, Oper.upon_enter]
  refine hc.mono fun e w' hr => ?_
  obtain ⟨r, rfl⟩ := hR e w' hr
  exact h r w' hr

/-- One number is appended, as one step of a region that draws. -/
theorem step_app1 {ops : Array Oper} {o : Oper} {a : Act} {K : Act → World → Prop} {Q : Exit → Act → World → Prop} {E : Prop} {w3 : World} {F : Nat} {v : Value} {n : Nat} {xs : List Int} {z : Int} (hown : w3.ownsRow F 3 1 v n (xs.map (Value.int .i64))) (hF : F ≤ w3.heap.size) (hn : n ≤ 100000000) (hgd : o.guard = none) (s t : Operand)
    (ho : o.op = .call { callee := .builtin .append, args := #[s, t], argTypes := #[30, 30] }) (hs : a.eval s = v) (ht : a.eval t = .slice (some ⟨w3.heap.size, 0, none⟩) 1 1)
    (h : ∀ g cap w', w'.ownsRow F 3 1 (.slice (some ⟨g, 0, none⟩) (n + 1) cap) (n + 1) ((xs ++ [z]).map (Value.int .i64)) → (w3.alloc (.cells #[.int .i64 z] 3)).grownBy w' v.ownBlock → K (a.put o.dst (.slice (some ⟨g, 0, none⟩) (n + 1) cap)) w') :
    if Region.wanted o (yielded ops a.tmps) = true then Oper.wp Tryz.prog o a (w3.alloc (.cells #[.int .i64 z] 3)) K Q else E := by
  obtain ⟨i0, hi0, hzz⟩ := Option.map_eq_some_iff.1 Tryz.infoI
  simp only [Prod.mk.injEq] at hzz
  obtain ⟨hz0, hz1, hz2⟩ := hzz
  refine step_append_lies _ hgd s t 30 ho F 3 i0 _ 1 8 Tryz.underlying30 hi0 hz0 hz1 hz2 rfl (by omega) v n (xs.map (Value.int .i64)) hs (own_alloc' hown _) ⟨w3.heap.size, 0, none⟩ 1 1 [.int .i64 z] ht rfl (news1 (heap_alloc_new w3 _)) (by simp [Value.oneCell']) (by omega) (by unfold maxLen; omega) (by omega) (by simp; omega) _ rfl ?_
  intro g cap w' h1 h2 _ _
  exact h g cap w' (by rw [List.map_append]; exact h1) h2

set_option maxRecDepth 100000 in
set_option maxHeartbeats 4000000 in
theorem readEntry (v : Value) (x : ByteArray) (rs : List ByteArray) (w : World) (hr : Row w v (sv (x :: rs))) (he : Errs w) (hz : ∀ y ∈ x :: rs, y.size ≤ 16777216) (hrs : rs.length ≤ 16777217) :
    Calls Tryz.prog 12 #[v] w fun e w' => ReadPost (x :: rs) w e w' := by
  have HKW : Hid (∀ w, _) := kindWords
  obtain ⟨a, c, rfl⟩ := hr.form
  rw [sv_len] at hr ⊢
  obtain ⟨b, off, rfl, hle, hbl, hc⟩ := hr.at (k := 0) (by simp [sv])
  have hcx : w.cell? ⟨b, off, none⟩ = some (.string x) := by simpa [sv] using hc
  clear hc
  have HE : Hid (Errs w) := he
  have HZ : Hid (∀ y ∈ x :: rs, y.size ≤ 16777216) := hz
  clear he hz
  have hmax : c ≤ 9223372036854775807 := by
    rcases hr with ⟨h, _⟩ | ⟨_, _, _, h, _, h2, _⟩
    · cases h
    · simp only [Value.slice.injEq] at h; rw [h.2.2]; unfold maxLen at h2; exact h2
  have HR : Hid (Row w (.slice (some ⟨b, off, none⟩) (x :: rs).length c) (sv (x :: rs))) := hr
  clear hr
  have hlen : (x :: rs).length = rs.length + 1 := rfl
  generalize (x :: rs).length = len at hlen hle HR
  go_enter Tryz.func12, Tryz.ntmps12
  go_wp2_with (go_at_call 27; refine (HKW.out _).mono ?_; rintro e w1 ⟨rfl, hw1⟩)
  have hW1 : Below w.heap.size w w1 := unbox (by simpa using hw1)
  have hs1 : w.heap.size < w1.heap.size := by have := hw1.size; simp at this; omega
  have hRes : Holds w1 w.heap.size 32 _ := Holds.below (w := w.alloc (.cells #[.int .i64 0, .int .i64 0, .string ⟨#[]⟩, .string ⟨#[]⟩, .slice none 0 0] 32)) (heap_alloc_new _ _) hw1
  have HRES : Hid _ := hRes
  have HARR : Hid (∀ j (h : j < entW.length), (w1.alloc (.cells (sv entW).toArray 58)).cell? ⟨w1.heap.size, j, none⟩ = some (.string entW[j])) := fun j h => by
    rw [World.cell?_alloc_new]; simp [sv, h]
  have HIX : Hid (∀ w', Below (w1.heap.size + 1) (w1.alloc (.cells (sv entW).toArray 58)) w' → Calls Tryz.prog 28 #[.slice (some ⟨w1.heap.size, 0, none⟩) 10 10, .string x] w' fun e w'' => e = .returned (.int .i64 (kindA x)) ∧ w'' = w') := fun w' hb =>
    slices_Index_string w1.heap.size 0 10 10 entW x w' (by decide) (by omega) (fun j hj => by
      rw [Nat.zero_add, hb.cell (p := ⟨w1.heap.size, j, none⟩) (Nat.lt_succ_self _), HARR.out j hj]; simp [hj])
  have hcx1 : w1.cell? ⟨b, off, none⟩ = some (.string x) := (hW1.cell (p := ⟨b, off, none⟩) hbl).trans hcx
  have hbl1 : b < w1.heap.size := by omega
  have HW1 : Hid _ := hW1
  clear hW1 hw1 hRes
  go_cut [5] (fun t5 wx => t5 = .pointer (some ⟨w1.heap.size + 1, 0, none⟩) ∧ Holds wx (w1.heap.size + 1) 32 #[.int .i64 (kindA x), .int .i64 0, .string ⟨#[]⟩, .string ⟨#[]⟩, .slice none 0 0] ∧ Below w1.heap.size w1 wx)
  case first =>
    first | (go_region_with (go_at_call 28; refine (HIX.out _ ?_).mono ?_; (first | exact (Below.refl _ _).drew | exact (Below.refl _ _).drew.alloc (by simp) _); rintro e w2 ⟨rfl, he2⟩; have he3 := he2.symm; clear he2; subst he3)) | fail
    all_goals
      go_wp2_with fail
      go_meet
      case rel =>
        refine ⟨rfl, ?_, (((Below.refl _ _).alloc (Nat.le_refl _) _).alloc (by simp) _).drew⟩
        have h := heap_alloc_new (w1.alloc (.cells (sv entW).toArray 58)) (.cells #[.int .i64 (kindA x), .int .i64 0, .string ⟨#[]⟩, .string ⟨#[]⟩, .slice none 0 0] 32)
        rw [World.size_alloc] at h
        exact h
  case rest =>
    rename World => wA
    obtain ⟨rfl, hEnt, hB⟩ := hcut
    have HENT : Hid (Holds wA (w1.heap.size + 1) 32 #[.int .i64 (kindA x), .int .i64 0, .string ⟨#[]⟩, .string ⟨#[]⟩, .slice none 0 0]) := hEnt
    have HBc : Hid (Below w1.heap.size w1 wA) := hB
    have hsc : w1.heap.size + 1 < wA.heap.size := hEnt.lt
    clear HIX HARR HKW hcx1 hbl1 hEnt hB hcx
    go_upto_region 3 with fail
    go_cut [6] (fun t6 wx => t6 = .pointer (some ⟨wA.heap.size, 0, none⟩) ∧ (∃ a n c, Rest wx wA.heap.size (.slice a n c) false ∧ Row w (.slice a n c) (sv rs)) ∧ Below wA.heap.size wA wx)
    case first =>
      have hcells : ∀ i (hi : i < rs.length), w.cell? ⟨b, off + 1 + i, none⟩ = some (.string rs[i]) := fun i hi => by
        obtain ⟨b', off', e', _, _, h'⟩ := HR.out.at (k := i + 1) (by simp [sv]; omega)
        simp only [Option.some.injEq, Addr.mk.injEq, and_true] at e'
        obtain ⟨rfl, rfl⟩ := e'
        rw [show off + 1 + i = off + (i + 1) by omega, h', sv_at]; rfl
      have HC : Hid _ := hcells
      clear hcells
      by_cases h1 : c = 1
      · subst h1
        have ht : rs = [] := List.length_eq_zero_iff.1 (by omega)
        subst ht
        have hl1 : len = 1 := hlen
        clear hlen
        subst hl1
        go_wp2_with fail
        go_meet
        case rel => exact ⟨rfl, ⟨_, _, _, heap_alloc_new _ _, .inr ⟨b, off, 0, rfl, Nat.le_refl _, Nat.zero_le _, hbl, fun i y hy => by simp [sv] at hy⟩⟩, (Below.refl _ _).alloc (Nat.le_refl _) _⟩
      · subst hlen
        go_wp2_with fail
        go_meet
        case rel =>
          refine ⟨rfl, ⟨_, _, _, heap_alloc_new _ _, .inr ⟨b, off + 1, c - 1, ?_, by rw [sv_len]; omega, by unfold maxLen; omega, hbl, fun i y hy => ?_⟩⟩, (Below.refl _ _).alloc (Nat.le_refl _) _⟩
          · rw [sv_len]
          · have hi : i < rs.length := by rw [← sv_len rs]; exact (List.getElem?_eq_some_iff.1 hy).1
            rw [HC.out i hi]
            unfold sv at hy
            rw [List.getElem?_map, List.getElem?_eq_getElem hi] at hy
            simpa using hy
    case rest =>
      obtain ⟨rfl, ⟨a6, n6, c6, hRest, hRow⟩, hB6⟩ := hcut
      rename World => wB
      have hSt : St w (w1.heap.size + 1) wA.heap.size #[.int .i64 (kindA x), .int .i64 0, .string ⟨#[]⟩, .string ⟨#[]⟩, .slice none 0 0] (.slice a6 n6 c6) false wB :=
        ⟨Holds.below (Holds.below HRES.out HBc.out) hB6, Holds.below HENT.out hB6, hRest, (HW1.out.trans (HBc.out.mono (by omega))).trans (hB6.mono (by omega)), by omega, by omega⟩
      have HST : Hid _ := hSt
      have HROW : Hid _ := hRow
      have HZ2 : Hid (∀ y ∈ rs, y.size ≤ 16777216) := fun y hy => HZ.out y (List.mem_cons_of_mem _ hy)
      have hRlt : w.heap.size ≤ wA.heap.size := by omega
      obtain ⟨E, hE⟩ : ∃ E, E = w1.heap.size + 1 := ⟨_, rfl⟩
      rw [← hE] at HST ⊢
      obtain ⟨R, hRR⟩ : ∃ R, R = wA.heap.size := ⟨_, rfl⟩
      rw [← hRR] at HST hRlt ⊢
      clear hSt hRow hRest hB6 HRES HENT HBc HW1 HR HZ hs1 hsc hE hRR hle hmax hbl hlen
      have hNUM : ∀ (a : Option Addr) (n c : Nat) (f : Bool) (ws : List ByteArray) (cur : Array Value) (wx : World), St w E R cur (.slice a n c) f wx → Row w (.slice a n c) (sv ws) → (∀ y ∈ ws, y.size ≤ 16777216) → Calls Tryz.prog 30 #[.pointer (some ⟨R, 0, none⟩)] wx fun e w' => NumPost R ws f w wx e w' := fun a n c f ws cur wx h1 h2 h3 => num R a n c f ws w wx h1.rest h1.bel h2 HE.out h3 hRlt
      have HNUM : Hid _ := hNUM
      have hWORD : ∀ (a : Option Addr) (n c : Nat) (f : Bool) (ws : List ByteArray) (cur : Array Value) (wx : World), St w E R cur (.slice a n c) f wx → Row w (.slice a n c) (sv ws) → Calls Tryz.prog 29 #[.pointer (some ⟨R, 0, none⟩)] wx fun e w' => WordPost R ws f w wx e w' := fun a n c f ws cur wx h1 h2 => word R a n c f ws w wx h1.rest h1.bel h2
      have HWORD : Hid _ := hWORD
      clear hNUM hWORD
      generalize hk : kindA x = k at HST
      have HK : Hid (kindA x = k) := hk
      have hkb := kindA_bd x
      rw [hk] at hkb
      clear hk
      have g0 := HST.out.ent.cell 0
      simp at g0
      go_upto_block 0 with fail
      go_cut [] (fun wx => ∃ (id : Int) (key name : ByteArray) (f : Bool) (a : Option Addr) (n c : Nat) (ws : List ByteArray), St w E R #[.int .i64 k, .int .i64 id, .string key, .string name, .slice none 0 0] (.slice a n c) f wx ∧ Row w (.slice a n c) (sv ws) ∧ Mid (x :: rs) k id key name [] ws f ∧ (f = false → Good id key name) ∧ (∀ y ∈ ws, y.size ≤ 16777216) ∧ ws.length ≤ rs.length)
      case first =>
        have plain : ∀ (h : ¬ (k = 2 ∨ k = 7) ∧ ¬ k = 3 ∧ ¬ (k = 4 ∨ k = 5 ∨ k = 6 ∨ k = 9)), ∃ (id : Int) (key name : ByteArray) (f : Bool) (a : Option Addr) (n c : Nat) (ws : List ByteArray), St w E R #[.int .i64 k, .int .i64 id, .string key, .string name, .slice none 0 0] (.slice a n c) f wB ∧ Row w (.slice a n c) (sv ws) ∧ Mid (x :: rs) k id key name [] ws f ∧ (f = false → Good id key name) ∧ (∀ y ∈ ws, y.size ≤ 16777216) ∧ ws.length ≤ rs.length :=
          fun h => ⟨0, eZ, eZ, false, _, _, _, rs, HST.out, HROW.out, mid_plain HK.out h, fun _ => ⟨wf_zero, by decide, by decide⟩, HZ2.out, Nat.le_refl _⟩
        have HPL : Hid _ := plain
        clear plain
        rcases (by omega : k = -1 ∨ k = 0 ∨ k = 1 ∨ k = 2 ∨ k = 3 ∨ k = 4 ∨ k = 5 ∨ k = 6 ∨ k = 7 ∨ k = 8 ∨ k = 9) with rfl | rfl | rfl | rfl | rfl | rfl | rfl | rfl | rfl | rfl | rfl
        · go_wp2_with fail
          go_meet
          case rel => exact HPL.out (by omega)
        · go_wp2_with fail
          go_meet
          case rel => exact HPL.out (by omega)
        · go_wp2_with fail
          go_meet
          case rel => exact HPL.out (by omega)
        · clear g0 HPL
          go_wp2_with (go_at_call 29; refine Calls.mono (HWORD.out _ _ _ _ rs _ wB HST.out HROW.out) ?_; rintro e w2 ⟨y, f', a', n', c', rfl, hr2, hrow2, hg2, hf2⟩; have hS2 := HST.out.grown hg2 hr2; have q3 := hS2.ent.cell 3; have p3 := hS2.ent.frozen 3; simp at q3; have HS2 : Hid _ := hS2; have HF2 : Hid _ := (⟨hrow2, hf2⟩ : _ ∧ _); clear hS2 hrow2 hf2 hr2 hg2)
          go_meet
          case rel =>
            obtain ⟨hrow2, hf2⟩ := HF2.out
            refine ⟨0, eZ, y, f', a', n', c', rs.tail, HS2.out.set 3 (.string y), hrow2, mid_word HK.out (by omega) hf2, fun h => ⟨wf_zero, by decide, ?_⟩, tail_size HZ2.out, by simp⟩
            rcases hf2 with ⟨_, h2⟩ | ⟨h2, _⟩
            · exact HZ2.out y (by rw [h2]; simp)
            · rw [h2] at h; cases h
        · clear g0 HPL
          go_wp2_with fail
          refine Calls.mono (HNUM.out _ _ _ _ rs _ wB HST.out HROW.out HZ2.out) ?_
          rintro e w2 ⟨z, f1, a1, n1, c1, rfl, hr1, hrow1, hg1, hf1⟩
          have hS1 := HST.out.grown hg1 hr1
          have q1 := hS1.ent.cell 1
          have p1 := hS1.ent.frozen 1
          simp at q1
          have HS1 : Hid (St w E R #[.int .i64 3, .int .i64 z, .string ⟨#[]⟩, .string ⟨#[]⟩, .slice none 0 0] (.slice a1 n1 c1) f1 (w2.setCell ⟨E, 1, none⟩ (.int .i64 z))) := hS1.set 1 (.int .i64 z)
          have HF1 : Hid _ := hf1
          have HR1 : Hid _ := hrow1
          clear hS1 hf1 hrow1 hr1 hg1
          go_wp2_with fail
          refine Calls.mono (HWORD.out _ _ _ _ rs.tail _ _ HS1.out HR1.out) ?_
          rintro e w3 ⟨y, f2, a2, n2, c2, rfl, hr2, hrow2, hg2, hf2⟩
          have hS2 := HS1.out.grown hg2 hr2
          have q2 := hS2.ent.cell 2
          have p2 := hS2.ent.frozen 2
          simp at q2
          have HS2 : Hid (St w E R #[.int .i64 3, .int .i64 z, .string y, .string ⟨#[]⟩, .slice none 0 0] (.slice a2 n2 c2) f2 (w3.setCell ⟨E, 2, none⟩ (.string y))) := hS2.set 2 (.string y)
          have HF2 : Hid _ := hf2
          have HR2 : Hid _ := hrow2
          clear hS2 hf2 hrow2 hr2 hg2 q1 p1
          go_wp2_with fail
          refine Calls.mono (HWORD.out _ _ _ _ rs.tail.tail _ _ HS2.out HR2.out) ?_
          rintro e w4 ⟨nm, f3, a3, n3, c3, rfl, hr3, hrow3, hg3, hf3⟩
          have hS3 := HS2.out.grown hg3 hr3
          have q3 := hS3.ent.cell 3
          have p3 := hS3.ent.frozen 3
          simp at q3
          have HS3 : Hid (St w E R #[.int .i64 3, .int .i64 z, .string y, .string nm, .slice none 0 0] (.slice a3 n3 c3) f3 (w4.setCell ⟨E, 3, none⟩ (.string nm))) := hS3.set 3 (.string nm)
          have HF3 : Hid _ := hf3
          have HR3 : Hid _ := hrow3
          clear hS3 hf3 hrow3 hr3 hg3 q2 p2
          have HMID : Hid _ := mid_ask (x := x) HK.out rfl rfl HF1.out HF2.out HF3.out
          have HGOOD : Hid (f3 = false → Good z y (unNm nm)) := fun h => by
            rcases HF3.out with ⟨h3, hw3⟩ | ⟨h3, _⟩
            · rcases HF2.out with ⟨h2, hw2⟩ | ⟨h2, _⟩
              · rcases HF1.out with ⟨h1, hw1⟩ | ⟨h1, _⟩
                · have hnm : nm.size ≤ 16777216 := tail_size (tail_size HZ2.out) nm (by rw [hw3]; simp)
                  refine ⟨numA_wf hw1, tail_size HZ2.out y (by rw [hw2]; simp), ?_⟩
                  unfold unNm
                  split
                  · decide
                  · exact hnm
                · rw [h3, h2, h1] at h; cases h
              · rw [h3, h2] at h; cases h
            · rw [h3] at h; cases h
          have HLEN : Hid (rs.tail.tail.tail.length ≤ rs.length) := by show _ ≤ _; simp only [List.length_tail]; omega
          clear HF1 HF2 HF3 HR1 HR2 HS1 HS2 HST
          have e45 : (⟨#[45]⟩ : ByteArray).toList = [45] := by rw [ByteArray.toList_eq]
          by_cases hd : (nm.toList == [45]) = true
          · have hun : unNm nm = eZ := by
              unfold unNm; rw [if_pos]; exact (bB_beq nm ⟨#[45]⟩).2 (by rw [e45]; exact hd)
            rw [hun] at HMID HGOOD
            go_wp2_with fail
            go_meet
            case rel => exact ⟨z, y, eZ, f3, a3, n3, c3, _, HS3.out.set 3 (.string ⟨#[]⟩), HR3.out, HMID.out, HGOOD.out, tail_size (tail_size (tail_size HZ2.out)), HLEN.out⟩
          · have hd : (nm.toList == [45]) = false := by simpa using hd
            have hun : unNm nm = nm := by
              unfold unNm; rw [if_neg]; intro e; have := (bB_beq nm ⟨#[45]⟩).1 e; rw [e45, hd] at this; cases this
            rw [hun] at HMID HGOOD
            go_wp2_with fail
            go_meet
            case rel => exact ⟨z, y, nm, f3, a3, n3, c3, _, HS3.out, HR3.out, HMID.out, HGOOD.out, tail_size (tail_size (tail_size HZ2.out)), HLEN.out⟩
        · clear g0 HPL
          go_wp2_with (go_at_call 30; refine Calls.mono (HNUM.out _ _ _ _ rs _ wB HST.out HROW.out HZ2.out) ?_; rintro e w2 ⟨z, f', a', n', c', rfl, hr2, hrow2, hg2, hf2⟩; have hS2 := HST.out.grown hg2 hr2; have q3 := hS2.ent.cell 1; have p3 := hS2.ent.frozen 1; simp at q3; have HS2 : Hid _ := hS2; have HF2 : Hid _ := (⟨hrow2, hf2⟩ : _ ∧ _); clear hS2 hrow2 hf2 hr2 hg2)
          go_meet
          case rel =>
            obtain ⟨hrow2, hf2⟩ := HF2.out
            refine ⟨z, eZ, eZ, f', a', n', c', rs.tail, HS2.out.set 1 (.int .i64 z), hrow2, mid_num HK.out (by omega) hf2, fun h => ⟨?_, by decide, by decide⟩, tail_size HZ2.out, by simp⟩
            rcases hf2 with ⟨_, h2⟩ | ⟨h2, _⟩
            · exact numA_wf h2
            · rw [h2] at h; cases h
        · clear g0 HPL
          go_wp2_with (go_at_call 30; refine Calls.mono (HNUM.out _ _ _ _ rs _ wB HST.out HROW.out HZ2.out) ?_; rintro e w2 ⟨z, f', a', n', c', rfl, hr2, hrow2, hg2, hf2⟩; have hS2 := HST.out.grown hg2 hr2; have q3 := hS2.ent.cell 1; have p3 := hS2.ent.frozen 1; simp at q3; have HS2 : Hid _ := hS2; have HF2 : Hid _ := (⟨hrow2, hf2⟩ : _ ∧ _); clear hS2 hrow2 hf2 hr2 hg2)
          go_meet
          case rel =>
            obtain ⟨hrow2, hf2⟩ := HF2.out
            refine ⟨z, eZ, eZ, f', a', n', c', rs.tail, HS2.out.set 1 (.int .i64 z), hrow2, mid_num HK.out (by omega) hf2, fun h => ⟨?_, by decide, by decide⟩, tail_size HZ2.out, by simp⟩
            rcases hf2 with ⟨_, h2⟩ | ⟨h2, _⟩
            · exact numA_wf h2
            · rw [h2] at h; cases h
        · clear g0 HPL
          go_wp2_with (go_at_call 30; refine Calls.mono (HNUM.out _ _ _ _ rs _ wB HST.out HROW.out HZ2.out) ?_; rintro e w2 ⟨z, f', a', n', c', rfl, hr2, hrow2, hg2, hf2⟩; have hS2 := HST.out.grown hg2 hr2; have q3 := hS2.ent.cell 1; have p3 := hS2.ent.frozen 1; simp at q3; have HS2 : Hid _ := hS2; have HF2 : Hid _ := (⟨hrow2, hf2⟩ : _ ∧ _); clear hS2 hrow2 hf2 hr2 hg2)
          go_meet
          case rel =>
            obtain ⟨hrow2, hf2⟩ := HF2.out
            refine ⟨z, eZ, eZ, f', a', n', c', rs.tail, HS2.out.set 1 (.int .i64 z), hrow2, mid_num HK.out (by omega) hf2, fun h => ⟨?_, by decide, by decide⟩, tail_size HZ2.out, by simp⟩
            rcases hf2 with ⟨_, h2⟩ | ⟨h2, _⟩
            · exact numA_wf h2
            · rw [h2] at h; cases h
        · clear g0 HPL
          go_wp2_with (go_at_call 29; refine Calls.mono (HWORD.out _ _ _ _ rs _ wB HST.out HROW.out) ?_; rintro e w2 ⟨y, f', a', n', c', rfl, hr2, hrow2, hg2, hf2⟩; have hS2 := HST.out.grown hg2 hr2; have q3 := hS2.ent.cell 3; have p3 := hS2.ent.frozen 3; simp at q3; have HS2 : Hid _ := hS2; have HF2 : Hid _ := (⟨hrow2, hf2⟩ : _ ∧ _); clear hS2 hrow2 hf2 hr2 hg2)
          go_meet
          case rel =>
            obtain ⟨hrow2, hf2⟩ := HF2.out
            refine ⟨0, eZ, y, f', a', n', c', rs.tail, HS2.out.set 3 (.string y), hrow2, mid_word HK.out (by omega) hf2, fun h => ⟨wf_zero, by decide, ?_⟩, tail_size HZ2.out, by simp⟩
            rcases hf2 with ⟨_, h2⟩ | ⟨h2, _⟩
            · exact HZ2.out y (by rw [h2]; simp)
            · rw [h2] at h; cases h
        · go_wp2_with fail
          go_meet
          case rel => exact HPL.out (by omega)
        · clear g0 HPL
          go_wp2_with (go_at_call 30; refine Calls.mono (HNUM.out _ _ _ _ rs _ wB HST.out HROW.out HZ2.out) ?_; rintro e w2 ⟨z, f', a', n', c', rfl, hr2, hrow2, hg2, hf2⟩; have hS2 := HST.out.grown hg2 hr2; have q3 := hS2.ent.cell 1; have p3 := hS2.ent.frozen 1; simp at q3; have HS2 : Hid _ := hS2; have HF2 : Hid _ := (⟨hrow2, hf2⟩ : _ ∧ _); clear hS2 hrow2 hf2 hr2 hg2)
          go_meet
          case rel =>
            obtain ⟨hrow2, hf2⟩ := HF2.out
            refine ⟨z, eZ, eZ, f', a', n', c', rs.tail, HS2.out.set 1 (.int .i64 z), hrow2, mid_num HK.out (by omega) hf2, fun h => ⟨?_, by decide, by decide⟩, tail_size HZ2.out, by simp⟩
            rcases hf2 with ⟨_, h2⟩ | ⟨h2, _⟩
            · exact numA_wf h2
            · rw [h2] at h; cases h
      case rest =>
        rename World => wD
        obtain ⟨id, key, name, f, a7, n7, c7, ws, hS, hRw, hM, hG, hzw, hlw⟩ := hcut
        have HG : Hid (f = false → Good id key name) := hG
        have HWK : Hid ((Lit.int .i64 k).wf = true) := wf_small (by omega)
        clear HNUM HWORD HST HROW HZ2 HK g0 hG hkb
        go_wp2_with fail
        go_loopw [] (fun wr => ∃ (f1 : Bool) (a : Option Addr) (n c : Nat) (ws1 : List ByteArray) (nums : List Int) (v : Value), St w E R #[.int .i64 k, .int .i64 id, .string key, .string name, v] (.slice a n c) f1 wr ∧ Row w (.slice a n c) (sv ws1) ∧ Mid (x :: rs) k id key name nums ws1 f1 ∧ (f1 = false → f = false ∧ ∀ z ∈ nums, (Lit.int .i64 z).wf = true) ∧ (∀ y ∈ ws1, y.size ≤ 16777216) ∧ nums.length + ws1.length ≤ rs.length ∧ wr.ownsRow (R + 1) 3 1 v nums.length (nums.map (Value.int .i64))) (fun wr => left R wr)
        case atStart =>
          exact ⟨f, a7, n7, c7, ws, [], _, hS, hRw, hM, fun h => ⟨h, fun z hz => by cases hz⟩, hzw, by simpa using hlw, World.ownsRow_nil _ _ _ _⟩
        case round =>
          clear hS hRw hM hzw hlw
          obtain ⟨f1, a, n, c, ws1, nums, v, hS, hRw, hM, hG1, hz1, hl1, hown⟩ := hrel
          have hlen1 : n = ws1.length := by
            obtain ⟨a', c', h⟩ := hRw.form
            simp only [Value.slice.injEq] at h
            rw [h.2.1, sv_len]
          have r0 := Holds.cell hS.rest 0
          have r1 := Holds.cell hS.rest 1
          simp at r0 r1
          have hne1 : E ≠ R := by have := hS.lt2; omega
          have hne2 : w.heap.size ≠ E := by have := hS.lt1; omega
          by_cases hlt : 0 < ws1.length
          · have HN : Hid (Calls Tryz.prog 30 #[.pointer (some ⟨R, 0, none⟩)] wr.drew fun e w' => NumPost R ws1 f1 w wr.drew e w') := num R a n c f1 ws1 w wr.drew hS.rest hS.bel.drew hRw HE.out hz1 hRlt
            have hpos : 0 < n := by omega
            obtain ⟨a8, c8, rfl⟩ := own_slice hown
            have g4 := hS.ent.cell 4
            simp at g4
            have hnl : nums.length ≤ 100000000 := by omega
            have hvb : ∀ k, (Value.slice a8 nums.length c8).ownBlock = some k → R < k := fun k hk => (hown.lt k hk).1
            have HVB : Hid _ := hvb
            have HS : Hid _ := hS
            have HM : Hid _ := hM
            have HOWN : Hid _ := hown
            have HG1 : Hid _ := hG1
            have HZ1 : Hid _ := hz1
            have hER : E < R := hS.lt2
            have hRs : R < wr.heap.size := Holds.lt hS.rest
            clear hS hM hown hG1 hz1 hvb hRw
            go_upto_region 20 with fail
            go_region_law (first
                | (refine step_call HN.out (fun e w' ⟨z, _, _, _, _, he, _⟩ => ⟨_, he⟩) (enters_of Tryz.func30 (by kernel_rfl) rfl) (by rfl) _ _ (by rfl) (by rfl) ?_; rintro r w2 ⟨z, f2, a2, n2, c2, he2, hr2, hrow2, hg2, hf2⟩; cases he2; have hown2 := own_grown (w := wr.drew) HOWN.out hg2 (Nat.lt_succ_self R); have hS2 := St.grown (wx := wr.drew) ⟨HS.out.res, HS.out.ent, HS.out.rest, HS.out.bel.drew, HS.out.lt1, HS.out.lt2⟩ hg2 hr2; have d2 : w2.cell? ⟨E, 4, none⟩ = some (.slice a8 nums.length c8) := (by have q := hS2.ent.cell 4; simpa using q); have hR2 : R + 1 ≤ w2.heap.size := Holds.lt hr2; have hE2 : E < w2.heap.size := (by omega); have d1 : ∀ o, (w2.alloc o).cell? ⟨E, 4, none⟩ = some (.slice a8 nums.length c8) := fun o => (World.cell?_alloc_past (w := w2) o E 4 hE2).trans d2; have HOWN2 : Hid _ := hown2; have HS2 : Hid _ := hS2; have HF2 : Hid _ := (⟨hrow2, hf2⟩ : _ ∧ _); clear hown2 hS2 hrow2 hf2 hr2 hg2)
                | (refine step_app1 HOWN2.out hR2 hnl (by rfl) _ _ (by rfl) (by rfl) (by rfl) ?_; intro g cap3 w3 hown3 hg3; have d3 : w3.cell? ⟨E, 4, none⟩ = some (.slice a8 nums.length c8) := (hg3.cell_far ⟨E, 4, none⟩ (by simp; omega) (fun h => by have := HVB.out E h.symm; omega)).trans (d1 _); have p3 : w3.frozen? ⟨E, 4, none⟩ = false := (hg3.frozen_far ⟨E, 4, none⟩ (by simp; omega) (fun h => by have := HVB.out E h.symm; omega)).trans (Holds.frozen (Holds.below HS2.out.ent ((Below.refl _ _).alloc (Nat.le_refl _) _)) 4); have HOWN3 : Hid _ := hown3; have HG3 : Hid _ := hg3; clear hown3 hg3))
            all_goals
              go_wp2_with fail
              obtain ⟨hrow2, hf2⟩ := HF2.out
              have hS3 := (St.kept (St.kept HS2.out (World.grownBy_alloc w2 (.cells #[.int .i64 z] 3) none) (fun k hk => by cases hk)) HG3.out HVB.out).set 4 (.slice (some ⟨g, 0, none⟩) (nums.length + 1) cap3)
              have hn2 : n2 = ws1.tail.length := by
                obtain ⟨a', c', h⟩ := hrow2.form
                simp only [Value.slice.injEq] at h
                rw [h.2.1, sv_len]
              have hL : left R wr = n := by unfold left; rw [r0]
              have hL3 : left R (w3.setCell ⟨E, 4, none⟩ (.slice (some ⟨g, 0, none⟩) (nums.length + 1) cap3)) = n2 := by
                have q := Holds.cell hS3.rest 0
                simp at q
                unfold left; rw [q]
              go_roundw
              case rel =>
                refine ⟨f2, a2, n2, c2, ws1.tail, nums ++ [z], _, hS3, hrow2, Mid.step HM.out hlt hf2, fun h => ?_, tail_size HZ1.out, by simp; omega, ?_⟩
                · rcases hf2 with ⟨rfl, hz⟩ | ⟨rfl, _⟩
                  · refine ⟨(HG1.out h).1, fun y hy => ?_⟩
                    rcases List.mem_append.1 hy with hy | hy
                    · exact (HG1.out h).2 y hy
                    · simp only [List.mem_singleton] at hy; subst hy; exact numA_wf hz
                  · cases h
                · rw [List.length_append]
                  exact own_grown HOWN3.out (grown_set _ _ _ _) (by omega)
              case measure => rw [hL3, hL, hn2, hlen1]; simp; omega
          · have hw0 : ws1 = [] := List.length_eq_zero_iff.1 (by omega)
            subst hw0
            have hn0 : n = 0 := hlen1
            clear hlen1
            subst hn0
            obtain ⟨a8, c8, rfl⟩ := own_slice hown
            have HS : Hid _ := hS
            have HM : Hid _ := hM
            have HOWN : Hid _ := hown
            have HG1 : Hid _ := hG1
            have e0 := hS.ent.cell 0
            have e1 := hS.ent.cell 1
            have e2 := hS.ent.cell 2
            have e3 := hS.ent.cell 3
            have e4 := hS.ent.cell 4
            have s0 := hS.res.cell 0
            have s1 := hS.res.cell 1
            have s2 := hS.res.cell 2
            have s3 := hS.res.cell 3
            have s4 := hS.res.cell 4
            have k0 := hS.res.frozen 0
            have k1 := hS.res.frozen 1
            have k2 := hS.res.frozen 2
            have k3 := hS.res.frozen 3
            have k4 := hS.res.frozen 4
            simp at e0 e1 e2 e3 e4 s0 s1 s2 s3 s4
            have hne3 : w.heap.size ≠ R := by have := hS.lt1; have := hS.lt2; omega
            have hlt3 : w.heap.size < R + 1 := by have := hS.lt1; have := hS.lt2; omega
            clear hS hM hown hG1 hRw hz1
            go_wp2_with fail
            go_region
            all_goals
              go_wp2_with fail
              obtain ⟨cur', qh, _, _, q0, q1, q2, q3, q4⟩ := HS.out.res.set5 0 (.int .i64 k) (.int .i64 id) (.string key) (.string name) (.slice a8 nums.length c8) (by simp)
              have b0 := (qh.cell 0).trans q0
              have b1 := (qh.cell (0 + 1)).trans q1
              have b2 := (qh.cell (0 + 2)).trans q2
              have b3 := (qh.cell (0 + 3)).trans q3
              have b4 := (qh.cell (0 + 4)).trans q4
              simp only [Nat.zero_add] at b0 b1 b2 b3 b4
              refine bodyPost_ret (v := .tuple #[.agg #[.int .i64 k, .int .i64 id, .string key, .string name, .slice a8 nums.length c8], .bool (!f1)]) ?_ rfl ?_
              · simp [results, Tryz.results12, go_sem, b0, b1, b2, b3, b4]
              · refine ⟨k, id, key, name, a8, nums.length, c8, !f1, rfl, (below_set5 HS.out.bel (Nat.le_refl _) 0 _ _ _ _ _).drew, fun h => ?_, fun h => ?_⟩
                · have hf1 : f1 = false := by simpa using h
                  subst hf1
                  obtain ⟨hf, hwf⟩ := HG1.out rfl
                  obtain ⟨g1, g2, g3⟩ := HG.out hf
                  refine ⟨nums, Mid.done HM.out, ?_, g2, g3, HWK.out, g1, hwf⟩
                  exact own_drew (own_base (own_set5 HOWN.out hlt3 0 (.int .i64 k) (.int .i64 id) (.string key) (.string name) (.slice a8 nums.length c8)) (by omega))
                · have hf1 : f1 = true := by simpa using h
                  subst hf1
                  exact Mid.bad HM.out
end Go.Proofs.YtbngjpnbjknliaaGreatDoor
