/- The model's reading of a line of a history. -/
import Derived.Test.YtbngjpnbjknliaaGreatDoorJ5
import Derived.Test.YtbngjpnbjknliaaGreatDoorJ1
import Derived.Deep.CutBlock
import Derived.Deep.DeepCutAuto
import Derived.Deep.LoopGhost
import Derived.Deep.RegionHeld3
import Derived.OrdersHeld
import Derived.Shelf.Abstract
import Derived.BigGuard
import Derived.BigRegion
namespace Go.Proofs.YtbngjpnbjknliaaGreatDoor
set_option linter.unusedVariables false
set_option linter.unusedSimpArgs false
open Go

def bB (s : ByteArray) : List UInt8 := s.data.toList
def eZ : ByteArray := ⟨#[]⟩
/-- The kind of a word, 0 of none. -/
def kindTo (s : ByteArray) : Nat → Nat
  | 0 => 0
  | q + 1 => if 1 ≤ q ∧ bB (entW.getD q eZ) = bB s then q else kindTo s q
def kindOf (s : ByteArray) : Nat := kindTo s 10
def unNm (s : ByteArray) : ByteArray := if bB s = [45] then eZ else s
def numsOf (ws : List ByteArray) : Option (List Int) := if ws.all (fun s => numOk (bB s)) then some (ws.map fun s => numVal (bB s)) else none
/-- What words are read as. -/
def parse : List ByteArray → Option Ent
  | [] => none
  | x :: rest =>
    let k := kindOf x
    if k = 0 then none
    else if k = 3 then match rest with
      | i :: y :: n :: t => if numOk (bB i) then (numsOf t).map fun l => ⟨3, numVal (bB i), y, unNm n, l⟩ else none
      | _ => none
    else if k = 2 ∨ k = 7 then match rest with
      | n :: t => (numsOf t).map fun l => ⟨k, 0, eZ, n, l⟩
      | _ => none
    else if k = 1 ∨ k = 8 then (numsOf rest).map fun l => ⟨k, 0, eZ, eZ, l⟩
    else match rest with
      | i :: t => if numOk (bB i) then (numsOf t).map fun l => ⟨k, numVal (bB i), eZ, eZ, l⟩ else none
      | _ => none

/-- The words of an entry. -/
def entWs (e : Ent) : List ByteArray :=
  entW.getD e.kind.toNat eZ :: ((if e.kind = 3 then [itoB e.id, e.key, nmT e.name] else if e.kind = 2 ∨ e.kind = 7 then [e.name] else if e.kind = 1 ∨ e.kind = 8 then [] else [itoB e.id]) ++ e.nums.map itoB)

theorem numsT_fold (b : ByteArray) (l : List Int) : numsT b l = (l.map itoB).foldl (fun o e => o ++ spB ++ e) b := by
  rw [numsT, List.foldl_map]
theorem entText_fold (e : Ent) : entText e = (entWs e).tail.foldl (fun o e => o ++ spB ++ e) (entW.getD e.kind.toNat eZ) := by
  obtain ⟨kind, id, key, name, nums⟩ := e
  unfold entText entWs
  rw [numsT_fold, List.tail_cons, List.foldl_append]
  congr 1
  show _ = _
  dsimp only
  by_cases h3 : kind = 3
  · subst h3; rfl
  · rw [if_neg h3, if_neg h3]
    by_cases h2 : kind = 2 ∨ kind = 7
    · rw [if_pos h2, if_pos h2]; rfl
    · rw [if_neg h2, if_neg h2]
      by_cases h1 : kind = 1 ∨ kind = 8
      · rw [if_pos h1, if_pos h1]; rfl
      · rw [if_neg h1, if_neg h1]; rfl
theorem entText_jl (e : Ent) : (entText e).data.toList = jl (bys (entWs e)) := by
  rw [entText_fold, fold_jl]; rfl

theorem kw_no : ∀ k, k ≤ 9 → ∀ c ∈ (entW.getD k eZ).data.toList, c ≠ 32 := by decide
theorem nameOk_no {s : ByteArray} (h : nameOk s.data.toList = true) : ∀ c ∈ s.data.toList, c ≠ 32 := by
  simp only [nameOk, Bool.and_eq_true, List.all_eq_true] at h
  intro c hc e
  subst e
  have := h.2 _ hc
  exact absurd this (by decide)
theorem keyOk_no {s : ByteArray} (h : keyOk s.data.toList = true) : ∀ c ∈ s.data.toList, c ≠ 32 := by
  simp only [keyOk, Bool.and_eq_true, List.all_eq_true] at h
  intro c hc e
  subst e
  have := h.1.1 _ hc
  exact absurd this (by decide)
theorem emp_eq {s : ByteArray} (h : emp s = true) : s = eZ := by
  have := emp_size h
  cases s with | mk d => simp only [ByteArray.size] at this; rw [Array.eq_empty_of_size_eq_zero this]; rfl

theorem words_no {e : Ent} (h : entOk e = true) : ∀ x ∈ bys (entWs e), ∀ c ∈ x, c ≠ 32 := by
  obtain ⟨hk, hi, hn, h4, hs, hz⟩ := entOk_bd h
  obtain ⟨kind, id, key, name, nums⟩ := e
  simp only [entOk, entBody, Bool.and_eq_true] at h
  have hb := h.2
  dsimp only at hk hi hn h4 hs hz
  have hw := kw_no kind.toNat (by omega)
  have hnums : ∀ x ∈ bys (nums.map itoB), ∀ c ∈ x, c ≠ 32 := by
    intro x hx
    simp only [bys, List.map_map, List.mem_map, Function.comp] at hx
    obtain ⟨n, _, rfl⟩ := hx
    exact itoa_no n
  have hnm : ∀ s : ByteArray, emp s = true ∨ nameOk s.data.toList = true → ∀ c ∈ (nmT s).data.toList, c ≠ 32 := by
    intro s hs
    unfold nmT
    split
    · decide
    · rename_i hne
      rcases hs with hs | hs
      · exact absurd (by simpa [emp] using hs) hne
      · exact nameOk_no hs
  unfold entWs
  intro x hx
  rw [show bys (entW.getD kind.toNat eZ :: _) = (entW.getD kind.toNat eZ).data.toList :: bys _ from rfl, List.mem_cons, bys_app, List.mem_append] at hx
  rcases hx with rfl | hx | hx
  · exact hw
  · by_cases h3 : kind = 3
    · subst h3
      rw [if_pos rfl] at hx
      rw [if_neg (by omega), if_neg (by omega), if_pos rfl] at hb
      simp only [Bool.and_eq_true, Bool.or_eq_true] at hb
      simp only [bys, List.map_cons, List.map_nil, List.mem_cons, List.not_mem_nil, or_false] at hx
      rcases hx with rfl | rfl | rfl
      · exact itoa_no id
      · exact keyOk_no hb.1.1.2
      · exact hnm name hb.1.2
    · rw [if_neg h3] at hx
      by_cases h2 : kind = 2 ∨ kind = 7
      · rw [if_pos h2] at hx
        simp only [bys, List.map_cons, List.map_nil, List.mem_cons, List.not_mem_nil, or_false] at hx
        subst hx
        rcases h2 with rfl | rfl
        · rw [if_neg (by omega), if_pos rfl] at hb
          simp only [Bool.and_eq_true] at hb
          exact nameOk_no hb.1.2
        · rw [if_neg (by omega), if_neg (by omega), if_neg (by omega), if_neg (by omega), if_neg (by omega), if_pos rfl] at hb
          simp only [Bool.and_eq_true] at hb
          exact nameOk_no hb.1.2
      · rw [if_neg h2] at hx
        by_cases h1 : kind = 1 ∨ kind = 8
        · rw [if_pos h1] at hx; simp [bys] at hx
        · rw [if_neg h1] at hx
          simp only [bys, List.map_cons, List.map_nil, List.mem_cons, List.not_mem_nil, or_false] at hx
          subst hx; exact itoa_no id
  · exact hnums x hx

theorem cut_text {e : Ent} (h : entOk e = true) : cutL 32 (entText e).data.toList = bys (entWs e) := by
  rw [entText_jl]
  exact cut_jl _ (by simp [entWs, bys]) (words_no h)
theorem bys_inj {a b : List ByteArray} (h : bys a = bys b) : a = b := by
  induction a generalizing b with
  | nil => cases b with
    | nil => rfl
    | cons y t => simp [bys] at h
  | cons x a ih => cases b with
    | nil => simp [bys] at h
    | cons y t =>
      simp only [bys, List.map_cons, List.cons.injEq] at h
      have e : x = y := by cases x; cases y; simpa using h.1
      rw [e, ih h.2]

theorem kind_word (k : Nat) (h1 : 1 ≤ k) (h9 : k ≤ 9) : kindOf (entW.getD k eZ) = k := by
  have : ∀ k, k < 10 → 1 ≤ k → kindOf (entW.getD k eZ) = k := by decide
  exact this k (by omega) h1
theorem numsOf_map {l : List Int} (h : numsIn l = true) : numsOf (l.map itoB) = some l := by
  rw [numsIn, List.all_eq_true] at h
  unfold numsOf
  rw [if_pos]
  · rw [List.map_map]
    congr 1
    conv => rhs; rw [← List.map_id l]
    exact List.map_congr_left fun n hn => (itoa_ok n (numIn_bd (h n hn)).1 (numIn_bd (h n hn)).2).2
  · rw [List.all_eq_true]
    intro s hs
    obtain ⟨n, hn, rfl⟩ := List.mem_map.1 hs
    exact (itoa_ok n (numIn_bd (h n hn)).1 (numIn_bd (h n hn)).2).1
theorem unNm_nmT {s : ByteArray} (h : emp s = true ∨ nameOk s.data.toList = true) : unNm (nmT s) = s := by
  unfold nmT
  split
  · rename_i h'
    have : emp s = true := by simpa [emp] using h'
    rw [emp_eq this]; rfl
  · rename_i hne
    rcases h with h | h
    · exact absurd (by simpa [emp] using h) hne
    · unfold unNm
      rw [if_neg]
      intro e
      rw [bB] at e
      rw [e] at h
      exact absurd h (by decide)

theorem parse_own {e : Ent} (h : entOk e = true) : parse (entWs e) = some e := by
  obtain ⟨hk, hi, hn, h4, hs, hz⟩ := entOk_bd h
  obtain ⟨kind, id, key, name, nums⟩ := e
  simp only [entOk, entBody, Bool.and_eq_true, Bool.or_eq_true, decide_eq_true_eq] at h
  have hb := h.2
  have hkey := h.1.2
  dsimp only at hk hi hn h4 hs hz
  have hid := itoa_ok id (by omega) (by omega)
  have hkw := kind_word kind.toNat (by omega) (by omega)
  have hnm := numsOf_map hn
  have hkn : ((kind.toNat : Nat) : Int) = kind := by omega
  unfold entWs parse
  dsimp only
  rw [hkw, if_neg (by omega)]
  by_cases h3 : kind = 3
  · subst h3
    rw [if_pos rfl, if_pos (by rfl)]
    rw [if_neg (by omega), if_neg (by omega), if_pos rfl] at hb
    simp only [Bool.and_eq_true, Bool.or_eq_true] at hb
    show (if numOk (bB (itoB id)) = true then _ else _) = _
    rw [if_pos (show numOk (bB (itoB id)) = true from hid.1), show numVal (bB (itoB id)) = id from hid.2]
    show Option.map _ (numsOf (nums.map itoB)) = _
    rw [hnm, Option.map_some, unNm_nmT hb.1.2]
  · have hke : key = eZ := emp_eq (by rcases hkey with h | h
                                      · exact h
                                      · exact absurd h h3)
    subst hke
    rw [if_neg h3, if_neg (by omega)]
    by_cases h2 : kind = 2 ∨ kind = 7
    · have hid0 : id = 0 := by
        rcases h2 with rfl | rfl
        · rw [if_neg (by omega), if_pos rfl] at hb
          simp only [Bool.and_eq_true, decide_eq_true_eq] at hb
          exact hb.1.1
        · rw [if_neg (by omega), if_neg (by omega), if_neg (by omega), if_neg (by omega), if_neg (by omega), if_pos rfl] at hb
          simp only [Bool.and_eq_true, decide_eq_true_eq] at hb
          exact hb.1.1
      rw [if_pos h2, if_pos (by omega)]
      show Option.map _ (numsOf (nums.map itoB)) = _
      rw [hnm, Option.map_some, hid0, hkn]
    · rw [if_neg h2, if_neg (by omega)]
      by_cases h1 : kind = 1 ∨ kind = 8
      · have hx : id = 0 ∧ emp name = true := by
          rcases h1 with rfl | rfl
          · rw [if_pos rfl] at hb
            simp only [Bool.and_eq_true, decide_eq_true_eq] at hb
            exact hb.1
          · rw [if_neg (by omega), if_neg (by omega), if_neg (by omega), if_neg (by omega), if_neg (by omega), if_neg (by omega), if_pos rfl] at hb
            simp only [Bool.and_eq_true, decide_eq_true_eq] at hb
            exact hb.1
        rw [if_pos h1, if_pos (by omega), List.nil_append, hnm, Option.map_some, hx.1, emp_eq hx.2, hkn]
      · have hx : emp name = true := by
          rcases (by omega : kind = 4 ∨ kind = 5 ∨ kind = 6 ∨ kind = 9) with rfl | rfl | rfl | rfl
          · rw [if_neg (by omega), if_neg (by omega), if_neg (by omega), if_pos (by omega)] at hb
            simp only [Bool.and_eq_true] at hb; exact hb.1.2
          · rw [if_neg (by omega), if_neg (by omega), if_neg (by omega), if_pos (by omega)] at hb
            simp only [Bool.and_eq_true] at hb; exact hb.1.2
          · rw [if_neg (by omega), if_neg (by omega), if_neg (by omega), if_neg (by omega), if_pos rfl] at hb
            simp only [Bool.and_eq_true] at hb; exact hb.1.2
          · rw [if_neg (by omega), if_neg (by omega), if_neg (by omega), if_neg (by omega), if_neg (by omega), if_neg (by omega), if_neg (by omega), if_pos rfl] at hb
            simp only [Bool.and_eq_true] at hb; exact hb.1.2
        rw [if_neg h1, if_neg (by omega)]
        show (if numOk (bB (itoB id)) = true then _ else _) = _
        rw [if_pos (show numOk (bB (itoB id)) = true from hid.1), show numVal (bB (itoB id)) = id from hid.2]
        show Option.map _ (numsOf (nums.map itoB)) = _
        rw [hnm, Option.map_some, emp_eq hx, hkn]

/-- A line is the text of an entry just if its words are read as it, and it is ok and has that text. -/
theorem parse_none {s : ByteArray} {ws : List ByteArray} (hw : bys ws = cutL 32 s.data.toList) (h : parse ws = none) : ∀ e, entOk e = true → entText e ≠ s := by
  rintro e he rfl
  rw [cut_text he] at hw
  rw [bys_inj hw, parse_own he] at h
  cases h
theorem parse_other {s : ByteArray} {ws : List ByteArray} {r : Ent} (hw : bys ws = cutL 32 s.data.toList) (h : parse ws = some r) (hr : entOk r = false ∨ entText r ≠ s) : ∀ e, entOk e = true → entText e ≠ s := by
  rintro e he rfl
  rw [cut_text he] at hw
  rw [bys_inj hw, parse_own he] at h
  cases h
  rcases hr with hr | hr
  · rw [he] at hr; cases hr
  · exact hr rfl
end Go.Proofs.YtbngjpnbjknliaaGreatDoor

namespace Go.Proofs.YtbngjpnbjknliaaGreatDoor
set_option linter.unusedVariables false
set_option linter.unusedSimpArgs false
open Go

theorem kindTo_le (s : ByteArray) : ∀ q, kindTo s (q + 1) ≤ q := by
  intro q
  induction q with
  | zero => show (if _ then _ else _) ≤ 0; split <;> simp [kindTo]
  | succ q ih =>
    show (if _ then _ else _) ≤ q + 1
    split
    · exact Nat.le_refl _
    · exact Nat.le_succ_of_le ih
theorem kindOf_le (s : ByteArray) : kindOf s ≤ 9 := kindTo_le s 9

theorem parse_0 {ps : List ByteArray} (h : 0 < ps.length) (hk : kindOf ps[0] = 0) : parse ps = none := by
  cases ps with
  | nil => simp at h
  | cons x rest => simp only [List.getElem_cons_zero] at hk; unfold parse; simp only [hk]; rfl
theorem parse_1 {ps : List ByteArray} {K : Nat} (h : 0 < ps.length) (hk : kindOf ps[0] = K) (h1 : K = 1 ∨ K = 8) : parse ps = (numsOf (ps.drop 1)).map fun l => ⟨K, 0, eZ, eZ, l⟩ := by
  cases ps with
  | nil => simp at h
  | cons x rest =>
    simp only [List.getElem_cons_zero] at hk; unfold parse; simp only [hk]
    rw [if_neg (by omega), if_neg (by omega), if_neg (by omega), if_pos h1]; rfl
theorem parse_2 {ps : List ByteArray} {K : Nat} (h : 1 < ps.length) (hk : kindOf ps[0] = K) (h1 : K = 2 ∨ K = 7) : parse ps = (numsOf (ps.drop 2)).map fun l => ⟨K, 0, eZ, ps[1], l⟩ := by
  match ps, h with
  | x :: y :: rest, _ =>
    simp only [List.getElem_cons_zero] at hk; unfold parse; simp only [hk]
    rw [if_neg (by omega), if_neg (by omega), if_pos h1]; rfl
theorem parse_2n {ps : List ByteArray} {K : Nat} (h0 : 0 < ps.length) (h : ¬ 1 < ps.length) (hk : kindOf ps[0] = K) (h1 : K = 2 ∨ K = 7) : parse ps = none := by
  match ps, h0, h with
  | [x], _, _ =>
    simp only [List.getElem_cons_zero] at hk; unfold parse; simp only [hk]
    rw [if_neg (by omega), if_neg (by omega), if_pos h1]
  | x :: y :: rest, _, h => simp at h
theorem parse_4 {ps : List ByteArray} {K : Nat} (h : 1 < ps.length) (hk : kindOf ps[0] = K) (h1 : K = 4 ∨ K = 5 ∨ K = 6 ∨ K = 9) : parse ps = if numOk (bB ps[1]) then (numsOf (ps.drop 2)).map fun l => ⟨K, numVal (bB ps[1]), eZ, eZ, l⟩ else none := by
  match ps, h with
  | x :: y :: rest, _ =>
    simp only [List.getElem_cons_zero] at hk; unfold parse; simp only [hk]
    rw [if_neg (by omega), if_neg (by omega), if_neg (by omega), if_neg (by omega)]; rfl
theorem parse_4n {ps : List ByteArray} {K : Nat} (h0 : 0 < ps.length) (h : ¬ 1 < ps.length) (hk : kindOf ps[0] = K) (h1 : K = 4 ∨ K = 5 ∨ K = 6 ∨ K = 9) : parse ps = none := by
  match ps, h0, h with
  | [x], _, _ =>
    simp only [List.getElem_cons_zero] at hk; unfold parse; simp only [hk]
    rw [if_neg (by omega), if_neg (by omega), if_neg (by omega), if_neg (by omega)]
  | x :: y :: rest, _, h => simp at h
theorem parse_3 {ps : List ByteArray} (h : 3 < ps.length) (hk : kindOf ps[0] = 3) : parse ps = if numOk (bB ps[1]) then (numsOf (ps.drop 4)).map fun l => ⟨3, numVal (bB ps[1]), ps[2], unNm ps[3], l⟩ else none := by
  match ps, h with
  | x :: y :: z :: u :: rest, _ =>
    simp only [List.getElem_cons_zero] at hk; unfold parse; simp only [hk]; rfl
theorem parse_3n {ps : List ByteArray} (h0 : 0 < ps.length) (h : ¬ 3 < ps.length) (hk : kindOf ps[0] = 3) : parse ps = none := by
  match ps, h0, h with
  | [x], _, _ => simp only [List.getElem_cons_zero] at hk; unfold parse; simp only [hk]; rfl
  | [x, y], _, _ => simp only [List.getElem_cons_zero] at hk; unfold parse; simp only [hk]; rfl
  | [x, y, z], _, _ => simp only [List.getElem_cons_zero] at hk; unfold parse; simp only [hk]; rfl
  | x :: y :: z :: u :: rest, _, h => simp at h

/-- Where the reading stands behind the kind: its number, its name, how many words were taken, and whether all was a number so far. -/
def After (K : Nat) (ps : List ByteArray) (id : Int) (name : ByteArray) (n : Nat) (ok : Bool) : Prop :=
  n ≤ ps.length ∧ 0 < K ∧ ((K = 3 ∧ n = 2 ∧ name = eZ ∧ ∃ h : 1 < ps.length, ok = numOk (bB ps[1]) ∧ (ok = true → id = numVal (bB ps[1]))) ∨
  (K ≠ 3 ∧ parse ps = if ok then (numsOf (ps.drop n)).map (fun l => ⟨K, id, eZ, name, l⟩) else none))
/-- .. behind the key and the name of an ask. -/
def After2 (K : Nat) (ps : List ByteArray) (id : Int) (key name : ByteArray) (n : Nat) (ok : Bool) : Prop :=
  n ≤ ps.length ∧ parse ps = if ok then (numsOf (ps.drop n)).map (fun l => ⟨K, id, key, name, l⟩) else none
end Go.Proofs.YtbngjpnbjknliaaGreatDoor

namespace Go.Proofs.YtbngjpnbjknliaaGreatDoor
set_option linter.unusedVariables false
set_option linter.unusedSimpArgs false
open Go.RowKit Go

theorem Acc.setElse {w : World} {F : Nat} {e : TypeId} {size : Nat} {v : Value} {n : Nat} {xs : List Value} (h : Acc w F e size v n xs) {p : Addr} (hp : p.block < F) (u : Value) : Acc (w.setCell p u) F e size v n xs := by
  rcases h with ⟨rfl, rfl, a, rfl, h⟩ | h
  · exact .inl ⟨rfl, rfl, a, rfl, fun x hx => ⟨(h x hx).1, by simpa using (h x hx).2⟩⟩
  · have hbb := (Below.refl 0 w).setCell (p := p) (Nat.zero_le _) u
    refine .inr (h.kept (row := some p.block) ⟨hbb.os, hbb.tape, hbb.output, hbb.size, fun k _ hk => Below.heap_setCell w p u k (fun e => hk (by rw [e]))⟩ ?_)
    cases hv : v.ownBlock with
    | none => exact .inl rfl
    | some k =>
      refine .inr fun e => ?_
      have := (h.lt k hv).1
      simp at e
      omega
theorem isRow_of_row {w : World} {a : Option Addr} {n cap : Nat} {nums : List Int} (h : Row w (.slice a n cap) (nums.map (Value.int .i64))) (hw : ∀ x ∈ nums, (Lit.int .i64 x).wf = true) : IsRow .i64 w a n cap nums ∧ n = nums.length := by
  rcases h with ⟨h, h'⟩ | ⟨b, off, cap', h, h1, h2, hbl, hc⟩
  · simp only [Value.slice.injEq] at h
    obtain ⟨rfl, rfl, rfl⟩ := h
    have : nums = [] := by simpa using h'
    subst this
    exact ⟨⟨rfl, Nat.le_refl _, by unfold maxLen; omega, fun h => by omega, fun n hn => by cases hn⟩, rfl⟩
  · simp only [Value.slice.injEq, List.length_map] at h
    obtain ⟨rfl, rfl, rfl⟩ := h
    rw [List.length_map] at h1
    refine ⟨⟨rfl, h1, h2, fun _ => ⟨b, off, rfl, hbl, fun i hi => ?_⟩, hw⟩, rfl⟩
    exact hc i _ (by rw [List.getElem?_map, List.getElem?_eq_getElem hi, getD_at nums i hi]; rfl)

/-- One number is appended. -/
theorem wp_acc_int {w : World} {ops : Array Oper} {rest : List Oper} {o : Oper} {a : Act} {Q : Exit → Act → World → Prop} (hgd : o.guard = none) (s x : Operand)
    (ho : o.op = .call { callee := .builtin .append, args := #[s, x], argTypes := #[30, 30] })
    (F : Nat) (v : Value) (n : Nat) (xs : List Int) (hs : a.eval s = v) (hacc : Acc w F 3 1 v n (xs.map (Value.int .i64)))
    (ad : Addr) (c : Nat) (z : Int) (hx : a.eval x = .slice (some ad) 1 c) (hc : w.cell? ad = some (.int .i64 z))
    (hn : n ≤ 1099511627776) (hF : F ≤ w.heap.size)
    (h : ∀ v' w', Acc w' F 3 1 v' (n + 1) ((xs ++ [z]).map (Value.int .i64)) → Below F w w' → wpList Tryz.prog ops Q rest (a.put o.dst v') w') : wpList Tryz.prog ops Q (o :: rest) a w := by
  refine wp_acc hgd s x 30 ho F 3 _ 1 8 Tryz.underlying30 Tryz.infoI rfl (by decide) v n (xs.map (Value.int .i64)) hs hacc ad 1 c [.int .i64 z] hx (by decide) rfl ?_ ?_ (by unfold maxLen; omega) (by omega) hF ?_
  · intro j u hj
    match j, hj with
    | 0, hj => simp at hj; subst hj; simpa [Addr.add] using hc
  · intro u hu; simp at hu; subst hu; rfl
  · intro v' w' h1 h2
    exact h v' w' (by rw [List.map_append]; exact h1) h2

theorem body_bd {d : List UInt8} (h : numBody d = true) : 0 ≤ digVal 0 d ∧ digVal 0 d ≤ 9999 := by
  simp only [numBody, Bool.and_eq_true, decide_eq_true_eq] at h
  have hb := digVal_bd d 0 (by omega) h.2
  have h4 : d.length ≤ 4 := h.1.1.2
  have hp : (10 : Int) ^ d.length ≤ 10 ^ 4 := by
    have : (10 : Nat) ^ d.length ≤ 10 ^ 4 := Nat.pow_le_pow_right (by omega) h4
    exact_mod_cast this
  omega
theorem numVal_bd {l : List UInt8} (h : numOk l = true) : -9999 ≤ numVal l ∧ numVal l ≤ 9999 := by
  unfold numOk at h
  unfold numVal
  split at h
  · rename_i hn
    rw [if_pos hn]
    simp only [Bool.and_eq_true] at h
    have := body_bd h.1
    omega
  · rename_i hn
    rw [if_neg hn]
    have := body_bd h
    omega
theorem wf_small {z : Int} (h : -9999 ≤ z ∧ z ≤ 9999) : (Lit.int .i64 z).wf = true := by
  have e1 : IntKind.i64.min = -9223372036854775808 := by decide
  have e2 : IntKind.i64.max = 9223372036854775807 := by decide
  simp only [Lit.wf, e1, e2, Bool.and_eq_true, decide_eq_true_eq]; omega

/-- .. behind some of the numbers. -/
def AfterN (K : Nat) (ps : List ByteArray) (id : Int) (key name : ByteArray) (nums : List Int) (n : Nat) (ok : Bool) : Prop :=
  n ≤ ps.length ∧ parse ps = if ok then (numsOf (ps.drop n)).map (fun l => ⟨K, id, key, name, nums ++ l⟩) else none
theorem AfterN.start {K : Nat} {ps : List ByteArray} {id : Int} {key name : ByteArray} {n : Nat} {ok : Bool} (h : After2 K ps id key name n ok) : AfterN K ps id key name [] n ok := by
  simpa [AfterN, After2] using h
theorem numsOf_cons (x : ByteArray) (t : List ByteArray) : numsOf (x :: t) = if numOk (bB x) then (numsOf t).map (numVal (bB x) :: ·) else none := by
  unfold numsOf
  by_cases h : numOk (bB x) = true
  · rw [if_pos h]
    by_cases h2 : t.all (fun s => numOk (bB s)) = true
    · rw [if_pos (by simp [h]; simpa using h2), if_pos h2]; rfl
    · rw [if_neg (by simp [h]; simpa using h2), if_neg h2]; rfl
  · rw [if_neg h, if_neg (by simp [h])]
theorem AfterN.step {K : Nat} {ps : List ByteArray} {id : Int} {key name : ByteArray} {nums : List Int} {n : Nat} (h : AfterN K ps id key name nums n true) (hn : n < ps.length) (z : Int) (hz : numOk (bB ps[n]) = true → z = numVal (bB ps[n])) : AfterN K ps id key name (nums ++ [z]) (n + 1) (numOk (bB ps[n])) := by
  refine ⟨hn, ?_⟩
  rw [h.2, if_pos rfl, List.drop_eq_getElem_cons hn, numsOf_cons]
  by_cases ho : numOk (bB ps[n]) = true
  · rw [if_pos ho, if_pos ho, hz ho, Option.map_map]
    congr 1
    funext l
    simp
  · rw [if_neg ho, if_neg ho]; rfl
theorem AfterN.done {K : Nat} {ps : List ByteArray} {id : Int} {key name : ByteArray} {nums : List Int} {n : Nat} (h : AfterN K ps id key name nums n true) (hn : ¬ n < ps.length) : parse ps = some ⟨K, id, key, name, nums⟩ := by
  rw [h.2, if_pos rfl, List.drop_of_length_le (by omega)]
  simp [numsOf]
theorem AfterN.bad {K : Nat} {ps : List ByteArray} {id : Int} {key name : ByteArray} {nums : List Int} {n : Nat} (h : AfterN K ps id key name nums n false) : parse ps = none := by
  rw [h.2]; rfl
end Go.Proofs.YtbngjpnbjknliaaGreatDoor

namespace Go.Proofs.YtbngjpnbjknliaaGreatDoor
set_option linter.unusedVariables false
set_option linter.unusedSimpArgs false
open Go.RowKit Go

theorem kindTo_step (s : ByteArray) (q : Nat) (h : 1 ≤ q) : kindTo s (q + 1) = if bB (entW.getD q eZ) = bB s then q else kindTo s q := by
  show (if 1 ≤ q ∧ _ then _ else _) = _
  by_cases e : bB (entW.getD q eZ) = bB s
  · rw [if_pos ⟨h, e⟩, if_pos e]
  · rw [if_neg (fun x => e x.2), if_neg e]
theorem bB_eq (a b : ByteArray) : bB a = bB b ↔ (a.toList == b.toList) = true := by
  rw [eqS_iff]
  constructor
  · intro h; cases a; cases b; simpa [bB] using h
  · rintro rfl; rfl

theorem cutL_len (c : UInt8) (l : List UInt8) : ∀ x ∈ cutL c l, x.length ≤ l.length := by
  induction l with
  | nil => intro x hx; simp [cutL] at hx; subst hx; simp
  | cons y l ih =>
    intro x hx
    rw [cutL] at hx
    split at hx
    · rcases List.mem_cons.1 hx with rfl | hx
      · simp
      · have := ih x hx; simp; omega
    · split at hx
      · rename_i h t he
        rcases List.mem_cons.1 hx with rfl | hx
        · have := ih h (by rw [he]; simp); simp; omega
        · have := ih x (by rw [he]; simp [hx]); simp; omega
      · simp at hx; subst hx; simp
theorem words_size {c : UInt8} {s : ByteArray} {ps : List ByteArray} (h : bys ps = cutL c s.data.toList) (hs : s.size ≤ 16777216) : ∀ k (hk : k < ps.length), ps[k].size ≤ maxLen := by
  intro k hk
  have hm : (ps[k]).data.toList ∈ cutL c s.data.toList := by
    rw [← h]; exact List.mem_map.2 ⟨_, List.getElem_mem hk, rfl⟩
  have := cutL_len c _ _ hm
  unfold maxLen
  simp at this
  have h2 : ps[k].size ≤ s.size := this
  omega
theorem cutL_many (c : UInt8) (l : List UInt8) : (cutL c l).length ≤ l.length + 1 := by
  induction l with
  | nil => simp [cutL]
  | cons y l ih =>
    rw [cutL]
    split
    · simp; omega
    · split
      · rename_i h t he; rw [he] at ih; simp at ih ⊢; omega
      · simp
theorem words_many {c : UInt8} {s : ByteArray} {ps : List ByteArray} (h : bys ps = cutL c s.data.toList) (hs : s.size ≤ 16777216) : ps.length ≤ 16777217 := by
  have := cutL_many c s.data.toList
  rw [← h] at this
  simp [bys] at this
  have h2 : ps.length ≤ s.size + 1 := this
  omega
/-- What l21Line answers: an entry, just if the line is the text of one that is ok. -/
def LinePost (s : ByteArray) (w : World) (e : Ending) (w' : World) : Prop :=
  ∃ (k id : Int) (key nm : ByteArray) (a : Option Addr) (l c : Nat) (ok : Bool), e = .returned (.tuple #[.agg #[.int .i64 k, .int .i64 id, .string key, .string nm, .slice a l c], .bool ok]) ∧ Below w.heap.size w w' ∧
    (ok = true → ∃ r, EntIs w' [.int .i64 k, .int .i64 id, .string key, .string nm, .slice a l c] r ∧ entOk r = true ∧ entText r = s ∧ (0 < l → ∀ b off, a = some ⟨b, off, none⟩ → w.heap.size ≤ b)) ∧
    (ok = false → ∀ r, entOk r = true → entText r ≠ s)
theorem Holds.later {w w' : World} {N B : Nat} {t : TypeId} {cur : Array Value} (h : Holds w N t cur) (hb : Below B w w') (hN : N < B) : Holds w' N t cur := by
  unfold Holds at h ⊢; rw [hb.block N hN]; exact h

theorem five {w : World} {N : Nat} {t : TypeId} {v0 v1 v2 v3 v4 : Value} (h : Holds w N t #[v0, v1, v2, v3, v4]) : w.cell? ⟨N, 0, none⟩ = some v0 ∧ w.cell? ⟨N, 1, none⟩ = some v1 ∧ w.cell? ⟨N, 2, none⟩ = some v2 ∧ w.cell? ⟨N, 3, none⟩ = some v3 ∧ w.cell? ⟨N, 4, none⟩ = some v4 :=
  ⟨by rw [h.cell]; rfl, by rw [h.cell]; rfl, by rw [h.cell]; rfl, by rw [h.cell]; rfl, by rw [h.cell]; rfl⟩
theorem holds_drew {w : World} {N : Nat} {t : TypeId} {cur : Array Value} (h : Holds w N t cur) : Holds w.drew N t cur := h
theorem holds_else {w : World} {N R : Nat} {t : TypeId} {cur : Array Value} (h : Holds w N t cur) (i : Nat) (u : Value) (hne : N ≠ R) : Holds (w.setCell ⟨R, i, none⟩ u) N t cur := by
  unfold Holds at h ⊢; rw [Below.heap_setCell w ⟨R, i, none⟩ u N hne]; exact h
theorem holds_else5 {w : World} {N R : Nat} {t : TypeId} {cur : Array Value} (h : Holds w N t cur) (u0 u1 u2 u3 u4 : Value) (hne : N ≠ R) : Holds (((((w.setCell ⟨R, 0, none⟩ u0).setCell ⟨R, 1, none⟩ u1).setCell ⟨R, 2, none⟩ u2).setCell ⟨R, 3, none⟩ u3).setCell ⟨R, 4, none⟩ u4) N t cur :=
  holds_else (holds_else (holds_else (holds_else (holds_else h 0 u0 hne) 1 u1 hne) 2 u2 hne) 3 u3 hne) 4 u4 hne

theorem isRow_set5far {k : IntKind} {w : World} {a : Option Addr} {len cap : Nat} {zs : List Int} (h : IsRow k w a len cap zs) {N : Nat} (hf : 0 < len → ∀ b off, a = some ⟨b, off, none⟩ → b ≠ N) (v0 v1 v2 v3 v4 : Value) :
    IsRow k (((((w.setCell ⟨N, 0, none⟩ v0).setCell ⟨N, 0 + 1, none⟩ v1).setCell ⟨N, 0 + 2, none⟩ v2).setCell ⟨N, 0 + 3, none⟩ v3).setCell ⟨N, 0 + 4, none⟩ v4) a len cap zs := by
  obtain ⟨h1, h2, h3, h4, h5⟩ := h
  refine ⟨h1, h2, h3, fun hl => ?_, h5⟩
  obtain ⟨b, off, rfl, hb1, hc⟩ := h4 hl
  have hne := hf hl b off rfl
  refine ⟨b, off, rfl, by simpa using hb1, fun i hi => ?_⟩
  rw [← hc i hi]
  refine World.cell?_of_block (a := ⟨b, off + i, none⟩) ?_
  rw [Below.heap_setCell _ ⟨N, 0 + 4, none⟩ v4 b hne, Below.heap_setCell _ ⟨N, 0 + 3, none⟩ v3 b hne, Below.heap_setCell _ ⟨N, 0 + 2, none⟩ v2 b hne, Below.heap_setCell _ ⟨N, 0 + 1, none⟩ v1 b hne, Below.heap_setCell _ ⟨N, 0, none⟩ v0 b hne]
theorem acc_far {w : World} {F : Nat} {a : Option Addr} {n c m : Nat} {xs : List Value} (h : Acc w F 3 1 (.slice a n c) m xs) : 0 < n → ∀ b off, a = some ⟨b, off, none⟩ → F ≤ b := by
  intro hn b off e
  rcases h with ⟨_, _, a', h, _⟩ | h
  · simp only [Value.slice.injEq] at h; omega
  · rcases h.2 with ⟨h', _⟩ | ⟨g, cap, cur, h', hg, _⟩
    · simp only [Value.slice.injEq] at h'; omega
    · simp only [Value.slice.injEq] at h'
      rw [h'.1] at e
      simp only [Option.some.injEq, Addr.mk.injEq, and_true] at e
      omega

theorem undrewR {B : Nat} {w w' : World} (h : Below B w.drew w') : Below B w w' := ⟨h.os, h.tape, h.output, h.size, h.block⟩
theorem wpAnyH_one {P : Program} {ops : Array Oper} {Q : Exit → Act → World → Prop} {md : Region.Mode} {S : World → Prop} {fuel : Nat} {listed : Array Bool} {a : Act} {w : World} {i : Nat} {o : Oper} (hi : ops[i]? = some o) (hr : Region.ready md ops listed = [i]) (hw : Region.wanted o (yielded ops a.tmps) = true)
    (h : ∀ K : Act → World → Prop, (∀ a' w', S w' → wpAnyH P md ops Q S fuel (listed.setIfInBounds i true) a' w' → K a' w') → Oper.wp P o a w K Q) : wpAnyH P md ops Q S (fuel + 1) listed a w := by
  refine wpAnyH_all hr (by simp) fun j hj => ?_
  simp only [List.mem_singleton] at hj
  subst hj
  unfold wpOp
  simp only [hi, hw, if_true]
  exact .inl (h _ fun a' w' h1 h2 => ⟨h1, h2⟩)
theorem wp_call1 {P : Program} {o : Oper} {a : Act} {K : Act → World → Prop} {Q : Exit → Act → World → Prop} {w : World} {f : Nat} {R : Ending → World → Prop} {v : Value} (hc : Calls P f #[v] w R) (hR : ∀ e w', R e w' → ∃ r, e = .returned r) (en : ∀ args w, (callFunc f args).run P w = .ok (.enter f args) w) (s : Operand) (tys : Array TypeId)
    (ho : o.op = .call { callee := .value (.func f), args := #[s], argTypes := tys }) (hs : a.eval s = v) (h : ∀ r w', R (.returned r) w' → K (a.put o.dst r) w') : Oper.wp P o a w K Q := by
  have hx : (execOp a.eval o).run P w = .ok (.enter f #[v]) w := by
    unfold execOp
    have hs' := hs
    simp only [Act.eval] at hs'
    simp [ho, resolve, invoke, go_sem, en]
    first | exact hs' | (rw [← hs]; cases s <;> rfl) | (rw [← hs]; cases s <;> simp [Act.eval])
  unfold Oper.wp
  rw [hx, Oper.upon_enter]
  refine hc.mono fun e w' hr => ?_
  obtain ⟨r, rfl⟩ := hR e w' hr
  exact h r w' hr

end Go.Proofs.YtbngjpnbjknliaaGreatDoor
