/- The program's HistRead, up to what it makes of the lines. -/
import Derived.Test.YtbngjpnbjknliaaGreatDoorJ16
import Derived.Test.YtbngjpnbjknliaaGreatDoorJ8
import Derived.Test.YtbngjpnbjknliaaGreatDoorJ4
import Derived.Test.YtbngjpnbjknliaaGreatDoorJ1
import Derived.Test.YtbngjpnbjknliaaGreatDoorJ6
import Derived.Test.YtbngjpnbjknliaaGreatDoorJ15
import Derived.RangeFuncFrom
namespace Go.Proofs.YtbngjpnbjknliaaGreatDoor
set_option linter.unusedVariables false
set_option linter.unusedSimpArgs false
open Go.RowKit Go

theorem builder_below {T e : TypeId} {B b : Nat} {bs : List Value} {w w' : World} (h : Lib.IsBuilderF T e B b bs w) (hb : Below w.heap.size w w') : Lib.IsBuilderF T e B b bs w' := by
  have key : ∀ p, Lib.BuilderAtF T e B b p bs w → Lib.BuilderAtF T e B b p bs w' := fun p h => by
    have hlt := h.lt
    obtain ⟨hB, v, hbk, hown, hne⟩ := h
    exact ⟨hB, v, (hb.block b hlt).trans hbk, hown.kept (row := none) ⟨hb.os, hb.tape, hb.output, hb.size, fun k hk _ => hb.block k hk⟩ (by cases hv : v.ownBlock <;> simp), hne⟩
  exact h.elim (fun x => .inl (key _ x)) (fun x => .inr (key _ x))

/-- Words, a space between. -/
def joinB (x : ByteArray) (ys : List ByteArray) : ByteArray := ys.foldl (fun o y => o ++ spB ++ y) x
theorem joinB_app (x : ByteArray) (ys zs : List ByteArray) : joinB x (ys ++ zs) = joinB (joinB x ys) zs := by simp [joinB]
theorem joinB_nums (x : ByteArray) (zs : List Int) : joinB x (numS zs) = numsT x zs := by simp [joinB, numsT, numS, List.foldl_map]
theorem joinB_join (x : ByteArray) (ys : List ByteArray) : (⟨(Lib.join ((x :: ys).map (·.data.toList)) spB.data.toList).toArray⟩ : ByteArray) = joinB x ys := by
  have key : ∀ (ys : List ByteArray) (x : ByteArray), (joinB x ys).data.toList = x.data.toList ++ Lib.joinTail spB.data.toList (ys.map (·.data.toList)) := by
    intro ys
    induction ys with
    | nil => intro x; simp [joinB, Lib.joinTail]
    | cons y r ih =>
      intro x
      have h := ih (x ++ spB ++ y)
      simp only [joinB, List.foldl_cons] at h ⊢
      rw [h]
      simp [Lib.joinTail]
  rw [List.map_cons, Lib.join_cons, ← key]

/-- The words of an entry that is ok, one behind the other: its text. -/
theorem entryWords (kind id : Int) (key name : ByteArray) (a : Option Addr) (len cap : Nat) (zs : List Int) (w : World) (hr : IsRow .i64 w a len cap zs) (ht : Tab w) (hok : entOk ⟨kind, id, key, name, zs⟩ = true) :
    Calls Tryz.prog 36 #[.agg #[.int .i64 kind, .int .i64 id, .string key, .string name, .slice a len cap]] w fun e w' => ∃ v x ys, e = .returned v ∧ (Row w' v (sv (x :: ys)) ∧ ys.length ≤ 8 ∧ joinB x ys = entText ⟨kind, id, key, name, zs⟩) ∧ Below w.heap.size w w' := by
  obtain ⟨hk, hi, hn, h4, hs, hz⟩ := entOk_bd hok
  simp only at hk hi hn h4 hs hz
  have hl : len ≤ 1048576 := by rw [← hr.len.1]; omega
  have hw : (Lit.int .i64 id).wf = true := by
    have hmin : IntKind.i64.min = -9223372036854775808 := rfl
    have hmax : IntKind.i64.max = 9223372036854775807 := rfl
    simp only [Lit.wf, Bool.and_eq_true, decide_eq_true_eq]; omega
  have hbody := hok
  simp only [entOk, entBody, Bool.and_eq_true] at hbody
  rcases (by omega : kind = 1 ∨ kind = 2 ∨ kind = 3 ∨ kind = 4 ∨ kind = 5 ∨ kind = 6 ∨ kind = 7 ∨ kind = 8 ∨ kind = 9) with rfl | rfl | rfl | rfl | rfl | rfl | rfl | rfl | rfl
  · refine (entryWords_1 id key name a len cap zs w hr ht hl hw).mono ?_
    rintro e w' ⟨v, rfl, hv, hb⟩
    exact ⟨v, _, _, rfl, ⟨hv, by rw [numS_len]; omega, by rw [joinB_nums]; rfl⟩, hb⟩
  · refine (entryWords_2 id key name a len cap zs w hr ht hl hw).mono ?_
    rintro e w' ⟨v, rfl, hv, hb⟩
    have h0 : zs.length = 0 := by have h := hbody.2; simp at h; exact List.length_eq_zero_iff.2 h.2
    have hzs : zs = [] := List.length_eq_zero_iff.1 h0
    subst hzs
    exact ⟨v, _, _, rfl, ⟨hv, by simp, rfl⟩, hb⟩
  · refine (entryWords_3 id key name a len cap zs w hr ht hl hw).mono ?_
    rintro e w' ⟨v, rfl, hv, hb⟩
    exact ⟨v, _, _, rfl, ⟨hv, by simp [numS_len]; omega, by rw [show itoB id :: key :: nmT name :: numS zs = [itoB id, key, nmT name] ++ numS zs from rfl, joinB_app, joinB_nums]; rfl⟩, hb⟩
  · refine (entryWords_4 id key name a len cap zs w hr ht hl hw).mono ?_
    rintro e w' ⟨v, rfl, hv, hb⟩
    have h0 : zs.length = 1 := by have h := hbody.2; simp at h; exact h.2
    obtain ⟨z, rfl⟩ := List.length_eq_one_iff.1 h0
    exact ⟨v, _, _, rfl, ⟨hv, by simp [hapS], rfl⟩, hb⟩
  · refine (entryWords_5 id key name a len cap zs w hr ht hl hw).mono ?_
    rintro e w' ⟨v, rfl, hv, hb⟩
    have h0 : zs.length = 1 := by have h := hbody.2; simp at h; exact h.2
    obtain ⟨z, rfl⟩ := List.length_eq_one_iff.1 h0
    exact ⟨v, _, _, rfl, ⟨hv, by simp [hapS], rfl⟩, hb⟩
  · refine (entryWords_6 id key name a len cap zs w hr ht hl hw).mono ?_
    rintro e w' ⟨v, rfl, hv, hb⟩
    have h0 : zs.length = 0 := by have h := hbody.2; simp at h; exact List.length_eq_zero_iff.2 h.2
    have hzs : zs = [] := List.length_eq_zero_iff.1 h0
    subst hzs
    exact ⟨v, _, _, rfl, ⟨hv, by simp [hapS], rfl⟩, hb⟩
  · refine (entryWords_7 id key name a len cap zs w hr ht hl hw).mono ?_
    rintro e w' ⟨v, rfl, hv, hb⟩
    have h0 : zs.length = 1 := by have h := hbody.2; simp at h; exact h.2
    obtain ⟨z, rfl⟩ := List.length_eq_one_iff.1 h0
    exact ⟨v, _, _, rfl, ⟨hv, by simp [hapS], rfl⟩, hb⟩
  · refine (entryWords_8 id key name a len cap zs w hr ht hl hw).mono ?_
    rintro e w' ⟨v, rfl, hv, hb⟩
    have h0 : zs.length = 0 := by have h := hbody.2; simp at h; exact List.length_eq_zero_iff.2 h.2
    have hzs : zs = [] := List.length_eq_zero_iff.1 h0
    subst hzs
    exact ⟨v, _, _, rfl, ⟨hv, by simp [hapS], rfl⟩, hb⟩
  · refine (entryWords_9 id key name a len cap zs w hr ht hl hw).mono ?_
    rintro e w' ⟨v, rfl, hv, hb⟩
    exact ⟨v, _, _, rfl, ⟨hv, by simp [numS_len]; omega, by rw [show itoB id :: numS zs = [itoB id] ++ numS zs from rfl, joinB_app, joinB_nums]; rfl⟩, hb⟩

/-- What the program's Join answers of them. -/
theorem joinWords (v : Value) (x : ByteArray) (ys : List ByteArray) (t : ByteArray) (w : World) (hr : Row w v (sv (x :: ys))) (hy : ys.length ≤ 8) (hj : joinB x ys = t) (ht : t.size ≤ 1000000) :
    Calls Tryz.prog 35 #[v, .string ⟨#[32]⟩] w fun e w' => e = .returned (.string t) ∧ Below w.heap.size w w' := by
  rcases hr with ⟨_, h⟩ | ⟨b, off, cap, rfl, h1, h2, hb, hc⟩
  · simp [sv] at h
  · have hjj := joinB_join x ys
    have h3 : Lib.join ((x :: ys).map (·.data.toList)) spB.data.toList = t.data.toList := by rw [← hj, ← hjj]
    have hlen : (Lib.join ((x :: ys).map (·.data.toList)) spB.data.toList).length ≤ 140737488355328 := by
      rw [h3, Array.length_toList]; exact Nat.le_trans ht (by decide)
    have h := strings_Join b off cap (x :: ys) spB w (fun j u hu => hc j _ (by unfold sv; rw [List.getElem?_map, hu]; rfl)) hb (by simp; omega) (by rw [sv_len] at h1; exact h1) hlen
    rw [hjj, hj] at h
    rw [sv_len]
    exact h

set_option maxHeartbeats 1000000 in
theorem allHold (a : Option Addr) (len cap : Nat) (es : List Ent) (w : World) (hr : IsEnts w a len cap es) :
    Calls Tryz.prog 32 #[.slice a len cap, .func (.func 33) #[] #[]] w fun e w' => e = .returned (.bool (es.all entOk)) ∧ Below w.heap.size w w' := by
  obtain ⟨hz, hm⟩ := IsRecs.len hr
  unfold maxLen at hm
  have HR : Hid (IsEnts w a len cap es) := hr
  clear hr
  go_enter Tryz.func32, Tryz.ntmps32
  go_wp2
  go_loopw [9] (fun i wr => ∃ q : Nat, i = .int .i64 q ∧ q ≤ len ∧ (∀ i (hi : i < es.length), i < q → entOk es[i] = true) ∧ Below w.heap.size w wr) (fun i _ => len - (intOf i).toNat)
  case atStart => exact ⟨0, rfl, Nat.zero_le _, fun i _ h => by omega, Below.refl _ _⟩
  case round =>
    obtain ⟨q, rfl, hq, hok, hb⟩ := hrel
    by_cases hlt : q < len
    · obtain ⟨b, off, rfl, h1, hbl, a1, l1, k1, c0, c1, c2, c3, c4, hrow1, hks, hns, _, _⟩ := IsEnts.at (IsEnts.below HR.out hb) (i := q) (by omega)
      have HE := fun o => entryOk es[q].kind es[q].id es[q].key es[q].name a1 l1 k1 es[q].nums (wr.alloc o) (hrow1.alloc o) hks hns
      have ee : (⟨es[q].kind, es[q].id, es[q].key, es[q].name, es[q].nums⟩ : Ent) = es[q] := rfl
      rw [ee] at HE
      by_cases hy : entOk es[q] = true
      · have HOK : Hid (∀ i (hi : i < es.length), i < q + 1 → entOk es[i] = true) := fun i hi hiq => by
          by_cases e : i = q
          · subst e; exact hy
          · exact hok i hi (by omega)
        rw [hy] at HE
        have HE : Hid _ := HE
        clear hok hy ee
        go_wp2_with (go_at_call 33; refine (HE.out _).mono ?_; rintro e w1 ⟨rfl, hw1⟩)
        go_roundw
        case rel => exact ⟨q + 1, by go_num, by omega, HOK.out, bcall (hb.alloc hb.size _) (by have := hb.size; simp; omega) hw1⟩
        case measure => simp [intOf]; omega
      · have hy : entOk es[q] = false := by simpa using hy
        have HF : Hid (es.all entOk = false) := by rw [Hid, List.all_eq_false]; exact ⟨es[q], List.getElem_mem _, by simp [hy]⟩
        rw [hy] at HE
        have HE : Hid _ := HE
        clear hok hy ee
        go_wp2_with (go_at_call 33; refine (HE.out _).mono ?_; rintro e w1 ⟨rfl, hw1⟩)
        go_ret
        exact ⟨ret_bool HF.out.symm, bcall (hb.alloc hb.size _) (by have := hb.size; simp; omega) hw1⟩
    · have HF : Hid (es.all entOk = true) := by
        rw [Hid, List.all_eq_true]; intro x hx; obtain ⟨i, hi, rfl⟩ := List.mem_iff_getElem.1 hx; exact hok i hi (by omega)
      clear hok
      go_wp2_with fail
      go_ret
      exact ⟨ret_bool HF.out.symm, hb⟩
end Go.Proofs.YtbngjpnbjknliaaGreatDoor

namespace Go.Proofs.YtbngjpnbjknliaaGreatDoor
set_option linter.unusedVariables false
set_option linter.unusedSimpArgs false
open Go.RowKit Go

theorem strCells_app (a b : ByteArray) : Lib.strCells (a ++ b) = Lib.strCells a ++ Lib.strCells b := by simp [Lib.strCells]
theorem strCells_nl : Lib.strCells nlB = [.int .u8 10] := rfl
theorem histT_take {es : List Ent} {q : Nat} (h : q < es.length) : Lib.strCells (histT (es.take (q + 1))) = Lib.strCells (histT (es.take q)) ++ Lib.strCells (entText es[q]) ++ [.int .u8 10] := by
  rw [List.take_succ_eq_append_getElem h, histT_snoc, strCells_app, strCells_app, strCells_nl]

set_option maxRecDepth 100000 in
set_option maxHeartbeats 2000000 in
theorem implHistWrite (a : Option Addr) (len cap : Nat) (es : List Ent) (w : World) (hr : IsEnts w a len cap es) (ht : Tab w) :
    Calls Tryz.prog 14 #[.slice a len cap] w fun e w' => e = .returned (.string (histW es)) ∧ Below w.heap.size w w' := by
  obtain ⟨hz, hm⟩ := IsRecs.len hr
  unfold maxLen at hm
  have HAL : Hid (Calls Tryz.prog 32 #[.slice a len cap, .func (.func 33) #[] #[]] w fun e w' => e = .returned (.bool (es.all entOk)) ∧ Below w.heap.size w w') := allHold a len cap es w hr
  have HR : Hid (IsEnts w a len cap es) := hr
  have HT : Hid (Tab w) := ht
  clear hr ht
  by_cases h400 : len ≤ 400
  · cases hall : es.all entOk
    · have HF : Hid (histW es = ⟨#[]⟩) := if_neg (by simp [entsOk, hall])
      rw [hall] at HAL
      have hd : decide ((400 : Int) < (len : Int)) = false := decide_eq_false (by omega)
      go_enter Tryz.func14, Tryz.ntmps14
      go_wp2_with (go_at_call 32; refine HAL.out.mono ?_; rintro e w1 ⟨rfl, hw1⟩)
      go_ret
      exact ⟨by rw [HF.out]; rfl, hw1⟩
    · have HF : Hid (histW es = histT es) := if_pos (by simp [entsOk, hall]; omega)
      rw [hall] at HAL
      rw [List.all_eq_true] at hall
      have HALL : Hid (∀ e ∈ es, entOk e = true) := hall
      clear hall
      have hd : decide ((400 : Int) < (len : Int)) = false := decide_eq_false (by omega)
      go_enter Tryz.func14, Tryz.ntmps14
      go_wp2_with (go_at_call 32; refine HAL.out.mono ?_; rintro e w1 ⟨rfl, hw1⟩)
      go_loopw [16] (fun i wr => ∃ q : Nat, i = .int .i64 q ∧ q ≤ len ∧ Lib.IsBuilderF 52 5 w1.heap.size w1.heap.size (Lib.strCells (histT (es.take q))) wr ∧ Below w1.heap.size w1 wr) (fun i _ => len - (intOf i).toNat)
      case atStart =>
        exact ⟨0, rfl, Nat.zero_le _, Lib.IsBuilderF.of (.inl ⟨Nat.le_refl _, _, heap_alloc_new w1 _, World.ownsRow_nil _ _ _ _, by simp [Value.ownBlock]⟩), (Below.refl _ _).alloc (Nat.le_refl _) _⟩
      case round =>
        obtain ⟨q, rfl, hq, hbu, hb⟩ := hrel
        have HBU : Hid (Lib.IsBuilderF 52 5 w1.heap.size w1.heap.size (Lib.strCells (histT (es.take q))) wr) := hbu
        clear hbu
        have hbw : Below w.heap.size w wr := hw1.trans (hb.mono hw1.size)
        by_cases hlt : q < len
        · have hqe : q < es.length := by omega
          obtain ⟨b, off, rfl, h1, hbl, a1, l1, k1, c0, c1, c2, c3, c4, hrow1, hks, hns, _, _⟩ := IsEnts.at (IsEnts.below HR.out hbw) (i := q) hqe
          have hok := HALL.out es[q] (List.getElem_mem hqe)
          have HW : Hid (∀ o, Calls Tryz.prog 36 #[.agg #[.int .i64 es[q].kind, .int .i64 es[q].id, .string es[q].key, .string es[q].name, .slice a1 l1 k1]] (wr.alloc o) fun e w' => ∃ v x ys, e = .returned v ∧ (Row w' v (sv (x :: ys)) ∧ ys.length ≤ 8 ∧ joinB x ys = entText es[q]) ∧ Below (wr.alloc o).heap.size (wr.alloc o) w') := fun o => entryWords es[q].kind es[q].id es[q].key es[q].name a1 l1 k1 es[q].nums (wr.alloc o) (hrow1.alloc o) ((HT.out.below hbw).below ((Below.refl _ _).alloc (Nat.le_refl _) _)) hok
          have hts := entText_size hok
          have hhs : (Lib.strCells (histT (es.take q))).length ≤ 301 * 400 := by
            rw [Lib.strCells_length]
            refine Nat.le_trans (histT_size fun e he => HALL.out e (List.mem_of_mem_take he)) ?_
            have : (es.take q).length ≤ 400 := by rw [List.length_take]; omega
            omega
          have HTK : Hid (Lib.strCells (histT (es.take (q + 1))) = Lib.strCells (histT (es.take q)) ++ Lib.strCells (entText es[q]) ++ [.int .u8 10]) := histT_take hqe
          clear hok hrow1
          generalize entText es[q] = t at HW hts HTK
          generalize Lib.strCells (histT (es.take q)) = bs at HBU hhs HTK
          go_wp2_with first
            | (go_at_call 36; refine (HW.out _).mono ?_; rintro e w2 ⟨v2, x2, ys2, rfl, ⟨hv2, hy2, hj2⟩, hw2⟩; have HB2 := builder_below (builder_below HBU.out ((Below.refl _ _).alloc (Nat.le_refl _) _)) hw2; have hb2 := bcall (hb.alloc hb.size _) (by have := hb.size; simp; omega) hw2)
            | (go_at_call 35; refine (joinWords v2 x2 ys2 t w2 hv2 hy2 hj2 (by omega)).mono ?_; rintro e w3 ⟨rfl, hw3⟩; have HB3 := builder_below HB2 hw3; have hb3 := bcall hb2 hb2.size hw3; have hs3 := hb3.size)
            | (go_at_call 34; refine (Builder_WriteString_k w1.heap.size w1.heap.size bs t w3 HB3 (by omega) hs3).mono ?_; rintro e w4 ⟨rfl, HB4, hw4, _⟩; have hb4 := hb3.trans hw4; have hs4 := hb4.size)
            | (go_at_call 37; refine (Builder_WriteByte_k w1.heap.size w1.heap.size (bs ++ Lib.strCells t) 10 w4 (.inr HB4) (by simp [Lib.strCells_length]; omega) hs4).mono ?_; rintro e w5 ⟨rfl, HB5, hw5, _⟩)
          go_roundw
          case rel => exact ⟨q + 1, by go_num, by omega, by rw [HTK.out]; exact .inr HB5, hb4.trans hw5⟩
          case measure => simp [intOf]; omega
        · have he : es.take q = es := List.take_of_length_le (by omega)
          rw [he] at HBU
          have HS : Hid (Calls Tryz.prog 25 #[.pointer (some ⟨w1.heap.size, 0, none⟩)] wr fun e w' => e = .returned (.string ⟨(histT es).data.toList.toArray⟩) ∧ (Lib.IsBuilderF 52 5 w1.heap.size w1.heap.size (Lib.byteCells (histT es).data.toList) w' ∧ Below w1.heap.size wr w' ∧ Lib.OthersKept 5 (some w1.heap.size) wr w')) := Builder_String_any_k w1.heap.size w1.heap.size (histT es).data.toList wr HBU.out hb.size
          go_wp2_with (go_at_call 25; refine HS.out.mono ?_; rintro e w2 ⟨rfl, _, hw2, _⟩)
          go_ret
          exact ⟨by rw [HF.out]; rfl, hw1.trans ((hb.trans hw2).mono hw1.size)⟩
  · have HF : Hid (histW es = ⟨#[]⟩) := if_neg (by simp [entsOk]; intro _; omega)
    have hd : decide ((400 : Int) < (len : Int)) = true := decide_eq_true (by omega)
    go_enter Tryz.func14, Tryz.ntmps14
    go_wp2_with fail
    go_ret
    exact ⟨by rw [HF.out]; rfl, Below.refl _ _⟩
end Go.Proofs.YtbngjpnbjknliaaGreatDoor

namespace Go.Proofs.YtbngjpnbjknliaaGreatDoor
set_option linter.unusedVariables false
set_option linter.unusedSimpArgs false
open Go.RowKit Go

/-- The cells of an entry whose numbers are v4. -/
def cellsE (e : Ent) (v4 : Value) : List Value := [.int .i64 e.kind, .int .i64 e.id, .string e.key, .string e.name, v4]
def flatE (es : List Ent) (vs : List Value) : List Value := (List.zipWith cellsE es vs).flatten
theorem flatE_snoc {es : List Ent} {vs : List Value} (h : vs.length = es.length) (e : Ent) (v : Value) : flatE (es ++ [e]) (vs ++ [v]) = flatE es vs ++ cellsE e v := by
  unfold flatE
  rw [List.zipWith_append h.symm]
  simp
theorem flatE_at : ∀ (es : List Ent) (vs : List Value) (i j : Nat) (hv : vs.length = es.length) (hi : i < es.length), j < 5 → (flatE es vs)[i * 5 + j]? = (cellsE es[i] (vs[i]'(by omega)))[j]? := by
  intro es
  induction es with
  | nil => intro vs i j _ hi; simp at hi
  | cons e es ih =>
    intro vs i j hv hi hj
    cases vs with
    | nil => simp at hv
    | cons v vs =>
      have hf : flatE (e :: es) (v :: vs) = cellsE e v ++ flatE es vs := rfl
      rw [hf]
      cases i with
      | zero =>
        rw [List.getElem?_append_left (by simp [cellsE]; omega)]
        simp
      | succ i =>
        rw [List.getElem?_append_right (by simp [cellsE]; omega)]
        have h := ih vs i j (by simpa using hv) (by simpa using hi) hj
        rw [show (i + 1) * 5 + j - (cellsE e v).length = i * 5 + j by simp [cellsE]; omega, h]
        simp

/-- What is good in an entry. -/
def GoodE (e : Ent) : Prop := e.key.size ≤ 16777216 ∧ e.name.size ≤ 16777216 ∧ (Lit.int .i64 e.kind).wf = true ∧ (Lit.int .i64 e.id).wf = true ∧ ∀ z ∈ e.nums, (Lit.int .i64 z).wf = true
/-- The slice v gathers the entries es, in blocks from base on, no two rows in one. -/
def Gath (w : World) (base : Nat) (v : Value) (es : List Ent) : Prop :=
  ∃ vs : List Value, ∃ hv : vs.length = es.length, w.ownsRow base 32 5 v es.length (flatE es vs) ∧
    (∀ i (h : i < es.length), w.ownsRow base 3 1 (vs[i]'(by omega)) es[i].nums.length (es[i].nums.map (Value.int .i64)) ∧ GoodE es[i]) ∧
    ∀ i j (hi : i < vs.length) (hj : j < vs.length), i < j → ∀ b c, vs[i].ownBlock = some b → vs[j].ownBlock = some c → b < c
theorem Gath.nil (w : World) (base : Nat) : Gath w base (.slice none 0 0) [] := ⟨[], rfl, World.ownsRow_nil _ _ _ _, fun i h => by simp at h, fun i j hi => by simp at hi⟩

/-- What was laid as rows of entries or of numbers stands. -/
structure SameT (W W' : World) : Prop where
  size : W.heap.size ≤ W'.heap.size
  rows : ∀ (k : Nat) (c : Array Value) (fz : Nat × Nat), W.heap[k]? = some (.cells c 32 fz) → W'.heap[k]? = some (.cells c 32 fz)
  nums : ∀ (k : Nat) (c : Array Value) (fz : Nat × Nat), W.heap[k]? = some (.cells c 3 fz) → W'.heap[k]? = some (.cells c 3 fz)
theorem own_rows {w w' : World} {base : Nat} {e : TypeId} {size : Nat} {v : Value} {n : Nat} {xs : List Value} (h : w.ownsRow base e size v n xs) (hk : ∀ (k : Nat) (c : Array Value) (fz : Nat × Nat), w.heap[k]? = some (.cells c e fz) → w'.heap[k]? = some (.cells c e fz)) : w'.ownsRow base e size v n xs := by
  refine ⟨h.1, ?_⟩
  rcases h.2 with h | ⟨g, cap, cur, h1, h2, h3, h4⟩
  · exact .inl h
  · exact .inr ⟨g, cap, cur, h1, h2, hk _ _ _ h3, h4⟩
theorem Gath.same {w w' : World} {base : Nat} {v : Value} {es : List Ent} (h : Gath w base v es) (hs : SameT w w') : Gath w' base v es := by
  obtain ⟨vs, hv, h1, h2, h3⟩ := h
  exact ⟨vs, hv, own_rows h1 hs.rows, fun i hi => ⟨own_rows (h2 i hi).1 hs.nums, (h2 i hi).2⟩, h3⟩
theorem SameT.below {w w' : World} (h : Below w.heap.size w w') : SameT w w' :=
  ⟨h.size, fun k c fz hk => (h.block k (Array.getElem?_eq_some_iff.1 hk).1).trans hk, fun k c fz hk => (h.block k (Array.getElem?_eq_some_iff.1 hk).1).trans hk⟩
theorem SameT.grown {w w' : World} {row : Option Nat} (hg : w.grownBy w' row) (hr : ∀ r, row = some r → ∀ c fz, w.heap[r]? ≠ some (.cells c 32 fz) ∧ w.heap[r]? ≠ some (.cells c 3 fz)) : SameT w w' :=
  ⟨hg.size, fun k c fz hk => (hg.block k (Array.getElem?_eq_some_iff.1 hk).1 (fun e => (hr k e.symm c fz).1 hk)).trans hk, fun k c fz hk => (hg.block k (Array.getElem?_eq_some_iff.1 hk).1 (fun e => (hr k e.symm c fz).2 hk)).trans hk⟩


theorem gath_ents {w : World} {base : Nat} {v : Value} {es : List Ent} (h : Gath w base v es) : ∃ a cap, v = .slice a es.length cap ∧ IsEnts w a es.length cap es := by
  obtain ⟨vs, hv, h1, h2, _⟩ := h
  have hrow : ∀ i (hi : i < es.length), ∃ a l c, vs[i]'(by omega) = .slice a l c ∧ IsRow .i64 w a l c es[i].nums := fun i hi => by
    obtain ⟨h3, h4⟩ := h2 i hi
    have hr := Row.owned h3
    obtain ⟨a, c, hf⟩ := hr.form
    rw [List.length_map] at hf
    rw [hf] at hr
    exact ⟨a, _, c, hf, (isRow_of_row hr h4.2.2.2.2).1⟩
  rcases h1.2 with ⟨rfl, h0⟩ | ⟨g, cap, cur, rfl, hb, hg, hle, hmx, hsz, htk⟩
  · have : es = [] := List.length_eq_zero_iff.1 h0
    subst this
    exact ⟨none, 0, rfl, rfl, Nat.le_refl _, Nat.zero_le _, fun h => by simp at h⟩
  · refine ⟨_, cap, rfl, rfl, hle, hmx, fun _ => ⟨g, 0, rfl, (Array.getElem?_eq_some_iff.1 hg).1, fun i hi => ?_⟩⟩
    obtain ⟨a, l, c, hvi, hri⟩ := hrow i hi
    refine ⟨cellsE es[i] (vs[i]'(by omega)), rfl, fun j hj => ?_, a, l, c, by rw [hvi]; rfl, hri, ?_, ?_, (h2 i hi).2.2.2.1, (h2 i hi).2.2.2.2.1⟩
    · have hj5 : j < 5 := by simpa [cellsE] using hj
      have hf := flatE_at es vs i j hv hi hj5
      rw [List.getElem?_eq_getElem hj] at hf
      rw [cell_of_row _ _ _ _ _ _ hg, Nat.zero_add]
      rw [← htk, List.getElem?_take] at hf
      split at hf
      · simpa using hf
      · cases hf
    · have := (h2 i hi).2.1; unfold maxLen; omega
    · have := (h2 i hi).2.2.1; unfold maxLen; omega
end Go.Proofs.YtbngjpnbjknliaaGreatDoor

namespace Go.Proofs.YtbngjpnbjknliaaGreatDoor
set_option linter.unusedVariables false
set_option linter.unusedSimpArgs false
open Go.RowKit Go
attribute [local go_sem] Oper.semAt_some

theorem textLines (s : ByteArray) (w : World) :
    Calls Tryz.prog 11 #[.string s] w fun e w' => e = .returned (.func (.func 23) #[] #[.pointer (some ⟨w.heap.size, 0, none⟩)]) ∧ w' = w.alloc (.cells #[.string s] 9) := by
  go_enter Tryz.func11, Tryz.ntmps11
  go_wp2
  go_ret
  exact ⟨rfl, rfl⟩

/-- The words of a line; what it is read as; what lines are read as. -/
def wordsB (x : ByteArray) : List ByteArray := (cutL 32 x.data.toList).map fun l => ⟨l.toArray⟩
theorem wordsB_bys (x : ByteArray) : bys (wordsB x) = cutL 32 x.data.toList := by
  unfold bys wordsB
  rw [List.map_map]
  conv => rhs; rw [← List.map_id (cutL 32 x.data.toList)]
  exact List.map_congr_left fun l _ => by simp
def readLine (x : ByteArray) : Option Ent := readP (wordsB x)
def readAll : List ByteArray → Option (List Ent)
  | [] => some []
  | x :: t => (readLine x).bind fun e => (readAll t).map (e :: ·)
theorem readAll_snoc {x : ByteArray} {e : Ent} (hx : readLine x = some e) : ∀ {pre : List ByteArray} {es : List Ent}, readAll pre = some es → readAll (pre ++ [x]) = some (es ++ [e]) := by
  intro pre
  induction pre with
  | nil => intro es h; simp only [readAll, Option.some.injEq] at h; subst h; simp [readAll, hx]
  | cons y t ih =>
    intro es h
    rw [List.cons_append, readAll]
    rw [readAll] at h
    cases hy : readLine y with
    | none => rw [hy] at h; cases h
    | some e1 =>
      rw [hy, Option.bind_some] at h
      cases ht : readAll t with
      | none => rw [ht] at h; cases h
      | some es1 =>
        rw [ht, Option.map_some, Option.some.injEq] at h
        subst h
        rw [Option.bind_some, ih ht]; rfl
theorem readAll_bad {x : ByteArray} {xs : List ByteArray} (hm : x ∈ xs) (hx : readLine x = none) : readAll xs = none := by
  induction xs with
  | nil => cases hm
  | cons y t ih =>
    rw [readAll]
    rcases List.mem_cons.1 hm with rfl | hm
    · rw [hx]; rfl
    · rw [ih hm]; cases readLine y <;> rfl
theorem readAll_len : ∀ {xs : List ByteArray} {es : List Ent}, readAll xs = some es → es.length = xs.length := by
  intro xs
  induction xs with
  | nil => intro es h; simp only [readAll, Option.some.injEq] at h; subst h; rfl
  | cons y t ih =>
    intro es h
    rw [readAll] at h
    cases hy : readLine y with
    | none => rw [hy] at h; cases h
    | some e1 =>
      rw [hy, Option.bind_some] at h
      cases ht : readAll t with
      | none => rw [ht] at h; cases h
      | some es1 =>
        rw [ht, Option.map_some, Option.some.injEq] at h
        subst h
        simp [ih ht]

theorem SameT.did {B : Nat} {X Y : World} (h : Did B X Y) : SameT X Y := by
  refine ⟨h.size, fun k c fz hk => h.same k _ hk ?_, fun k c fz hk => h.same k _ hk ?_⟩
  · rintro (ho | ⟨_, _, ho⟩ | ⟨_, _, ho⟩)
    · cases ho
    · simp at ho
    · simp at ho
  · rintro (ho | ⟨_, _, ho⟩ | ⟨_, _, ho⟩)
    · cases ho
    · simp at ho
    · simp at ho
theorem boxed_low {W W' : World} {B k : Nat} {t : TypeId} {v : Value} (h : Boxed W k t v) (hk : k < B) (hl : ∀ k : Nat, k < B → W'.heap[k]? = W.heap[k]?) : Boxed W' k t v := (hl k hk).trans h
theorem gath_push {w w' : World} {base base' : Nat} {v v' v4 : Value} {es : List Ent} {e : Ent} {vs : List Value} (hv : vs.length = es.length) (h1 : w.ownsRow base 32 5 v es.length (flatE es vs))
    (h2 : ∀ i (h : i < es.length), w.ownsRow base 3 1 (vs[i]'(by omega)) es[i].nums.length (es[i].nums.map (Value.int .i64)) ∧ GoodE es[i])
    (h3 : ∀ i j (hi : i < vs.length) (hj : j < vs.length), i < j → ∀ b c, vs[i].ownBlock = some b → vs[j].ownBlock = some c → b < c)
    (h4 : w.ownsRow base' 3 1 v4 e.nums.length (e.nums.map (Value.int .i64))) (hbb : base ≤ base') (hge : GoodE e) (hfar : ∀ i (hi : i < vs.length) b, vs[i].ownBlock = some b → b < base')
    (hown : w'.ownsRow base 32 5 v' (es.length + 1) (flatE es vs ++ cellsE e v4)) (hg : w.grownBy w' v.ownBlock) : Gath w' base v' (es ++ [e]) := by
  have hnum : ∀ (k : Nat) (c : Array Value) (fz : Nat × Nat), w.heap[k]? = some (.cells c 3 fz) → w'.heap[k]? = some (.cells c 3 fz) := fun k c fz hk => by
    refine (hg.block k (Array.getElem?_eq_some_iff.1 hk).1 (fun e => ?_)).trans hk
    rcases h1.2 with ⟨rfl, _⟩ | ⟨g, cap, cur, rfl, _, hgg, _⟩
    · simp [Value.ownBlock] at e
    · simp [Value.ownBlock] at e
      subst e
      rw [hk] at hgg
      simp at hgg
  refine ⟨vs ++ [v4], by simp [hv], by rw [flatE_snoc hv]; simpa using hown, fun i hi => ?_, fun i j hi hj hij b c hb hc => ?_⟩
  · by_cases h : i < es.length
    · have := h2 i h
      rw [List.getElem_append_left (by omega : i < vs.length), List.getElem_append_left h]
      exact ⟨own_rows this.1 hnum, this.2⟩
    · have hie : i = es.length := by simp at hi; omega
      subst hie
      rw [List.getElem_append_right (by omega : vs.length ≤ es.length), List.getElem_append_right (Nat.le_refl _)]
      simp only [Nat.sub_self, List.getElem_cons_zero, hv]
      exact ⟨own_rows (own_base h4 hbb) hnum, hge⟩
  · have hi' : i < vs.length := by simp at hi hj; omega
    rw [List.getElem_append_left hi'] at hb
    by_cases hj' : j < vs.length
    · rw [List.getElem_append_left hj'] at hc
      exact h3 i j hi' hj' hij b c hb hc
    · have hje : j = vs.length := by simp at hj; omega
      subst hje
      rw [List.getElem_append_right (Nat.le_refl _)] at hc
      simp only [Nat.sub_self, List.getElem_cons_zero] at hc
      have hb1 := hfar i hi' b hb
      have hc1 := (h4.lt c hc).1
      omega
end Go.Proofs.YtbngjpnbjknliaaGreatDoor
