/- The program's own CalWrite. -/
import Derived.Test.YtkemfifkjaclhaaGreatDoorJ33
import Derived.Test.YtkemfifkjaclhaaGreatDoorJ21
import Derived.Test.YtkemfifkjaclhaaGreatDoorJ25
import Derived.Test.YtkemfifkjaclhaaGreatDoorJ30
import Derived.Test.YtkemfifkjaclhaaGreatDoorJ31
import Derived.Test.YtkemfifkjaclhaaGreatDoorJ23
import Derived.Test.YtkemfifkjaclhaaGreatDoorJ13
import Derived.Laws.AppendOwn
import Derived.Deep.AppendLies
namespace Go.Proofs.YtkemfifkjaclhaaGreatDoor
set_option linter.unusedVariables false
set_option linter.unusedSimpArgs false
open Go.RowKit Go
namespace Cal

theorem readRules (s : ByteArray) (w : World) (he : Errs w) (ht : Tab w) : Calls Tryz.prog 18 #[.string s] w fun e w' => RulesPost s w e w' := by
  by_cases h : s.size ≤ 800
  · exact readRules_go s w h he ht
  · exact readRules_long s w (by omega)
theorem Gath.less {w : World} {base base' : Nat} {v : Value} {es : List Rul} (h : Gath w base v es) (hb : base' ≤ base) : Gath w base' v es := by
  obtain ⟨vs, hv, h1, h2, h3⟩ := h
  exact ⟨vs, hv, own_less h1 hb, fun i hi => ⟨own_less (h2 i hi).1 hb, (h2 i hi).2⟩, h3⟩

set_option maxHeartbeats 2000000 in
theorem implCalRead (s : ByteArray) (w : World) (he : Errs w) (ht : Tab w) (hg : ErrT w) :
    Calls Tryz.prog 5 #[.string s] w fun e w' => ReadsCal s w e w' := by
  have hbA : Below w.heap.size w (w.alloc (.cells #[.int .i64 0] 40)) := (Below.refl _ _).alloc (Nat.le_refl _) _
  have HRR : Hid _ := readRules s (w.alloc (.cells #[.int .i64 0] 40)) (he.below hbA) (ht.below hbA)
  have HG : Hid (ErrT w) := hg
  clear he ht hg
  go_enter Tryz.func5, Tryz.ntmps5
  go_wp2_with fail
  refine Calls.mono HRR.out ?_
  rintro e w1 ⟨v, er, rfl, hb, hcase⟩
  have hB1 : Below w.heap.size w w1 := bcall hbA (by simp) hb
  rcases hcase with ⟨rfl, rs, hcal, hgath⟩ | ⟨⟨z, rfl⟩, hbad⟩
  · obtain ⟨av, cv, rfl, _⟩ := gath_ruls hgath
    have HGA : Hid _ := Gath.less hgath (show w.heap.size ≤ _ by simp)
    have HCA : Hid (IsCal s rs) := hcal
    clear hgath hcal
    go_wp2_with (go_at_call 19; refine (as_nil _ _).mono ?_; rintro e w2 ⟨rfl, hw⟩; subst w2)
    refine bodyPost_ret (v := .tuple #[.slice av rs.length cv, .bool true]) ?_ rfl ?_
    · simp [results, Tryz.results5, go_sem]
    · exact ⟨_, true, rfl, hB1, fun _ => ⟨rs, HCA.out, HGA.out⟩, (fun h => by cases h)⟩
  · have hg1 : ErrT w1 := HG.out.below hB1
    have hc : w1.cell? ⟨w.heap.size, 0, none⟩ = some (.int .i64 0) := by rw [(bcell hb).1 _ _ (by simp)]; simp
    have hf : w1.frozen? ⟨w.heap.size, 0, none⟩ = false := by rw [(bcell hb).2 _ _ (by simp)]; simp
    have HBAD : Hid (∀ L, ¬ IsCal s L) := hbad
    clear hbad
    unfold errV
    go_wp2_with fail
    refine (as_hit z _ _ _ hg1 hc hf).mono ?_
    rintro e w2 ⟨rfl, rfl⟩
    go_wp2_with fail
    refine bodyPost_ret (v := .tuple #[.slice none 0 0, .bool false]) ?_ rfl ?_
    · simp [results, Tryz.results5, go_sem]
    · have h1 := hB1.size
      exact ⟨_, false, rfl, ((((hB1.alloc h1 _).alloc (by simp; omega) _).alloc (by simp; omega) _).alloc (by simp; omega) _).setCell (by simp) _, (fun h => by cases h), fun _ => ⟨Gath.nil _ _, HBAD.out⟩⟩
end Cal
end Go.Proofs.YtkemfifkjaclhaaGreatDoor

namespace Go.Proofs.YtkemfifkjaclhaaGreatDoor
set_option linter.unusedVariables false
set_option linter.unusedSimpArgs false
open Go.Shelf Go
def lays167_ren : Go.Shelf.Ren := ⟨fun | 167 => 43 | 166 => 41 | 240 => 60 | 276 => 70 | n => n, fun | 31 => 37 | 9 => 9 | 3 => 3 | 4 => 4 | 0 => 0 | 20 => 20 | 72 => 86 | 76 => 87 | 70 => 84 | 37 => 22 | 75 => 42 | 127 => 116 | 164 => 68 | 5 => 5 | 80 => 91 | n => n, fun | n => n⟩
theorem lays167 : Go.Proofs.Lays.n167 Tryz.prog lays167_ren := { lays156 with
  f167 := Tryz.func43.trans (congrArg some (by kernel_rfl))
  t5 := Tryz.underlying5
  a5 := Tryz.isAgg5
  z5 := Tryz.sizeOf5
  v5 := Tryz.zeroValue5 }
theorem Builder_Extra_167 : Builder.Extra Tryz.prog lays167_ren := {
  sizeBuilder := by kernel_rfl
  liesBuilder := by kernel_rfl
  t5 := Tryz.underlying5
  a5 := Tryz.isAgg5
  z5 := Tryz.sizeOf5
  v5 := Tryz.zeroValue5
  infoByte := by kernel_rfl
  cellsByte := by kernel_rfl
  sizeByte := by kernel_rfl
  neB5 := by decide }
theorem Builder_WriteByte_k (B b : Nat) (bs : List Value) (c : Int) (w : World) (h : Lib.IsBuilderF 86 5 B b bs w) (hlen : bs.length + 1 ≤ 140737488355328) (hBw : B ≤ w.heap.size) :
    Calls Tryz.prog 43 #[.pointer (some ⟨b, 0, none⟩), .int .u8 c] w fun e w' => e = .returned .nilIface ∧ (Lib.BuilderAtF 86 5 B b (.pointer (some ⟨b, 0, none⟩)) (bs ++ [.int .u8 c]) w' ∧ RowKit.Below B w w' ∧ Lib.OthersKept 5 (some b) w w') := Any.Builder_WriteByte_k lays167 Builder_Extra_167 B b bs c w h hlen hBw
end Go.Proofs.YtkemfifkjaclhaaGreatDoor

namespace Go.Proofs.YtkemfifkjaclhaaGreatDoor
set_option linter.unusedVariables false
set_option linter.unusedSimpArgs false
open Go.RowKit Go

theorem builder_below {T e : TypeId} {B b : Nat} {bs : List Value} {w w' : World} (h : Lib.IsBuilderF T e B b bs w) (hb : Below w.heap.size w w') : Lib.IsBuilderF T e B b bs w' := by
  have key : ∀ p, Lib.BuilderAtF T e B b p bs w → Lib.BuilderAtF T e B b p bs w' := fun p h => by
    have hlt := h.lt
    obtain ⟨hB, v, hbk, hown, hne⟩ := h
    exact ⟨hB, v, (hb.block b hlt).trans hbk, hown.kept (row := none) ⟨hb.os, hb.tape, hb.output, hb.size, fun k hk _ => hb.block k hk⟩ (by cases hv : v.ownBlock <;> simp), hne⟩
  exact h.elim (fun x => .inl (key _ x)) (fun x => .inr (key _ x))
theorem strCells_app (a b : ByteArray) : Lib.strCells (a ++ b) = Lib.strCells a ++ Lib.strCells b := by simp [Lib.strCells]
theorem strCells_nl : Lib.strCells nlB = [.int .u8 10] := rfl
theorem calT_take {rs : List Rul} {q : Nat} (h : q < rs.length) : Lib.strCells (calT (rs.take (q + 1))) = Lib.strCells (calT (rs.take q)) ++ Lib.strCells (rulT rs[q]) ++ [.int .u8 10] := by
  rw [List.take_succ_eq_append_getElem h, calT_snoc, strCells_app, strCells_app, strCells_nl]
/-- Rows of words, each of a rule. -/
def RowsOf (w : World) (v : Value) (rs : List Rul) : Prop := ∃ vs : List Value, ∃ hv : vs.length = rs.length, Row w v vs ∧ ∀ i (h : i < rs.length), Row w (vs[i]'(by omega)) (sv (evB :: rwW rs[i]))
set_option maxRecDepth 100000 in
set_option maxHeartbeats 2000000 in
theorem boardOf (v : Value) (rs : List Rul) (w : World) (hr : RowsOf w v rs) (hn : rs.length ≤ 4) (hok : ∀ i (hi : i < rs.length), RuleOk rs[i]) :
    Calls Tryz.prog 24 #[v] w fun e w' => e = .returned (.string (calT rs)) ∧ Below w.heap.size w w' := by
  obtain ⟨vs, hvs, hrow, hrows⟩ := hr
  obtain ⟨a, cap, rfl⟩ := hrow.form
  rw [hvs] at hrow ⊢
  have HRW : Hid (Row w (.slice a rs.length cap) vs) := hrow
  have HRS : Hid (∀ i (h : i < rs.length), Row w (vs[i]'(by omega)) (sv (evB :: rwW rs[i]))) := hrows
  have HOK : Hid (∀ i (hi : i < rs.length), RuleOk rs[i]) := hok
  clear hrow hrows hok
  go_enter Tryz.func24, Tryz.ntmps24
  go_wp2_with fail
  go_loopw [8] (fun i wr => ∃ q : Nat, i = .int .i64 q ∧ q ≤ rs.length ∧ Lib.IsBuilderF 86 5 w.heap.size w.heap.size (Lib.strCells (calT (rs.take q))) wr ∧ Below w.heap.size w wr) (fun i _ => rs.length - (intOf i).toNat)
  case atStart =>
    exact ⟨0, rfl, Nat.zero_le _, Lib.IsBuilderF.of (.inl ⟨Nat.le_refl _, _, heap_alloc_new w _, World.ownsRow_nil _ _ _ _, by simp [Value.ownBlock]⟩), (Below.refl _ _).alloc (Nat.le_refl _) _⟩
  case round =>
    obtain ⟨q, rfl, hq, hbu, hb⟩ := hrel
    have HBU : Hid (Lib.IsBuilderF 86 5 w.heap.size w.heap.size (Lib.strCells (calT (rs.take q))) wr) := hbu
    clear hbu
    have hs0 := hb.size
    by_cases hlt : q < rs.length
    · have hts := rulT_size (HOK.out q hlt)
      have hhs : (Lib.strCells (calT (rs.take q))).length ≤ 301 * 4 := by
        rw [Lib.strCells_length]
        exact Nat.le_trans (calT_size HOK.out q hq) (by omega)
      have HTK : Hid (Lib.strCells (calT (rs.take (q + 1))) = Lib.strCells (calT (rs.take q)) ++ Lib.strCells (rulT rs[q]) ++ [.int .u8 10]) := calT_take hlt
      have hcell : ∃ b off, a = some ⟨b, off, none⟩ ∧ rs.length ≤ cap ∧ wr.cell? ⟨b, off + q, none⟩ = some (vs[q]'(by omega)) := by
        rcases HRW.out.below' hb with ⟨h1, h2⟩ | ⟨b, off, cp, h1, h2, h3, h4, h5⟩
        · rw [h2] at hvs; simp at hvs; omega
        · simp only [Value.slice.injEq] at h1
          obtain ⟨rfl, h6, rfl⟩ := h1
          exact ⟨b, off, rfl, by omega, h5 q _ (List.getElem?_eq_getElem _)⟩
      obtain ⟨b, off, rfl, hcap, hc⟩ := hcell
      have hJ := joinWords (vs[q]'(by omega)) evB (rwW rs[q]) (rulT rs[q]) wr ((HRS.out q hlt).below' hb) (rwW_len (HOK.out q hlt)) (joinB_rule _) (by omega)
      generalize vs[q]'(by omega) = vq at hc hJ
      have HJ : Hid _ := hJ
      clear hJ
      generalize rulT rs[q] = t at HJ hts HTK
      generalize Lib.strCells (calT (rs.take q)) = bs at HBU hhs HTK
      go_wp2_with first
        | (go_at_call 42; refine Calls.mono HJ.out ?_; rintro e w3 ⟨rfl, hw3⟩; have HB3 := builder_below HBU.out hw3; have hb3 := bcall hb hs0 hw3; have hs3 := hb3.size)
        | (go_at_call 41; refine (Builder_WriteString_k w.heap.size w.heap.size bs t w3 HB3 (by omega) hs3).mono ?_; rintro e w4 ⟨rfl, HB4, hw4, _⟩; have hb4 := hb3.trans hw4; have hs4 := hb4.size)
        | (go_at_call 43; refine (Builder_WriteByte_k w.heap.size w.heap.size (bs ++ Lib.strCells t) 10 w4 (.inr HB4) (by simp [Lib.strCells_length]; omega) hs4).mono ?_; rintro e w5 ⟨rfl, HB5, hw5, _⟩)
      go_roundw
      case rel => exact ⟨q + 1, by go_num, by omega, by rw [HTK.out]; exact .inr HB5, hb4.trans hw5⟩
      case measure => simp [intOf]; omega
    · have he : rs.take q = rs := List.take_of_length_le (by omega)
      rw [he] at HBU
      have HS : Hid (Calls Tryz.prog 44 #[.pointer (some ⟨w.heap.size, 0, none⟩)] wr fun e w' => e = .returned (.string ⟨(calT rs).data.toList.toArray⟩) ∧ (Lib.IsBuilderF 86 5 w.heap.size w.heap.size (Lib.byteCells (calT rs).data.toList) w' ∧ Below w.heap.size wr w' ∧ Lib.OthersKept 5 (some w.heap.size) wr w')) := Builder_String_any_k w.heap.size w.heap.size (calT rs).data.toList wr HBU.out hb.size
      go_wp2_with (go_at_call 44; refine HS.out.mono ?_; rintro e w2 ⟨rfl, _, hw2, _⟩)
      go_ret
      exact ⟨rfl, hb.trans hw2⟩
end Go.Proofs.YtkemfifkjaclhaaGreatDoor

namespace Go.Proofs.YtkemfifkjaclhaaGreatDoor
set_option linter.unusedVariables false
set_option linter.unusedSimpArgs false
open Go.RowKit Go

set_option maxHeartbeats 1000000 in
theorem implCalOk (a : Option Addr) (len cap : Nat) (rs : List Rul) (w : World) (hr : IsRuls w a len cap rs) (hg : ErrT w) :
    Calls Tryz.prog 12 #[.slice a len cap] w fun e w' => e = .returned (.bool (calOk rs)) ∧ Below w.heap.size w w' := by
  have HL : Hid (∀ w, IsRuls w a len cap rs → Calls Tryz.prog 29 #[.slice a len cap] w fun e w' => Looked e rs ∧ Below w.heap.size w w') := fun w h => lookedAtRules a len cap rs w h
  have HR : Hid (IsRuls w a len cap rs) := hr
  have HG : Hid (ErrT w) := hg
  clear hr hg
  go_enter Tryz.func12, Tryz.ntmps12
  go_wp2_with fail
  refine (HL.out _ (IsRuls.alloc HR.out _)).mono ?_
  rintro e w1 ⟨(⟨rfl, hk⟩ | ⟨z, rfl, hk⟩), hb⟩
  · have HK : Hid (calOk rs = true) := hk
    clear hk
    go_wp2_with (go_at_call 19; refine (as_nil _ _).mono ?_; rintro e w2 ⟨rfl, rfl⟩)
    go_ret
    exact ⟨ret_bool HK.out.symm, bcall ((Below.refl _ _).alloc (Nat.le_refl _) _) (by simp) hb⟩
  · have HK : Hid (calOk rs = false) := hk
    have hb0 : Below w.heap.size w w1 := bcall ((Below.refl _ _).alloc (Nat.le_refl _) _) (by simp) hb
    have hg1 : ErrT w1 := HG.out.below hb0
    have hc : w1.cell? ⟨w.heap.size, 0, none⟩ = some (.int .i64 0) := by rw [(bcell hb).1 _ _ (by simp)]; simp
    have hf : w1.frozen? ⟨w.heap.size, 0, none⟩ = false := by rw [(bcell hb).2 _ _ (by simp)]; simp
    clear hk
    go_wp2_with fail
    refine (as_hit z _ _ _ hg1 hc hf).mono ?_
    rintro e w2 ⟨rfl, rfl⟩
    go_wp2_with fail
    go_ret
    refine ⟨ret_bool HK.out.symm, ?_⟩
    have h1 := hb0.size
    exact ((((hb0.alloc h1 _).alloc (by simp; omega) _).alloc (by simp; omega) _).alloc (by simp; omega) _).setCell (by simp) _
end Go.Proofs.YtkemfifkjaclhaaGreatDoor

namespace Go.Proofs.YtkemfifkjaclhaaGreatDoor
set_option linter.unusedVariables false
set_option linter.unusedSimpArgs false
open Go.RowKit Go

theorem infoSS : (Tryz.prog.info? 37).map (fun i => (i.zero, i.size, i.bytes)) = some (some (.slice none 0 0), 1, 24) := by kernel_rfl

/-- Rows of words that are the call's own. -/
def OwnRows (W : World) (M : Nat) (v : Value) (rs : List Rul) : Prop :=
  ∃ vs : List Value, ∃ hv : vs.length = rs.length, W.ownsRow M 37 1 v rs.length vs ∧ ∀ i (h : i < rs.length), ∃ n, W.ownsRow M 9 1 (vs[i]'(by omega)) n (sv (evB :: rwW rs[i]))
theorem OwnRows.nil (W : World) (M : Nat) : OwnRows W M (.slice none 0 0) [] := ⟨[], rfl, World.ownsRow_nil _ _ _ _, fun i h => by simp at h⟩
theorem OwnRows.form {W : World} {M : Nat} {v : Value} {rs : List Rul} (h : OwnRows W M v rs) : ∃ a c, v = .slice a rs.length c := by
  obtain ⟨vs, hv, h1, _⟩ := h
  rcases h1.2 with ⟨rfl, hn⟩ | ⟨g, cap, cur, rfl, _⟩
  · exact ⟨none, 0, by rw [hn]⟩
  · exact ⟨_, _, rfl⟩
theorem OwnRows.rows {W : World} {M : Nat} {v : Value} {rs : List Rul} (h : OwnRows W M v rs) : RowsOf W v rs := by
  obtain ⟨vs, hv, h1, h2⟩ := h
  exact ⟨vs, hv, Row.owned h1, fun i hi => by obtain ⟨n, hn⟩ := h2 i hi; exact Row.owned hn⟩
theorem OwnRows.push {w w' : World} {M : Nat} {v v' u : Value} {rs : List Rul} {r : Rul} {n : Nat} {vs : List Value} (hv : vs.length = rs.length) (h1 : w.ownsRow M 37 1 v rs.length vs)
    (h2 : ∀ i (h : i < rs.length), ∃ n, w.ownsRow M 9 1 (vs[i]'(by omega)) n (sv (evB :: rwW rs[i]))) (h3 : w.ownsRow M 9 1 u n (sv (evB :: rwW r)))
    (hown : w'.ownsRow M 37 1 v' (rs.length + 1) (vs ++ [u])) (hg : w.grownBy w' v.ownBlock) : OwnRows w' M v' (rs ++ [r]) := by
  have keep : ∀ (x : Value) (m : Nat) (xs : List Value), w.ownsRow M 9 1 x m xs → w'.ownsRow M 9 1 x m xs := fun x m xs h => by
    refine ⟨h.1, ?_⟩
    rcases h.2 with h | ⟨g, cap, cur, e1, e2, e3, e4⟩
    · exact .inl h
    · refine .inr ⟨g, cap, cur, e1, e2, (hg.block g (Array.getElem?_eq_some_iff.1 e3).1 (fun e => ?_)).trans e3, e4⟩
      rcases h1.2 with ⟨rfl, _⟩ | ⟨g', cap', cur', rfl, _, hgg, _⟩
      · simp [Value.ownBlock] at e
      · simp [Value.ownBlock] at e
        subst e
        rw [e3] at hgg
        simp at hgg
  refine ⟨vs ++ [u], by simp [hv], by simpa using hown, fun i hi => ?_⟩
  by_cases h : i < rs.length
  · obtain ⟨m, hm⟩ := h2 i h
    rw [List.getElem_append_left (by omega : i < vs.length), List.getElem_append_left h]
    exact ⟨m, keep _ _ _ hm⟩
  · have hie : i = rs.length := by simp at hi; omega
    subst hie
    rw [List.getElem_append_right (by omega : vs.length ≤ rs.length), List.getElem_append_right (Nat.le_refl _)]
    simp only [Nat.sub_self, List.getElem_cons_zero, hv]
    exact ⟨n, keep _ _ _ h3⟩

set_option maxRecDepth 4000 in
set_option maxHeartbeats 2000000 in
theorem implCalWrite (a : Option Addr) (len cap : Nat) (rs : List Rul) (w : World) (hr : IsRuls w a len cap rs) (hg : ErrT w) (ht : Tab w) :
    Calls Tryz.prog 8 #[.slice a len cap] w fun e w' => e = .returned (.string (calW rs)) ∧ Below w.heap.size w w' := by
  obtain ⟨hz, hm⟩ := IsRecs.len hr
  unfold maxLen at hm
  have HK := implCalOk a len cap rs w hr hg
  have HR : Hid (IsRuls w a len cap rs) := hr
  have HT : Hid (Tab w) := ht
  clear hr hg ht
  by_cases hok : calOk rs = true
  · rw [hok] at HK
    have HK : Hid _ := HK
    have hlen4 : len ≤ 4 := by
      have h := hok
      simp only [calOk, Bool.and_eq_true, decide_eq_true_eq] at h
      omega
    have HOK : Hid (∀ i (hi : i < rs.length), RuleOk rs[i]) := calOk_rules hok
    have HF : Hid (calW rs = calT rs) := by show _ = _; unfold calW; rw [if_pos hok]
    clear hok
    obtain ⟨i0, hi, hz0, hz1, hz2⟩ := info_parts infoSS
    go_enter Tryz.func8, Tryz.ntmps8
    go_wp2_with fail
    refine Calls.mono HK.out ?_
    rintro e w1 ⟨rfl, hw1⟩
    go_wp2_with fail
    go_loopw [3, 11] (fun v i wr => ∃ (k : Nat) (vv : Value), k ≤ len ∧ i = .int .i64 k ∧ v = vv ∧ OwnRows wr w.heap.size vv (rs.take k) ∧ Below w.heap.size w wr) (fun _ i _ => len - (intOf i).toNat)
    case atStart => exact ⟨0, _, Nat.zero_le _, rfl, rfl, OwnRows.nil _ _, hw1⟩
    case round =>
      obtain ⟨k, vv, hk, rfl, rfl, hp, hb⟩ := hrel
      have hlt' : (rs.take k).length = k := by simp; omega
      obtain ⟨av, cv, hvv⟩ := hp.form
      rw [hlt'] at hvv
      subst hvv
      by_cases hlt : k < len
      · obtain ⟨b, off, rfl, h1, hbl, a1, l1, k1, c0, c1, c2, c3, c4, hrow1, hwf⟩ := IsRuls.at (IsRuls.below HR.out hb) (i := k) (by omega)
        have hl1 : l1 ≤ 1048576 := by
          have := (HOK.out k (by omega)).2.2.2.2.1
          have := hrow1.len.1
          omega
        have HW : Hid (∀ o, Calls Tryz.prog 23 #[.agg #[.int .i64 rs[k].ev, .int .i64 rs[k].at_, .int .i64 rs[k].fr, .int .i64 rs[k].to_, .slice a1 l1 k1]] (wr.alloc o) fun e w' => ∃ v n, e = .returned v ∧ w'.ownsRow (wr.alloc o).heap.size 9 1 v n (sv (evB :: rwW rs[k])) ∧ Below (wr.alloc o).heap.size (wr.alloc o) w') := fun o => ruleWords rs[k] a1 l1 k1 (wr.alloc o) (hrow1.alloc o) ((HT.out.below hb).below ((Below.refl _ _).alloc (Nat.le_refl _) _)) hwf hl1
        have HTK : Hid (rs.take (k + 1) = rs.take k ++ [rs[k]]) := by show _ = _; rw [List.take_succ_eq_append_getElem (by omega)]
        have HP : Hid (OwnRows wr w.heap.size (.slice av k cv) (rs.take k)) := hp
        clear hp hrow1 hwf
        generalize rs[k] = rk at c0 c1 c2 c3 c4 HW HTK
        have hsz : w.heap.size ≤ wr.heap.size := hb.size
        go_wp2_with fail
        refine (HW.out _).mono ?_
        rintro e w2 ⟨u, nu, rfl, hown2, hw2⟩
        obtain ⟨vs, hvs, g1, g2⟩ := HP.out
        have hbw2 : Below wr.heap.size wr w2 := bcall ((Below.refl _ _).alloc (Nat.le_refl _) _) (by simp) hw2
        have hsz2 : w.heap.size ≤ w2.heap.size := Nat.le_trans hsz hbw2.size
        obtain ⟨au, cu, rfl⟩ : ∃ au cu, u = .slice au nu cu := by
          rcases hown2.2 with ⟨rfl, hn⟩ | ⟨g, cap, cur, rfl, _⟩
          · exact ⟨none, 0, by rw [hn]⟩
          · exact ⟨_, _, rfl⟩
        have hO1 := own_below (own_below g1 hbw2) ((Below.refl _ _).alloc (Nat.le_refl _) (.cells #[.slice au nu cu] 37))
        rw [hlt'] at hO1
        have HO1 : Hid _ := hO1
        have HO3 : Hid _ := own_less (own_below hown2 ((Below.refl _ _).alloc (Nat.le_refl _) (.cells #[.slice au nu cu] 37))) (show w.heap.size ≤ _ by simp; omega)
        have HG2 : Hid (∀ i (h : i < (rs.take k).length), ∃ n, (w2.alloc (.cells #[.slice au nu cu] 37)).ownsRow w.heap.size 9 1 (vs[i]'(by omega)) n (sv (evB :: rwW (rs.take k)[i]))) := fun i hi => by
          obtain ⟨m, hm⟩ := g2 i hi
          exact ⟨m, own_below (own_below hm hbw2) ((Below.refl _ _).alloc (Nat.le_refl _) _)⟩
        have hnew : ∀ j x, [Value.slice au nu cu][j]? = some x → (w2.alloc (.cells #[.slice au nu cu] 37)).cell? ((⟨w2.heap.size, 0, none⟩ : Addr).add j) = some x := World.news_of_block (heap_alloc_new w2 (.cells #[.slice au nu cu] 37))
        have HNW : Hid _ := hnew
        clear hnew hO1 g1 g2 hown2
        go_wp2_with (at_builtin; refine wpList_append_own _ rfl _ _ 54 rfl w.heap.size 37 i0 (.slice none 0 0) 1 24 Tryz.underlying54 hi hz0 hz1 hz2 rfl (by decide) (.slice av k cv) k vs rfl HO1.out ⟨w2.heap.size, 0, none⟩ 1 1 _ rfl rfl HNW.out (by simp [Value.oneCell']) (by unfold maxLen; omega) (by omega) (by simp; omega) ?_; intro v' w5 hown5 hgrow5 _)
        go_roundw
        case rel =>
          refine ⟨k + 1, _, by omega, by go_num, rfl, ?_, ?_⟩
          · rw [HTK.out]
            exact OwnRows.push hvs (by rw [hlt']; exact HO1.out) HG2.out HO3.out (by rw [hlt']; exact hown5) hgrow5
          · exact ((hb.trans (hbw2.mono hsz)).alloc hsz2 _).trans ((Below.refl _ _).grown hgrow5 (by simp; omega) (fun j hj => (World.ownsRow.lt HO1.out j hj).1))
        case measure => simp [intOf]; omega
      · have he : rs.take k = rs := List.take_of_length_le (by omega)
        rw [he] at hp
        have HBO : Hid _ := boardOf _ rs _ hp.rows (by omega) HOK.out
        clear hp he
        go_wp2_with fail
        refine Calls.mono HBO.out ?_
        rintro e w2 ⟨rfl, hw2⟩
        go_wp2_with fail
        go_ret
        exact ⟨by rw [HF.out]; rfl, bcall hb hb.size hw2⟩
  · have hok : calOk rs = false := by simpa using hok
    rw [hok] at HK
    have HK : Hid _ := HK
    have HF : Hid (calW rs = ⟨#[]⟩) := by show _ = _; unfold calW; rw [hok]; rfl
    clear hok
    go_enter Tryz.func8, Tryz.ntmps8
    go_wp2_with fail
    refine Calls.mono HK.out ?_
    rintro e w1 ⟨rfl, hw1⟩
    go_wp2_with fail
    go_ret
    exact ⟨by rw [HF.out]; rfl, hw1⟩
end Go.Proofs.YtkemfifkjaclhaaGreatDoor
