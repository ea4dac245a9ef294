/- The program's HistWrite: what the model's answers. -/
import Derived.Test.YtmfibpfnbhhoaaaDoorIA12
namespace Go.Proofs.YtmfibpfnbhhoaaaDoor
set_option linter.unusedVariables false
set_option linter.unusedSimpArgs false
open Go.RowKit Go

theorem strCells_app (a b : ByteArray) : Lib.strCells (a ++ b) = Lib.strCells a ++ Lib.strCells b := by simp [Lib.strCells]
theorem strCells_nl : Lib.strCells nlB = [.int .u8 10] := rfl
theorem histT_take {es : List Ent} {q : Nat} (h : q < es.length) : Lib.strCells (histT (es.take (q + 1))) = Lib.strCells (histT (es.take q)) ++ Lib.strCells (entText es[q]) ++ [.int .u8 10] := by
  rw [List.take_succ_eq_append_getElem h, histT_snoc, strCells_app, strCells_app, strCells_nl]

set_option maxRecDepth 100000 in
set_option maxHeartbeats 2000000 in
theorem implHistWrite (a : Option Addr) (len cap : Nat) (es : List Ent) (w : World) (hr : IsEnts w a len cap es) (ht : Tab w) :
    Calls Tryd.prog 7 #[.slice a len cap] w fun e w' => e = .returned (.string (histW es)) ∧ Below w.heap.size w w' := by
  obtain ⟨hz, hm⟩ := IsRecs.len hr
  unfold maxLen at hm
  have HAL : Hid (Calls Tryd.prog 13 #[.slice a len cap, .func (.func 14) #[] #[]] w fun e w' => e = .returned (.bool (es.all entOk)) ∧ Below w.heap.size w w') := allHold a len cap es w hr
  have HR : Hid (IsEnts w a len cap es) := hr
  have HT : Hid (Tab w) := ht
  clear hr ht
  by_cases h400 : len ≤ 400
  · cases hall : es.all entOk
    · have HF : Hid (histW es = ⟨#[]⟩) := if_neg (by simp [entsOk, hall])
      rw [hall] at HAL
      have hd : decide ((400 : Int) < (len : Int)) = false := decide_eq_false (by omega)
      go_enter Tryd.func7, Tryd.ntmps7
      go_wp2_with (go_at_call 13; refine HAL.out.mono ?_; rintro e w1 ⟨rfl, hw1⟩)
      go_ret
      exact ⟨by rw [HF.out]; rfl, hw1⟩
    · have HF : Hid (histW es = histT es) := if_pos (by simp [entsOk, hall]; omega)
      rw [hall] at HAL
      rw [List.all_eq_true] at hall
      have HALL : Hid (∀ e ∈ es, entOk e = true) := hall
      clear hall
      have hd : decide ((400 : Int) < (len : Int)) = false := decide_eq_false (by omega)
      go_enter Tryd.func7, Tryd.ntmps7
      go_wp2_with (go_at_call 13; refine HAL.out.mono ?_; rintro e w1 ⟨rfl, hw1⟩)
      go_loopw [16] (fun i wr => ∃ q : Nat, i = .int .i64 q ∧ q ≤ len ∧ Lib.IsBuilderF 42 5 w1.heap.size w1.heap.size (Lib.strCells (histT (es.take q))) wr ∧ Below w1.heap.size w1 wr) (fun i _ => len - (intOf i).toNat)
      case atStart =>
        exact ⟨0, rfl, Nat.zero_le _, Lib.IsBuilderF.of (.inl ⟨Nat.le_refl _, _, heap_alloc_new w1 _, World.ownsRow_nil _ _ _ _, by simp [Value.ownBlock]⟩), (Below.refl _ _).alloc (Nat.le_refl _) _⟩
      case round =>
        obtain ⟨q, rfl, hq, hbu, hb⟩ := hrel
        have HBU : Hid (Lib.IsBuilderF 42 5 w1.heap.size w1.heap.size (Lib.strCells (histT (es.take q))) wr) := hbu
        clear hbu
        have hbw : Below w.heap.size w wr := hw1.trans (hb.mono hw1.size)
        by_cases hlt : q < len
        · have hqe : q < es.length := by omega
          obtain ⟨b, off, rfl, h1, hbl, a1, l1, k1, c0, c1, c2, c3, c4, hrow1, hks, hns, _, _⟩ := IsEnts.at (IsEnts.below HR.out hbw) (i := q) hqe
          have hok := HALL.out es[q] (List.getElem_mem hqe)
          have HW : Hid (∀ o, Calls Tryd.prog 17 #[.agg #[.int .i64 es[q].kind, .int .i64 es[q].id, .string es[q].key, .string es[q].name, .slice a1 l1 k1]] (wr.alloc o) fun e w' => ∃ v x ys, e = .returned v ∧ (Row w' v (sv (x :: ys)) ∧ ys.length ≤ 8 ∧ joinB x ys = entText es[q]) ∧ Below (wr.alloc o).heap.size (wr.alloc o) w') := fun o => entryWords es[q].kind es[q].id es[q].key es[q].name a1 l1 k1 es[q].nums (wr.alloc o) (hrow1.alloc o) ((HT.out.below hbw).below ((Below.refl _ _).alloc (Nat.le_refl _) _)) hok
          have hts := entText_size hok
          have hhs : (Lib.strCells (histT (es.take q))).length ≤ 301 * 400 := by
            rw [Lib.strCells_length]
            refine Nat.le_trans (histT_size fun e he => HALL.out e (List.mem_of_mem_take he)) ?_
            have : (es.take q).length ≤ 400 := by rw [List.length_take]; omega
            omega
          have HTK : Hid (Lib.strCells (histT (es.take (q + 1))) = Lib.strCells (histT (es.take q)) ++ Lib.strCells (entText es[q]) ++ [.int .u8 10]) := histT_take hqe
          clear hok hrow1
          generalize entText es[q] = t at HW hts HTK
          generalize Lib.strCells (histT (es.take q)) = bs at HBU hhs HTK
          go_wp2_with first
            | (go_at_call 17; refine (HW.out _).mono ?_; rintro e w2 ⟨v2, x2, ys2, rfl, ⟨hv2, hy2, hj2⟩, hw2⟩; have HB2 := builder_below (builder_below HBU.out ((Below.refl _ _).alloc (Nat.le_refl _) _)) hw2; have hb2 := bcall (hb.alloc hb.size _) (by have := hb.size; simp; omega) hw2)
            | (go_at_call 16; refine (joinWords v2 x2 ys2 t w2 hv2 hy2 hj2 (by omega)).mono ?_; rintro e w3 ⟨rfl, hw3⟩; have HB3 := builder_below HB2 hw3; have hb3 := bcall hb2 hb2.size hw3; have hs3 := hb3.size)
            | (go_at_call 15; refine (Builder_WriteString_k w1.heap.size w1.heap.size bs t w3 HB3 (by omega) hs3).mono ?_; rintro e w4 ⟨rfl, HB4, hw4, _⟩; have hb4 := hb3.trans hw4; have hs4 := hb4.size)
            | (go_at_call 18; refine (Builder_WriteByte_k w1.heap.size w1.heap.size (bs ++ Lib.strCells t) 10 w4 (.inr HB4) (by simp [Lib.strCells_length]; omega) hs4).mono ?_; rintro e w5 ⟨rfl, HB5, hw5, _⟩)
          go_roundw
          case rel => exact ⟨q + 1, by go_num, by omega, by rw [HTK.out]; exact .inr HB5, hb4.trans hw5⟩
          case measure => simp [intOf]; omega
        · have he : es.take q = es := List.take_of_length_le (by omega)
          rw [he] at HBU
          have HS : Hid (Calls Tryd.prog 19 #[.pointer (some ⟨w1.heap.size, 0, none⟩)] wr fun e w' => e = .returned (.string ⟨(histT es).data.toList.toArray⟩) ∧ (Lib.IsBuilderF 42 5 w1.heap.size w1.heap.size (Lib.byteCells (histT es).data.toList) w' ∧ Below w1.heap.size wr w' ∧ Lib.OthersKept 5 (some w1.heap.size) wr w')) := Builder_String_any_k w1.heap.size w1.heap.size (histT es).data.toList wr HBU.out hb.size
          go_wp2_with (go_at_call 19; refine HS.out.mono ?_; rintro e w2 ⟨rfl, _, hw2, _⟩)
          go_ret
          exact ⟨by rw [HF.out]; rfl, hw1.trans ((hb.trans hw2).mono hw1.size)⟩
  · have HF : Hid (histW es = ⟨#[]⟩) := if_neg (by simp [entsOk]; intro _; omega)
    have hd : decide ((400 : Int) < (len : Int)) = true := decide_eq_true (by omega)
    go_enter Tryd.func7, Tryd.ntmps7
    go_wp2_with fail
    go_ret
    exact ⟨by rw [HF.out]; rfl, Below.refl _ _⟩
end Go.Proofs.YtmfibpfnbhhoaaaDoor
