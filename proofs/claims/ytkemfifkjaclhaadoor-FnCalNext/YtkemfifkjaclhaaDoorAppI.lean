/- Numbers that are copied: 'append([]int{}, xs...)'. -/
import Derived.Test.YtkemfifkjaclhaaDoorApp0
import Derived.Test.YtkemfifkjaclhaaDoorB1
namespace Go.Proofs.YtkemfifkjaclhaaDoor
set_option linter.unusedVariables false
set_option linter.unusedSimpArgs false
open Go.RowKit Go

/-- A whole list of numbers is appended onto an empty slice without room. -/
theorem wp_copy_int {w : World} {ops : Array Oper} {rest : List Oper} {o : Oper} {a : Act} {Q : Exit → Act → World → Prop} (hgd : o.guard = none) (s x : Operand)
    (ho : o.op = .call { callee := .builtin .append, args := #[s, x], argTypes := #[41, 41] })
    (F : Nat) (v : Value) (ax : Option Addr) (n cx : Nat) (zs : List Int) (hs : a.eval s = v) (hacc : Acc w F 3 1 v 0 []) (hv : ∃ b, v = .slice b 0 0)
    (hx : a.eval x = .slice ax n cx) (hr : IsRow .i64 w ax n cx zs) (hn : n ≤ 1099511627776) (hF : F ≤ w.heap.size)
    (h : ∀ v' w', Acc w' F 3 1 v' zs.length (zs.map (Value.int .i64)) → Below F w w' → wpList Tryd.prog ops Q rest (a.put o.dst v') w') : wpList Tryd.prog ops Q (o :: rest) a w := by
  have hl := hr.len.1
  by_cases h0 : n = 0
  · have hzs : zs = [] := List.length_eq_zero_iff.1 (by omega)
    subst hzs h0
    obtain ⟨b, rfl⟩ := hv
    obtain ⟨i, hi, _⟩ := Option.map_eq_some_iff.1 Tryd.infoI
    refine wpList_plain hgd fun K hK => ?_
    have hrun := append_none (P := Tryd.prog) w 41 o.type 3 i Tryd.underlying41 hi b ax cx
    unfold Oper.wp execOp
    simp only [ho, resolve, invoke, builtin, Sem.run_bind, Sem.run_pure, Result.andThen_ok, List.map_toArray, List.map_cons, List.map_nil, hs, hx, hrun]
    exact hK _ _ (h _ w hacc (Below.refl _ _))
  · obtain ⟨_, _, _, h4, _⟩ := hr
    obtain ⟨b1, off1, rfl, hb1, hc⟩ := h4 (by omega)
    have hcell : ∀ j u, (zs.map (Value.int .i64))[j]? = some u → w.cell? ((⟨b1, off1, none⟩ : Addr).add j) = some u := by
      intro j u hj
      rw [List.getElem?_map, Option.map_eq_some_iff] at hj
      obtain ⟨z, hz, rfl⟩ := hj
      obtain ⟨hj', rfl⟩ := List.getElem?_eq_some_iff.1 hz
      rw [Addr.add_lit, hc j (by omega), getD_at zs j hj']
    refine wp_acc hgd s x 41 ho F 3 _ 1 8 Tryd.underlying41 Tryd.infoI rfl (by decide) v 0 [] hs hacc ⟨b1, off1, none⟩ n cx (zs.map (Value.int .i64)) hx (by omega) (by simp; omega) hcell ?_ (by unfold maxLen; omega) (by omega) hF ?_
    · intro u hu
      obtain ⟨z, _, rfl⟩ := List.mem_map.1 hu
      rfl
    · intro v' w' h1 h2
      exact h v' w' (by have := h1; rw [Nat.zero_add, List.nil_append] at this; rw [hl]; exact this) h2
end Go.Proofs.YtkemfifkjaclhaaDoor
