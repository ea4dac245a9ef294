/- append of a whole list of strings onto a slice that is empty and without room: a copy. -/
import Derived.Test.YtdanfekodmncmaaDoorApp
namespace Go.Proofs.YtdanfekodmncmaaDoor
set_option linter.unusedVariables false
set_option linter.unusedSimpArgs false
open Go.RowKit

theorem append_none {P : Program} (w : World) (t ty e : TypeId) (i : TypeInfo) (ht : P.underlying t = some (.slice e)) (hi : P.info? e = some i) (b x : Option Addr) (c : Nat) :
    (Builtin.append_ #[t, t] ty #[.slice b 0 0, .slice x 0 c]).run P w = .ok (.slice b 0 0) w := by
  cases b <;> cases x <;> simp [Builtin.append_, run_underlying ht, sizeOf, typeInfo, hi, Builtin.lenOf, Builtin.firstCells, loadCells, loadCellsFrom, storeCells]

/-- A whole list is appended onto an empty slice without room. -/
theorem wp_copy_str {w : World} {ops : Array Oper} {rest : List Oper} {o : Oper} {a : Act} {Q : Exit → Act → World → Prop} (hgd : o.guard = none) (s x : Operand)
    (ho : o.op = .call { callee := .builtin .append, args := #[s, x], argTypes := #[58, 58] })
    (F : Nat) (v vx : Value) (xs : List ByteArray) (hs : a.eval s = v) (hacc : Acc w F 9 1 v 0 []) (hv : ∃ b, v = .slice b 0 0)
    (hx : a.eval x = vx) (hr : Row w vx (sv xs)) (hn : xs.length ≤ 1099511627776) (hF : F ≤ w.heap.size)
    (h : ∀ v' w', Acc w' F 9 1 v' xs.length (sv xs) → Below F w w' → wpList Tryd.prog ops Q rest (a.put o.dst v') w') : wpList Tryd.prog ops Q (o :: rest) a w := by
  by_cases h0 : xs.length = 0
  · have hxs : xs = [] := List.length_eq_zero_iff.1 h0
    subst hxs
    obtain ⟨b, rfl⟩ := hv
    obtain ⟨a1, c1, hvx⟩ := hr.form
    simp only [sv, List.map_nil, List.length_nil] at hvx
    subst hvx
    obtain ⟨i, hi, _⟩ := Option.map_eq_some_iff.1 Tryd.infoS
    refine wpList_plain hgd fun K hK => ?_
    have hrun := append_none (P := Tryd.prog) w 58 o.type 9 i Tryd.underlying58 hi b a1 c1
    unfold Oper.wp execOp
    simp only [ho, resolve, invoke, builtin, Sem.run_bind, Sem.run_pure, Result.andThen_ok, List.map_toArray, List.map_cons, List.map_nil, hs, hx, hrun]
    exact hK _ _ (h _ w hacc (Below.refl _ _))
  · obtain ⟨b1, off1, cap1, rfl⟩ : ∃ b1 off1 cap1, vx = .slice (some ⟨b1, off1, none⟩) xs.length cap1 := by
      rcases hr with ⟨_, h'⟩ | ⟨b1, off1, cap1, h', _⟩
      · exact absurd (by simpa [sv] using congrArg List.length h') h0
      · exact ⟨b1, off1, cap1, by rw [h', sv_len]⟩
    have hcell : ∀ j u, (sv xs)[j]? = some u → w.cell? ((⟨b1, off1, none⟩ : Addr).add j) = some u := by
      rcases hr with ⟨h', _⟩ | ⟨b2, off2, cap2, h', _, _, _, hc⟩
      · simp at h'
      · simp only [Value.slice.injEq, Option.some.injEq, Addr.mk.injEq] at h'
        obtain ⟨⟨rfl, rfl, _⟩, _, _⟩ := h'
        intro j u hj
        rw [Addr.add_lit]; exact hc j u hj
    refine wp_acc hgd s x 58 ho F 9 _ 1 16 Tryd.underlying58 Tryd.infoS rfl (by decide) v 0 [] hs hacc ⟨b1, off1, none⟩ xs.length cap1 (sv xs) hx (by omega) (by rw [sv_len, Nat.mul_one]) hcell ?_ (by unfold maxLen; omega) (by omega) hF ?_
    · intro u hu
      simp only [sv, List.mem_map] at hu
      obtain ⟨q, _, rfl⟩ := hu
      rfl
    · intro v' w' h1 h2
      exact h v' w' (by simpa using h1) h2
end Go.Proofs.YtdanfekodmncmaaDoor
