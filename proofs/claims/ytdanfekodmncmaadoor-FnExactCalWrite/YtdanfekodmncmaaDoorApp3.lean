/- append of a whole list of strings onto a slice of the call's own. -/
import Derived.Test.YtdanfekodmncmaaDoorApp2
import Derived.Laws.OwnMore
namespace Go.Proofs.YtdanfekodmncmaaDoor
set_option linter.unusedVariables false
set_option linter.unusedSimpArgs false
open Go.RowKit

theorem wp_app_strs {w : World} {ops : Array Oper} {rest : List Oper} {o : Oper} {a : Act} {Q : Exit → Act → World → Prop} (hgd : o.guard = none) (s x : Operand)
    (ho : o.op = .call { callee := .builtin .append, args := #[s, x], argTypes := #[58, 58] })
    (F : Nat) (v vx : Value) (n : Nat) (xs ys : List ByteArray) (hs : a.eval s = v) (hacc : w.ownsRow F 9 1 v n (sv xs))
    (hx : a.eval x = vx) (hr : Row w vx (sv ys)) (hn : n + ys.length ≤ 1099511627776) (hF : F ≤ w.heap.size)
    (h : ∀ v' w', w'.ownsRow F 9 1 v' (n + ys.length) (sv (xs ++ ys)) → Below F w w' → w.grownBy w' v.ownBlock → wpList Tryd.prog ops Q rest (a.put o.dst v') w') : wpList Tryd.prog ops Q (o :: rest) a w := by
  obtain ⟨i, hi, hzz⟩ := Option.map_eq_some_iff.1 Tryd.infoS
  simp only [Prod.mk.injEq] at hzz
  obtain ⟨hz, hsize, hby⟩ := hzz
  have fin : ∃ v' w', (Builtin.append_ #[58, 58] o.type #[v, vx]).run Tryd.prog w = .ok v' w' ∧ w'.ownsRow F 9 1 v' (n + ys.length) (sv (xs ++ ys)) ∧ Below F w w' ∧ w.grownBy w' v.ownBlock := by
    rcases hr with ⟨rfl, he⟩ | ⟨b, off, cap, rfl, h1, h2, hb, hc⟩
    · have hy : ys = [] := by cases ys with | nil => rfl | cons y r => simp [sv] at he
      subst hy
      exact ⟨v, w, run_append_owned_none (w := w) F 58 o.type 9 i 1 Tryd.underlying58 hi v n (sv xs) hacc, by simpa using hacc, Below.refl _ _, ⟨rfl, rfl, rfl, Nat.le_refl _, fun _ _ _ => rfl⟩⟩
    · obtain ⟨v', w', hr, h2, h3, _⟩ := run_append_own (P := Tryd.prog) w F 58 o.type 9 i _ 1 16 Tryd.underlying58 hi hz hsize hby rfl (by decide) v n (sv xs) hacc ⟨b, off, none⟩ (sv ys).length cap (sv ys) (by rw [Nat.mul_one]) (fun j u hj => by rw [Addr.add_lit]; exact hc j u hj) (fun u hu => by simp only [sv, List.mem_map] at hu; obtain ⟨q, _, rfl⟩ := hu; rfl) (by rw [sv_len]; unfold maxLen; omega) (by rw [sv_len]; omega) hF
      refine ⟨v', w', hr, ?_, (Below.refl F w).grown h3 hF (fun k hk => (hacc.lt k hk).1), h3⟩
      rw [sv_len] at h2
      rw [sv_app]; exact h2
  obtain ⟨v', w', hrun, h2, h3, h4⟩ := fin
  refine wpList_plain hgd fun K hK => ?_
  unfold Oper.wp execOp
  simp only [ho, resolve, invoke, builtin, Sem.run_bind, Sem.run_pure, Result.andThen_ok, List.map_toArray, List.map_cons, List.map_nil, hs, hx, hrun]
  exact hK _ _ (h v' w' h2 h3 h4)
end Go.Proofs.YtdanfekodmncmaaDoor
