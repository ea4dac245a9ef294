/- Asking a note for its type. -/
import Derived.Test.YtmfibpfnbhhoaaaDoorVoc
namespace Go.Proofs.YtmfibpfnbhhoaaaDoor
set_option linter.unusedVariables false
set_option linter.unusedSimpArgs false
open Go.RowKit Go
theorem ta_start_start (v : Value) (w : World) : (Instr.typeAssert (.iface 65 v) 58 65 true).run Tryd.prog w = .ok (.tuple #[v, .bool true]) w := by kernel_rfl
theorem ta_start_mark (v : Value) (w : World) : (Instr.typeAssert (.iface 65 v) 58 67 true).run Tryd.prog w = .ok (.tuple #[.string ⟨#[]⟩, .bool false]) w := by kernel_rfl
theorem ta_start_ask (v : Value) (w : World) : (Instr.typeAssert (.iface 65 v) 58 69 true).run Tryd.prog w = .ok (.tuple #[.agg #[.int .i64 0, .string ⟨#[]⟩, .string ⟨#[]⟩, .slice none 0 0], .bool false]) w := by kernel_rfl
theorem ta_start_hap (v : Value) (w : World) : (Instr.typeAssert (.iface 65 v) 58 72 true).run Tryd.prog w = .ok (.tuple #[.agg #[.int .i64 0, .int .i64 0, .string ⟨#[]⟩, .int .i64 0], .bool false]) w := by kernel_rfl
theorem ta_start_end (v : Value) (w : World) : (Instr.typeAssert (.iface 65 v) 58 75 true).run Tryd.prog w = .ok (.tuple #[.agg #[.int .i64 0, .slice none 0 0], .bool false]) w := by kernel_rfl
theorem ta_mark_start (v : Value) (w : World) : (Instr.typeAssert (.iface 67 v) 58 65 true).run Tryd.prog w = .ok (.tuple #[.slice none 0 0, .bool false]) w := by kernel_rfl
theorem ta_mark_mark (v : Value) (w : World) : (Instr.typeAssert (.iface 67 v) 58 67 true).run Tryd.prog w = .ok (.tuple #[v, .bool true]) w := by kernel_rfl
theorem ta_mark_ask (v : Value) (w : World) : (Instr.typeAssert (.iface 67 v) 58 69 true).run Tryd.prog w = .ok (.tuple #[.agg #[.int .i64 0, .string ⟨#[]⟩, .string ⟨#[]⟩, .slice none 0 0], .bool false]) w := by kernel_rfl
theorem ta_mark_hap (v : Value) (w : World) : (Instr.typeAssert (.iface 67 v) 58 72 true).run Tryd.prog w = .ok (.tuple #[.agg #[.int .i64 0, .int .i64 0, .string ⟨#[]⟩, .int .i64 0], .bool false]) w := by kernel_rfl
theorem ta_mark_end (v : Value) (w : World) : (Instr.typeAssert (.iface 67 v) 58 75 true).run Tryd.prog w = .ok (.tuple #[.agg #[.int .i64 0, .slice none 0 0], .bool false]) w := by kernel_rfl
theorem ta_ask_start (v : Value) (w : World) : (Instr.typeAssert (.iface 69 v) 58 65 true).run Tryd.prog w = .ok (.tuple #[.slice none 0 0, .bool false]) w := by kernel_rfl
theorem ta_ask_mark (v : Value) (w : World) : (Instr.typeAssert (.iface 69 v) 58 67 true).run Tryd.prog w = .ok (.tuple #[.string ⟨#[]⟩, .bool false]) w := by kernel_rfl
theorem ta_ask_ask (v : Value) (w : World) : (Instr.typeAssert (.iface 69 v) 58 69 true).run Tryd.prog w = .ok (.tuple #[v, .bool true]) w := by kernel_rfl
theorem ta_ask_hap (v : Value) (w : World) : (Instr.typeAssert (.iface 69 v) 58 72 true).run Tryd.prog w = .ok (.tuple #[.agg #[.int .i64 0, .int .i64 0, .string ⟨#[]⟩, .int .i64 0], .bool false]) w := by kernel_rfl
theorem ta_ask_end (v : Value) (w : World) : (Instr.typeAssert (.iface 69 v) 58 75 true).run Tryd.prog w = .ok (.tuple #[.agg #[.int .i64 0, .slice none 0 0], .bool false]) w := by kernel_rfl
theorem ta_hap_start (v : Value) (w : World) : (Instr.typeAssert (.iface 72 v) 58 65 true).run Tryd.prog w = .ok (.tuple #[.slice none 0 0, .bool false]) w := by kernel_rfl
theorem ta_hap_mark (v : Value) (w : World) : (Instr.typeAssert (.iface 72 v) 58 67 true).run Tryd.prog w = .ok (.tuple #[.string ⟨#[]⟩, .bool false]) w := by kernel_rfl
theorem ta_hap_ask (v : Value) (w : World) : (Instr.typeAssert (.iface 72 v) 58 69 true).run Tryd.prog w = .ok (.tuple #[.agg #[.int .i64 0, .string ⟨#[]⟩, .string ⟨#[]⟩, .slice none 0 0], .bool false]) w := by kernel_rfl
theorem ta_hap_hap (v : Value) (w : World) : (Instr.typeAssert (.iface 72 v) 58 72 true).run Tryd.prog w = .ok (.tuple #[v, .bool true]) w := by kernel_rfl
theorem ta_hap_end (v : Value) (w : World) : (Instr.typeAssert (.iface 72 v) 58 75 true).run Tryd.prog w = .ok (.tuple #[.agg #[.int .i64 0, .slice none 0 0], .bool false]) w := by kernel_rfl
theorem ta_end_start (v : Value) (w : World) : (Instr.typeAssert (.iface 75 v) 58 65 true).run Tryd.prog w = .ok (.tuple #[.slice none 0 0, .bool false]) w := by kernel_rfl
theorem ta_end_mark (v : Value) (w : World) : (Instr.typeAssert (.iface 75 v) 58 67 true).run Tryd.prog w = .ok (.tuple #[.string ⟨#[]⟩, .bool false]) w := by kernel_rfl
theorem ta_end_ask (v : Value) (w : World) : (Instr.typeAssert (.iface 75 v) 58 69 true).run Tryd.prog w = .ok (.tuple #[.agg #[.int .i64 0, .string ⟨#[]⟩, .string ⟨#[]⟩, .slice none 0 0], .bool false]) w := by kernel_rfl
theorem ta_end_hap (v : Value) (w : World) : (Instr.typeAssert (.iface 75 v) 58 72 true).run Tryd.prog w = .ok (.tuple #[.agg #[.int .i64 0, .int .i64 0, .string ⟨#[]⟩, .int .i64 0], .bool false]) w := by kernel_rfl
theorem ta_end_end (v : Value) (w : World) : (Instr.typeAssert (.iface 75 v) 58 75 true).run Tryd.prog w = .ok (.tuple #[v, .bool true]) w := by kernel_rfl
theorem ta_nil_start (w : World) : (Instr.typeAssert .nilIface 58 65 true).run Tryd.prog w = .ok (.tuple #[.slice none 0 0, .bool false]) w := by kernel_rfl
theorem ta_nil_mark (w : World) : (Instr.typeAssert .nilIface 58 67 true).run Tryd.prog w = .ok (.tuple #[.string ⟨#[]⟩, .bool false]) w := by kernel_rfl
theorem ta_nil_ask (w : World) : (Instr.typeAssert .nilIface 58 69 true).run Tryd.prog w = .ok (.tuple #[.agg #[.int .i64 0, .string ⟨#[]⟩, .string ⟨#[]⟩, .slice none 0 0], .bool false]) w := by kernel_rfl
theorem ta_nil_hap (w : World) : (Instr.typeAssert .nilIface 58 72 true).run Tryd.prog w = .ok (.tuple #[.agg #[.int .i64 0, .int .i64 0, .string ⟨#[]⟩, .int .i64 0], .bool false]) w := by kernel_rfl
theorem ta_nil_end (w : World) : (Instr.typeAssert .nilIface 58 75 true).run Tryd.prog w = .ok (.tuple #[.agg #[.int .i64 0, .slice none 0 0], .bool false]) w := by kernel_rfl
theorem me_start (v : Value) (w : World) : (method 237 65 v "loop.example/dunlin/impl.entry").run Tryd.prog w = .ok (103, v) w := by kernel_rfl
theorem me_mark (v : Value) (w : World) : (method 237 67 v "loop.example/dunlin/impl.entry").run Tryd.prog w = .ok (104, v) w := by kernel_rfl
theorem me_ask (v : Value) (w : World) : (method 237 69 v "loop.example/dunlin/impl.entry").run Tryd.prog w = .ok (105, v) w := by kernel_rfl
theorem me_hap (v : Value) (w : World) : (method 237 72 v "loop.example/dunlin/impl.entry").run Tryd.prog w = .ok (106, v) w := by kernel_rfl
theorem me_end (v : Value) (w : World) : (method 237 75 v "loop.example/dunlin/impl.entry").run Tryd.prog w = .ok (107, v) w := by kernel_rfl
end Go.Proofs.YtmfibpfnbhhoaaaDoor
