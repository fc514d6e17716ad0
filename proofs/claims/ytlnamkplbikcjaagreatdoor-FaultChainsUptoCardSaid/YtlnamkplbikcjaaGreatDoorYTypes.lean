/- What type assertions and method calls come to on each kind of error of stage 16; no condition. -/
import Derived.Test.YtlnamkplbikcjaaGreatDoorYNames
import Derived.Stop.Asserts
namespace Go.Proofs.YtlnamkplbikcjaaGreatDoor
open Go.RowKit Ft

theorem ta_num_num (n : Int) (w : World) : (Instr.typeAssert (.iface 39 (.int .i64 n)) 29 39 true).run Tryz.prog w = .ok (.tuple #[.int .i64 n, .bool true]) w := by kernel_rfl
theorem ta_num_flt (n : Int) (w : World) : (Instr.typeAssert (.iface 39 (.int .i64 n)) 29 46 true).run Tryz.prog w = .ok (.tuple #[.pointer none, .bool false]) w := by kernel_rfl
theorem ta_num_plc (n : Int) (w : World) : (Instr.typeAssert (.iface 39 (.int .i64 n)) 29 50 true).run Tryz.prog w = .ok (.tuple #[.pointer none, .bool false]) w := by kernel_rfl
theorem ta_num_par (n : Int) (w : World) : (Instr.typeAssert (.iface 39 (.int .i64 n)) 29 53 true).run Tryz.prog w = .ok (.tuple #[.pointer none, .bool false]) w := by kernel_rfl
theorem ta_num_odd (n : Int) (w : World) : (Instr.typeAssert (.iface 39 (.int .i64 n)) 29 57 true).run Tryz.prog w = .ok (.tuple #[.agg #[.string ⟨#[]⟩], .bool false]) w := by kernel_rfl
theorem ta_num_un (n : Int) (w : World) : (Instr.typeAssert (.iface 39 (.int .i64 n)) 29 86 true).run Tryz.prog w = .ok (.tuple #[.nilIface, .bool false]) w := run_typeAssert_lacksB Tryz.underlying86 (by kernel_rfl) (by kernel_rfl) _ _ w
theorem ta_num_us (n : Int) (w : World) : (Instr.typeAssert (.iface 39 (.int .i64 n)) 29 88 true).run Tryz.prog w = .ok (.tuple #[.nilIface, .bool false]) w := run_typeAssert_lacksB Tryz.underlying88 (by kernel_rfl) (by kernel_rfl) _ _ w
theorem ta_num_is (n : Int) (w : World) : (Instr.typeAssert (.iface 39 (.int .i64 n)) 29 83 true).run Tryz.prog w = .ok (.tuple #[.nilIface, .bool false]) w := run_typeAssert_lacksB Tryz.underlying83 (by kernel_rfl) (by kernel_rfl) _ _ w
theorem ta_num_as (n : Int) (w : World) : (Instr.typeAssert (.iface 39 (.int .i64 n)) 29 118 true).run Tryz.prog w = .ok (.tuple #[.nilIface, .bool false]) w := run_typeAssert_lacksB Tryz.underlying118 (by kernel_rfl) (by kernel_rfl) _ _ w
theorem ta_flt_num (p : Option Addr) (w : World) : (Instr.typeAssert (.iface 46 (.pointer p)) 29 39 true).run Tryz.prog w = .ok (.tuple #[.int .i64 0, .bool false]) w := by kernel_rfl
theorem ta_flt_flt (p : Option Addr) (w : World) : (Instr.typeAssert (.iface 46 (.pointer p)) 29 46 true).run Tryz.prog w = .ok (.tuple #[.pointer p, .bool true]) w := by kernel_rfl
theorem ta_flt_plc (p : Option Addr) (w : World) : (Instr.typeAssert (.iface 46 (.pointer p)) 29 50 true).run Tryz.prog w = .ok (.tuple #[.pointer none, .bool false]) w := by kernel_rfl
theorem ta_flt_par (p : Option Addr) (w : World) : (Instr.typeAssert (.iface 46 (.pointer p)) 29 53 true).run Tryz.prog w = .ok (.tuple #[.pointer none, .bool false]) w := by kernel_rfl
theorem ta_flt_odd (p : Option Addr) (w : World) : (Instr.typeAssert (.iface 46 (.pointer p)) 29 57 true).run Tryz.prog w = .ok (.tuple #[.agg #[.string ⟨#[]⟩], .bool false]) w := by kernel_rfl
theorem ta_flt_un (p : Option Addr) (w : World) : (Instr.typeAssert (.iface 46 (.pointer p)) 29 86 true).run Tryz.prog w = .ok (.tuple #[.iface 46 (.pointer p), .bool true]) w := run_typeAssert_hasB Tryz.underlying86 (by kernel_rfl) _ _ w
theorem ta_flt_us (p : Option Addr) (w : World) : (Instr.typeAssert (.iface 46 (.pointer p)) 29 88 true).run Tryz.prog w = .ok (.tuple #[.nilIface, .bool false]) w := run_typeAssert_lacksB Tryz.underlying88 (by kernel_rfl) (by kernel_rfl) _ _ w
theorem ta_flt_is (p : Option Addr) (w : World) : (Instr.typeAssert (.iface 46 (.pointer p)) 29 83 true).run Tryz.prog w = .ok (.tuple #[.nilIface, .bool false]) w := run_typeAssert_lacksB Tryz.underlying83 (by kernel_rfl) (by kernel_rfl) _ _ w
theorem ta_flt_as (p : Option Addr) (w : World) : (Instr.typeAssert (.iface 46 (.pointer p)) 29 118 true).run Tryz.prog w = .ok (.tuple #[.nilIface, .bool false]) w := run_typeAssert_lacksB Tryz.underlying118 (by kernel_rfl) (by kernel_rfl) _ _ w
theorem ta_plc_num (p : Option Addr) (w : World) : (Instr.typeAssert (.iface 50 (.pointer p)) 29 39 true).run Tryz.prog w = .ok (.tuple #[.int .i64 0, .bool false]) w := by kernel_rfl
theorem ta_plc_flt (p : Option Addr) (w : World) : (Instr.typeAssert (.iface 50 (.pointer p)) 29 46 true).run Tryz.prog w = .ok (.tuple #[.pointer none, .bool false]) w := by kernel_rfl
theorem ta_plc_plc (p : Option Addr) (w : World) : (Instr.typeAssert (.iface 50 (.pointer p)) 29 50 true).run Tryz.prog w = .ok (.tuple #[.pointer p, .bool true]) w := by kernel_rfl
theorem ta_plc_par (p : Option Addr) (w : World) : (Instr.typeAssert (.iface 50 (.pointer p)) 29 53 true).run Tryz.prog w = .ok (.tuple #[.pointer none, .bool false]) w := by kernel_rfl
theorem ta_plc_odd (p : Option Addr) (w : World) : (Instr.typeAssert (.iface 50 (.pointer p)) 29 57 true).run Tryz.prog w = .ok (.tuple #[.agg #[.string ⟨#[]⟩], .bool false]) w := by kernel_rfl
theorem ta_plc_un (p : Option Addr) (w : World) : (Instr.typeAssert (.iface 50 (.pointer p)) 29 86 true).run Tryz.prog w = .ok (.tuple #[.iface 50 (.pointer p), .bool true]) w := run_typeAssert_hasB Tryz.underlying86 (by kernel_rfl) _ _ w
theorem ta_plc_us (p : Option Addr) (w : World) : (Instr.typeAssert (.iface 50 (.pointer p)) 29 88 true).run Tryz.prog w = .ok (.tuple #[.nilIface, .bool false]) w := run_typeAssert_lacksB Tryz.underlying88 (by kernel_rfl) (by kernel_rfl) _ _ w
theorem ta_plc_is (p : Option Addr) (w : World) : (Instr.typeAssert (.iface 50 (.pointer p)) 29 83 true).run Tryz.prog w = .ok (.tuple #[.nilIface, .bool false]) w := run_typeAssert_lacksB Tryz.underlying83 (by kernel_rfl) (by kernel_rfl) _ _ w
theorem ta_plc_as (p : Option Addr) (w : World) : (Instr.typeAssert (.iface 50 (.pointer p)) 29 118 true).run Tryz.prog w = .ok (.tuple #[.nilIface, .bool false]) w := run_typeAssert_lacksB Tryz.underlying118 (by kernel_rfl) (by kernel_rfl) _ _ w
theorem ta_par_num (p : Option Addr) (w : World) : (Instr.typeAssert (.iface 53 (.pointer p)) 29 39 true).run Tryz.prog w = .ok (.tuple #[.int .i64 0, .bool false]) w := by kernel_rfl
theorem ta_par_flt (p : Option Addr) (w : World) : (Instr.typeAssert (.iface 53 (.pointer p)) 29 46 true).run Tryz.prog w = .ok (.tuple #[.pointer none, .bool false]) w := by kernel_rfl
theorem ta_par_plc (p : Option Addr) (w : World) : (Instr.typeAssert (.iface 53 (.pointer p)) 29 50 true).run Tryz.prog w = .ok (.tuple #[.pointer none, .bool false]) w := by kernel_rfl
theorem ta_par_par (p : Option Addr) (w : World) : (Instr.typeAssert (.iface 53 (.pointer p)) 29 53 true).run Tryz.prog w = .ok (.tuple #[.pointer p, .bool true]) w := by kernel_rfl
theorem ta_par_odd (p : Option Addr) (w : World) : (Instr.typeAssert (.iface 53 (.pointer p)) 29 57 true).run Tryz.prog w = .ok (.tuple #[.agg #[.string ⟨#[]⟩], .bool false]) w := by kernel_rfl
theorem ta_par_un (p : Option Addr) (w : World) : (Instr.typeAssert (.iface 53 (.pointer p)) 29 86 true).run Tryz.prog w = .ok (.tuple #[.nilIface, .bool false]) w := run_typeAssert_lacksB Tryz.underlying86 (by kernel_rfl) (by kernel_rfl) _ _ w
theorem ta_par_us (p : Option Addr) (w : World) : (Instr.typeAssert (.iface 53 (.pointer p)) 29 88 true).run Tryz.prog w = .ok (.tuple #[.iface 53 (.pointer p), .bool true]) w := run_typeAssert_hasB Tryz.underlying88 (by kernel_rfl) _ _ w
theorem ta_par_is (p : Option Addr) (w : World) : (Instr.typeAssert (.iface 53 (.pointer p)) 29 83 true).run Tryz.prog w = .ok (.tuple #[.nilIface, .bool false]) w := run_typeAssert_lacksB Tryz.underlying83 (by kernel_rfl) (by kernel_rfl) _ _ w
theorem ta_par_as (p : Option Addr) (w : World) : (Instr.typeAssert (.iface 53 (.pointer p)) 29 118 true).run Tryz.prog w = .ok (.tuple #[.nilIface, .bool false]) w := run_typeAssert_lacksB Tryz.underlying118 (by kernel_rfl) (by kernel_rfl) _ _ w
theorem ta_odd_num (s : ByteArray) (w : World) : (Instr.typeAssert (.iface 57 (.agg #[.string s])) 29 39 true).run Tryz.prog w = .ok (.tuple #[.int .i64 0, .bool false]) w := by kernel_rfl
theorem ta_odd_flt (s : ByteArray) (w : World) : (Instr.typeAssert (.iface 57 (.agg #[.string s])) 29 46 true).run Tryz.prog w = .ok (.tuple #[.pointer none, .bool false]) w := by kernel_rfl
theorem ta_odd_plc (s : ByteArray) (w : World) : (Instr.typeAssert (.iface 57 (.agg #[.string s])) 29 50 true).run Tryz.prog w = .ok (.tuple #[.pointer none, .bool false]) w := by kernel_rfl
theorem ta_odd_par (s : ByteArray) (w : World) : (Instr.typeAssert (.iface 57 (.agg #[.string s])) 29 53 true).run Tryz.prog w = .ok (.tuple #[.pointer none, .bool false]) w := by kernel_rfl
theorem ta_odd_odd (s : ByteArray) (w : World) : (Instr.typeAssert (.iface 57 (.agg #[.string s])) 29 57 true).run Tryz.prog w = .ok (.tuple #[.agg #[.string s], .bool true]) w := by kernel_rfl
theorem ta_odd_un (s : ByteArray) (w : World) : (Instr.typeAssert (.iface 57 (.agg #[.string s])) 29 86 true).run Tryz.prog w = .ok (.tuple #[.nilIface, .bool false]) w := run_typeAssert_lacksB Tryz.underlying86 (by kernel_rfl) (by kernel_rfl) _ _ w
theorem ta_odd_us (s : ByteArray) (w : World) : (Instr.typeAssert (.iface 57 (.agg #[.string s])) 29 88 true).run Tryz.prog w = .ok (.tuple #[.nilIface, .bool false]) w := run_typeAssert_lacksB Tryz.underlying88 (by kernel_rfl) (by kernel_rfl) _ _ w
theorem ta_odd_is (s : ByteArray) (w : World) : (Instr.typeAssert (.iface 57 (.agg #[.string s])) 29 83 true).run Tryz.prog w = .ok (.tuple #[.nilIface, .bool false]) w := run_typeAssert_lacksB Tryz.underlying83 (by kernel_rfl) (by kernel_rfl) _ _ w
theorem ta_odd_as (s : ByteArray) (w : World) : (Instr.typeAssert (.iface 57 (.agg #[.string s])) 29 118 true).run Tryz.prog w = .ok (.tuple #[.nilIface, .bool false]) w := run_typeAssert_lacksB Tryz.underlying118 (by kernel_rfl) (by kernel_rfl) _ _ w
theorem me_num (n : Int) (w : World) : (Go.method 269 39 (.int .i64 n) "Error").run Tryz.prog w = .ok (27, .int .i64 n) w := by kernel_rfl
theorem me_flt (p : Option Addr) (w : World) : (Go.method 269 46 (.pointer p) "Error").run Tryz.prog w = .ok (24, .pointer p) w := by kernel_rfl
theorem mu_flt (p : Option Addr) (w : World) : (Go.method 269 46 (.pointer p) "Unwrap").run Tryz.prog w = .ok (104, .pointer p) w := by kernel_rfl
theorem me_plc (p : Option Addr) (w : World) : (Go.method 269 50 (.pointer p) "Error").run Tryz.prog w = .ok (25, .pointer p) w := by kernel_rfl
theorem mu_plc (p : Option Addr) (w : World) : (Go.method 269 50 (.pointer p) "Unwrap").run Tryz.prog w = .ok (105, .pointer p) w := by kernel_rfl
theorem me_par (p : Option Addr) (w : World) : (Go.method 269 53 (.pointer p) "Error").run Tryz.prog w = .ok (26, .pointer p) w := by kernel_rfl
theorem mu_par (p : Option Addr) (w : World) : (Go.method 269 53 (.pointer p) "Unwrap").run Tryz.prog w = .ok (106, .pointer p) w := by kernel_rfl
theorem me_odd (s : ByteArray) (w : World) : (Go.method 269 57 (.agg #[.string s]) "Error").run Tryz.prog w = .ok (28, .agg #[.string s]) w := by kernel_rfl
end Go.Proofs.YtlnamkplbikcjaaGreatDoor
