/- What type assertions and method calls come to on each kind of error of stage 16; no condition. -/
import Derived.Test.YtlnamkplbikcjaaDoorYNames
import Derived.Stop.Asserts
namespace Go.Proofs.YtlnamkplbikcjaaDoor
open Go.RowKit Ft

theorem ta_num_num (n : Int) (w : World) : (Instr.typeAssert (.iface 38 (.int .i64 n)) 29 38 true).run Tryd.prog w = .ok (.tuple #[.int .i64 n, .bool true]) w := by kernel_rfl
theorem ta_num_flt (n : Int) (w : World) : (Instr.typeAssert (.iface 38 (.int .i64 n)) 29 57 true).run Tryd.prog w = .ok (.tuple #[.pointer none, .bool false]) w := by kernel_rfl
theorem ta_num_plc (n : Int) (w : World) : (Instr.typeAssert (.iface 38 (.int .i64 n)) 29 61 true).run Tryd.prog w = .ok (.tuple #[.pointer none, .bool false]) w := by kernel_rfl
theorem ta_num_par (n : Int) (w : World) : (Instr.typeAssert (.iface 38 (.int .i64 n)) 29 64 true).run Tryd.prog w = .ok (.tuple #[.pointer none, .bool false]) w := by kernel_rfl
theorem ta_num_odd (n : Int) (w : World) : (Instr.typeAssert (.iface 38 (.int .i64 n)) 29 68 true).run Tryd.prog w = .ok (.tuple #[.agg #[.string ⟨#[]⟩], .bool false]) w := by kernel_rfl
theorem ta_num_un (n : Int) (w : World) : (Instr.typeAssert (.iface 38 (.int .i64 n)) 29 101 true).run Tryd.prog w = .ok (.tuple #[.nilIface, .bool false]) w := run_typeAssert_lacksB Tryd.underlying101 (by kernel_rfl) (by kernel_rfl) _ _ w
theorem ta_num_us (n : Int) (w : World) : (Instr.typeAssert (.iface 38 (.int .i64 n)) 29 103 true).run Tryd.prog w = .ok (.tuple #[.nilIface, .bool false]) w := run_typeAssert_lacksB Tryd.underlying103 (by kernel_rfl) (by kernel_rfl) _ _ w
theorem ta_num_is (n : Int) (w : World) : (Instr.typeAssert (.iface 38 (.int .i64 n)) 29 98 true).run Tryd.prog w = .ok (.tuple #[.nilIface, .bool false]) w := run_typeAssert_lacksB Tryd.underlying98 (by kernel_rfl) (by kernel_rfl) _ _ w
theorem ta_num_as (n : Int) (w : World) : (Instr.typeAssert (.iface 38 (.int .i64 n)) 29 130 true).run Tryd.prog w = .ok (.tuple #[.nilIface, .bool false]) w := run_typeAssert_lacksB Tryd.underlying130 (by kernel_rfl) (by kernel_rfl) _ _ w
theorem ta_flt_num (p : Option Addr) (w : World) : (Instr.typeAssert (.iface 57 (.pointer p)) 29 38 true).run Tryd.prog w = .ok (.tuple #[.int .i64 0, .bool false]) w := by kernel_rfl
theorem ta_flt_flt (p : Option Addr) (w : World) : (Instr.typeAssert (.iface 57 (.pointer p)) 29 57 true).run Tryd.prog w = .ok (.tuple #[.pointer p, .bool true]) w := by kernel_rfl
theorem ta_flt_plc (p : Option Addr) (w : World) : (Instr.typeAssert (.iface 57 (.pointer p)) 29 61 true).run Tryd.prog w = .ok (.tuple #[.pointer none, .bool false]) w := by kernel_rfl
theorem ta_flt_par (p : Option Addr) (w : World) : (Instr.typeAssert (.iface 57 (.pointer p)) 29 64 true).run Tryd.prog w = .ok (.tuple #[.pointer none, .bool false]) w := by kernel_rfl
theorem ta_flt_odd (p : Option Addr) (w : World) : (Instr.typeAssert (.iface 57 (.pointer p)) 29 68 true).run Tryd.prog w = .ok (.tuple #[.agg #[.string ⟨#[]⟩], .bool false]) w := by kernel_rfl
theorem ta_flt_un (p : Option Addr) (w : World) : (Instr.typeAssert (.iface 57 (.pointer p)) 29 101 true).run Tryd.prog w = .ok (.tuple #[.iface 57 (.pointer p), .bool true]) w := run_typeAssert_hasB Tryd.underlying101 (by kernel_rfl) _ _ w
theorem ta_flt_us (p : Option Addr) (w : World) : (Instr.typeAssert (.iface 57 (.pointer p)) 29 103 true).run Tryd.prog w = .ok (.tuple #[.nilIface, .bool false]) w := run_typeAssert_lacksB Tryd.underlying103 (by kernel_rfl) (by kernel_rfl) _ _ w
theorem ta_flt_is (p : Option Addr) (w : World) : (Instr.typeAssert (.iface 57 (.pointer p)) 29 98 true).run Tryd.prog w = .ok (.tuple #[.nilIface, .bool false]) w := run_typeAssert_lacksB Tryd.underlying98 (by kernel_rfl) (by kernel_rfl) _ _ w
theorem ta_flt_as (p : Option Addr) (w : World) : (Instr.typeAssert (.iface 57 (.pointer p)) 29 130 true).run Tryd.prog w = .ok (.tuple #[.nilIface, .bool false]) w := run_typeAssert_lacksB Tryd.underlying130 (by kernel_rfl) (by kernel_rfl) _ _ w
theorem ta_plc_num (p : Option Addr) (w : World) : (Instr.typeAssert (.iface 61 (.pointer p)) 29 38 true).run Tryd.prog w = .ok (.tuple #[.int .i64 0, .bool false]) w := by kernel_rfl
theorem ta_plc_flt (p : Option Addr) (w : World) : (Instr.typeAssert (.iface 61 (.pointer p)) 29 57 true).run Tryd.prog w = .ok (.tuple #[.pointer none, .bool false]) w := by kernel_rfl
theorem ta_plc_plc (p : Option Addr) (w : World) : (Instr.typeAssert (.iface 61 (.pointer p)) 29 61 true).run Tryd.prog w = .ok (.tuple #[.pointer p, .bool true]) w := by kernel_rfl
theorem ta_plc_par (p : Option Addr) (w : World) : (Instr.typeAssert (.iface 61 (.pointer p)) 29 64 true).run Tryd.prog w = .ok (.tuple #[.pointer none, .bool false]) w := by kernel_rfl
theorem ta_plc_odd (p : Option Addr) (w : World) : (Instr.typeAssert (.iface 61 (.pointer p)) 29 68 true).run Tryd.prog w = .ok (.tuple #[.agg #[.string ⟨#[]⟩], .bool false]) w := by kernel_rfl
theorem ta_plc_un (p : Option Addr) (w : World) : (Instr.typeAssert (.iface 61 (.pointer p)) 29 101 true).run Tryd.prog w = .ok (.tuple #[.iface 61 (.pointer p), .bool true]) w := run_typeAssert_hasB Tryd.underlying101 (by kernel_rfl) _ _ w
theorem ta_plc_us (p : Option Addr) (w : World) : (Instr.typeAssert (.iface 61 (.pointer p)) 29 103 true).run Tryd.prog w = .ok (.tuple #[.nilIface, .bool false]) w := run_typeAssert_lacksB Tryd.underlying103 (by kernel_rfl) (by kernel_rfl) _ _ w
theorem ta_plc_is (p : Option Addr) (w : World) : (Instr.typeAssert (.iface 61 (.pointer p)) 29 98 true).run Tryd.prog w = .ok (.tuple #[.nilIface, .bool false]) w := run_typeAssert_lacksB Tryd.underlying98 (by kernel_rfl) (by kernel_rfl) _ _ w
theorem ta_plc_as (p : Option Addr) (w : World) : (Instr.typeAssert (.iface 61 (.pointer p)) 29 130 true).run Tryd.prog w = .ok (.tuple #[.nilIface, .bool false]) w := run_typeAssert_lacksB Tryd.underlying130 (by kernel_rfl) (by kernel_rfl) _ _ w
theorem ta_par_num (p : Option Addr) (w : World) : (Instr.typeAssert (.iface 64 (.pointer p)) 29 38 true).run Tryd.prog w = .ok (.tuple #[.int .i64 0, .bool false]) w := by kernel_rfl
theorem ta_par_flt (p : Option Addr) (w : World) : (Instr.typeAssert (.iface 64 (.pointer p)) 29 57 true).run Tryd.prog w = .ok (.tuple #[.pointer none, .bool false]) w := by kernel_rfl
theorem ta_par_plc (p : Option Addr) (w : World) : (Instr.typeAssert (.iface 64 (.pointer p)) 29 61 true).run Tryd.prog w = .ok (.tuple #[.pointer none, .bool false]) w := by kernel_rfl
theorem ta_par_par (p : Option Addr) (w : World) : (Instr.typeAssert (.iface 64 (.pointer p)) 29 64 true).run Tryd.prog w = .ok (.tuple #[.pointer p, .bool true]) w := by kernel_rfl
theorem ta_par_odd (p : Option Addr) (w : World) : (Instr.typeAssert (.iface 64 (.pointer p)) 29 68 true).run Tryd.prog w = .ok (.tuple #[.agg #[.string ⟨#[]⟩], .bool false]) w := by kernel_rfl
theorem ta_par_un (p : Option Addr) (w : World) : (Instr.typeAssert (.iface 64 (.pointer p)) 29 101 true).run Tryd.prog w = .ok (.tuple #[.nilIface, .bool false]) w := run_typeAssert_lacksB Tryd.underlying101 (by kernel_rfl) (by kernel_rfl) _ _ w
theorem ta_par_us (p : Option Addr) (w : World) : (Instr.typeAssert (.iface 64 (.pointer p)) 29 103 true).run Tryd.prog w = .ok (.tuple #[.iface 64 (.pointer p), .bool true]) w := run_typeAssert_hasB Tryd.underlying103 (by kernel_rfl) _ _ w
theorem ta_par_is (p : Option Addr) (w : World) : (Instr.typeAssert (.iface 64 (.pointer p)) 29 98 true).run Tryd.prog w = .ok (.tuple #[.nilIface, .bool false]) w := run_typeAssert_lacksB Tryd.underlying98 (by kernel_rfl) (by kernel_rfl) _ _ w
theorem ta_par_as (p : Option Addr) (w : World) : (Instr.typeAssert (.iface 64 (.pointer p)) 29 130 true).run Tryd.prog w = .ok (.tuple #[.nilIface, .bool false]) w := run_typeAssert_lacksB Tryd.underlying130 (by kernel_rfl) (by kernel_rfl) _ _ w
theorem ta_odd_num (s : ByteArray) (w : World) : (Instr.typeAssert (.iface 68 (.agg #[.string s])) 29 38 true).run Tryd.prog w = .ok (.tuple #[.int .i64 0, .bool false]) w := by kernel_rfl
theorem ta_odd_flt (s : ByteArray) (w : World) : (Instr.typeAssert (.iface 68 (.agg #[.string s])) 29 57 true).run Tryd.prog w = .ok (.tuple #[.pointer none, .bool false]) w := by kernel_rfl
theorem ta_odd_plc (s : ByteArray) (w : World) : (Instr.typeAssert (.iface 68 (.agg #[.string s])) 29 61 true).run Tryd.prog w = .ok (.tuple #[.pointer none, .bool false]) w := by kernel_rfl
theorem ta_odd_par (s : ByteArray) (w : World) : (Instr.typeAssert (.iface 68 (.agg #[.string s])) 29 64 true).run Tryd.prog w = .ok (.tuple #[.pointer none, .bool false]) w := by kernel_rfl
theorem ta_odd_odd (s : ByteArray) (w : World) : (Instr.typeAssert (.iface 68 (.agg #[.string s])) 29 68 true).run Tryd.prog w = .ok (.tuple #[.agg #[.string s], .bool true]) w := by kernel_rfl
theorem ta_odd_un (s : ByteArray) (w : World) : (Instr.typeAssert (.iface 68 (.agg #[.string s])) 29 101 true).run Tryd.prog w = .ok (.tuple #[.nilIface, .bool false]) w := run_typeAssert_lacksB Tryd.underlying101 (by kernel_rfl) (by kernel_rfl) _ _ w
theorem ta_odd_us (s : ByteArray) (w : World) : (Instr.typeAssert (.iface 68 (.agg #[.string s])) 29 103 true).run Tryd.prog w = .ok (.tuple #[.nilIface, .bool false]) w := run_typeAssert_lacksB Tryd.underlying103 (by kernel_rfl) (by kernel_rfl) _ _ w
theorem ta_odd_is (s : ByteArray) (w : World) : (Instr.typeAssert (.iface 68 (.agg #[.string s])) 29 98 true).run Tryd.prog w = .ok (.tuple #[.nilIface, .bool false]) w := run_typeAssert_lacksB Tryd.underlying98 (by kernel_rfl) (by kernel_rfl) _ _ w
theorem ta_odd_as (s : ByteArray) (w : World) : (Instr.typeAssert (.iface 68 (.agg #[.string s])) 29 130 true).run Tryd.prog w = .ok (.tuple #[.nilIface, .bool false]) w := run_typeAssert_lacksB Tryd.underlying130 (by kernel_rfl) (by kernel_rfl) _ _ w
theorem me_num (n : Int) (w : World) : (Go.method 281 38 (.int .i64 n) "Error").run Tryd.prog w = .ok (45, .int .i64 n) w := by kernel_rfl
theorem me_flt (p : Option Addr) (w : World) : (Go.method 281 57 (.pointer p) "Error").run Tryd.prog w = .ok (42, .pointer p) w := by kernel_rfl
theorem mu_flt (p : Option Addr) (w : World) : (Go.method 281 57 (.pointer p) "Unwrap").run Tryd.prog w = .ok (110, .pointer p) w := by kernel_rfl
theorem me_plc (p : Option Addr) (w : World) : (Go.method 281 61 (.pointer p) "Error").run Tryd.prog w = .ok (43, .pointer p) w := by kernel_rfl
theorem mu_plc (p : Option Addr) (w : World) : (Go.method 281 61 (.pointer p) "Unwrap").run Tryd.prog w = .ok (111, .pointer p) w := by kernel_rfl
theorem me_par (p : Option Addr) (w : World) : (Go.method 281 64 (.pointer p) "Error").run Tryd.prog w = .ok (44, .pointer p) w := by kernel_rfl
theorem mu_par (p : Option Addr) (w : World) : (Go.method 281 64 (.pointer p) "Unwrap").run Tryd.prog w = .ok (112, .pointer p) w := by kernel_rfl
theorem me_odd (s : ByteArray) (w : World) : (Go.method 281 68 (.agg #[.string s]) "Error").run Tryd.prog w = .ok (46, .agg #[.string s]) w := by kernel_rfl
end Go.Proofs.YtlnamkplbikcjaaDoor
