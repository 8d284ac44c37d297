/- The last region of BlockNumbers, its orders met. -/
import Derived.Test.YteeemfohehpaeaaBTail1
import Derived.Test.YteeemfohehpaeaaBReads
import Derived.Test.YteeemfohehpaeaaBBuilds
import Derived.Test.YteeemfohehpaeaaBRise
import Derived.Test.YteeemfohehpaeaaBRefC
import Derived.Test.YteeemfohehpaeaaPE
import Derived.Deep.RegionHeld3
namespace Go.Proofs.Yteeemfohehpaeaa
set_option maxRecDepth 100000
open Go.RowKit Go.Sort

set_option maxHeartbeats 400000000 in
theorem region33 (W8 : World) (mA mB mC : World → World) (lb loff ml mc : Nat) (ao bo : Option Addr) (ac bc : Nat) (hyl2 : (255 : Int) ≤ ac) (hzl2 : (16 : Int) ≤ bc) (rA : ∀ W, (Instr.makeSlice 23 (.int .i64 256) (.int .i64 256)).run Try.prog W = .ok (.slice (some ⟨W.heap.size, 0, none⟩) 256 256) (mA W)) (rB : ∀ W, (Instr.makeSlice 23 (.int .i64 255) (.int .i64 255)).run Try.prog W = .ok (.slice (some ⟨W.heap.size, 0, none⟩) 255 255) (mB W)) (rC : ∀ W, (Instr.makeSlice 23 (.int .i64 4096) (.int .i64 4096)).run Try.prog W = .ok (.slice (some ⟨W.heap.size, 0, none⟩) 4096 4096) (mC W)) (kA : ∀ W, Below W8.heap.size W8 W → Below W8.heap.size W8 (mA W)) (kB : ∀ W, Below W8.heap.size W8 W → Below W8.heap.size W8 (mB W)) (kC : ∀ W, Below W8.heap.size W8 W → Below W8.heap.size W8 (mC W)) (q1 : ∀ W, Below W8.heap.size W8 W → Calls Try.prog 12 #[.slice (some ⟨lb, loff, none⟩) ml mc] W fun x W' => x = .returned (.bool true) ∧ Below W8.heap.size W8 W') (q2 : ∀ W, Below W8.heap.size W8 W → Calls Try.prog 12 #[.slice ao 256 ac] W fun x W' => x = .returned (.bool true) ∧ Below W8.heap.size W8 W') (q3 : ∀ W, Below W8.heap.size W8 W → Calls Try.prog 12 #[.slice ao 255 ac] W fun x W' => x = .returned (.bool true) ∧ Below W8.heap.size W8 W') (q4 : ∀ W, Below W8.heap.size W8 W → Calls Try.prog 12 #[.slice bo 20 bc] W fun x W' => x = .returned (.bool true) ∧ Below W8.heap.size W8 W') (q5 : ∀ W, Below W8.heap.size W8 W → Calls Try.prog 12 #[.slice bo 16 bc] W fun x W' => x = .returned (.bool true) ∧ Below W8.heap.size W8 W') (q6 : ∀ W, Below W8.heap.size W8 W → Calls Try.prog 12 #[.slice (some ⟨W.heap.size, 0, none⟩) 1 1] (W.alloc (.cells #[.slice none 0 0, .slice none 0 0, .bool false] 25)) fun x W' => x = .returned (.bool true) ∧ Below W8.heap.size W8 W') (q7 : ∀ W, Below W8.heap.size W8 W → Calls Try.prog 12 #[.slice (some ⟨(mA W).heap.size, 0, none⟩) 1 1] ((mA W).alloc (.cells #[.slice (some ⟨W.heap.size, 0, none⟩) 256 256, .slice none 0 0, .bool false] 25)) fun x W' => x = .returned (.bool true) ∧ Below W8.heap.size W8 W') (q8 : ∀ W, Below W8.heap.size W8 W → Calls Try.prog 12 #[.slice (some ⟨(mC (mB W)).heap.size, 0, none⟩) 1 1] ((mC (mB W)).alloc (.cells #[.slice (some ⟨W.heap.size, 0, none⟩) 255 255, .slice (some ⟨(mB W).heap.size, 0, none⟩) 4096 4096, .bool false] 25)) fun x W' => x = .returned (.bool true) ∧ Below W8.heap.size W8 W') (q9 : ∀ W, Below W8.heap.size W8 W → Calls Try.prog 12 #[.slice (some ⟨(mB (mC W)).heap.size, 0, none⟩) 1 1] ((mB (mC W)).alloc (.cells #[.slice (some ⟨(mC W).heap.size, 0, none⟩) 255 255, .slice (some ⟨W.heap.size, 0, none⟩) 4096 4096, .bool false] 25)) fun x W' => x = .returned (.bool true) ∧ Below W8.heap.size W8 W') (qx : ∀ W, Below W8.heap.size W8 W → ∀ a b : Int, 0 ≤ a ∧ a ≤ 255 → 0 ≤ b ∧ b ≤ 255 → Calls Try.prog 12 #[.slice (some ⟨W.heap.size + 2, 0, none⟩) 2 2] (((W.alloc (.cells #[.int .u8 a] 5 (1, 2))).alloc (.cells #[.int .u8 b] 5 (1, 2))).alloc (.cells #[.slice (some ⟨W.heap.size, 0, none⟩) 1 1, .slice none 0 0, .bool false, .slice (some ⟨W.heap.size + 1, 0, none⟩) 1 1, .slice none 0 0, .bool false] 25)) fun x W' => x = .returned (.bool true) ∧ Below W8.heap.size W8 W') (qy : ∀ W, Below W8.heap.size W8 W → ∀ a b : Int, 0 ≤ a ∧ a ≤ 255 → 0 ≤ b ∧ b ≤ 255 → Calls Try.prog 12 #[.slice (some ⟨W.heap.size + 2, 0, none⟩) 2 2] (((W.alloc (.cells #[.int .u8 a] 5 (1, 2))).alloc (.cells #[.int .u8 b] 5 (1, 2))).alloc (.cells #[.slice (some ⟨W.heap.size + 1, 0, none⟩) 1 1, .slice none 0 0, .bool false, .slice (some ⟨W.heap.size, 0, none⟩) 1 1, .slice none 0 0, .bool false] 25)) fun x W' => x = .returned (.bool true) ∧ Below W8.heap.size W8 W') (qk : ∀ W, Below W8.heap.size W8 W → Calls Try.prog 13 #[] W fun x W' => x = .returned (.bool true) ∧ Below W8.heap.size W8 W') (hal : ∀ (W : World) (o : Obj), Below W8.heap.size W8 W → Below W8.heap.size W8 (W.alloc o)) (u0 u2 u3 u4 u5 u6 u8 u10 u11 u12 u13 u14 u15 u16 u17 u18 u19 u20 u21 u22 u23 u24 u25 u26 u27 u28 u29 u30 u31 u32 u33 u34 u35 u36 u37 u38 u39 u40 u41 u42 u43 u44 u45 u46 u47 u48 u49 u50 u51 u52 u53 u54 u55 u56 u57 u58 u59 u60 u61 u62 u63 u64 u65 u66 u67 u68 u69 u70 u71 u72 u73 u74 u75 u76 u77 u78 u79 u80 u81 u82 u83 u84 u85 u86 u87 u88 u89 u90 u91 u92 u93 u94 u95 u96 u97 u98 u99 u100 u101 u102 u103 u104 u105 u106 u107 u108 u109 u110 u111 u112 u113 u114 u115 u116 u117 u118 u119 u120 u121 u122 u123 u124 u125 u126 u127 u128 u129 u130 u131 u132 u133 u134 u135 u136 u137 u138 u139 u140 u141 u142 u143 u144 u145 u146 u147 u148 u149 u150 u151 u152 u153 u154 u155 u156 u157 u158 u159 u160 u161 u162 u163 u164 u165 u166 u167 u168 u169 u170 u171 u172 u173 u174 u175 u176 u177 : Value) : (Code.region 33 #[{ dst := some 117, op := Op.move (Operand.tmp 1), type := 22, pos := "law.go:81", after := #[], guard := none }, { dst := some 118, op := Op.call { callee := Callee.value (Operand.func 12), args := #[Operand.tmp 117], argTypes := #[22] }, type := 4, pos := "law.go:81", after := #[{ on := 0, ground := Ground.data }], guard := none }, { dst := some 119, op := Op.move (Operand.tmp 118), type := 4, pos := "law.go:81", after := #[{ on := 1, ground := Ground.data }, { on := 1, ground := Ground.chain }], guard := none }, { dst := some 120, op := Op.move (Operand.tmp 7), type := 22, pos := "law.go:81", after := #[{ on := 2, ground := Ground.guard }], guard := some (2, true) }, { dst := some 121, op := Op.call { callee := Callee.value (Operand.func 12), args := #[Operand.tmp 120], argTypes := #[22] }, type := 4, pos := "law.go:81", after := #[{ on := 3, ground := Ground.data }, { on := 2, ground := Ground.chain }, { on := 2, ground := Ground.guard }], guard := some (2, true) }, { dst := some 122, op := Op.pick (Operand.tmp 119) (Operand.tmp 121) (Operand.const (Value.bool false)), type := 4, pos := "law.go:81", after := #[{ on := 2, ground := Ground.data }, { on := 4, ground := Ground.data }], guard := none }, { dst := some 123, op := Op.move (Operand.tmp 122), type := 4, pos := "law.go:81", after := #[{ on := 5, ground := Ground.data }, { on := 4, ground := Ground.chain }], guard := none }, { dst := some 124, op := Op.move (Operand.tmp 7), type := 22, pos := "law.go:81", after := #[{ on := 6, ground := Ground.guard }], guard := some (6, true) }, { dst := some 125, op := Op.slice 22 (Operand.tmp 124) none (some (Operand.const (Value.int IntKind.i64 255))) none, type := 22, pos := "law.go:81", after := #[{ on := 7, ground := Ground.data }, { on := 6, ground := Ground.guard }], guard := some (6, true) }, { dst := some 126, op := Op.call { callee := Callee.value (Operand.func 12), args := #[Operand.tmp 125], argTypes := #[22] }, type := 4, pos := "law.go:81", after := #[{ on := 8, ground := Ground.data }, { on := 6, ground := Ground.chain }, { on := 6, ground := Ground.guard }], guard := some (6, true) }, { dst := some 127, op := Op.pick (Operand.tmp 123) (Operand.tmp 126) (Operand.const (Value.bool false)), type := 4, pos := "law.go:81", after := #[{ on := 6, ground := Ground.data }, { on := 9, ground := Ground.data }], guard := none }, { dst := some 128, op := Op.move (Operand.tmp 127), type := 4, pos := "law.go:81", after := #[{ on := 10, ground := Ground.data }, { on := 9, ground := Ground.chain }], guard := none }, { dst := some 129, op := Op.move (Operand.tmp 9), type := 22, pos := "law.go:81", after := #[{ on := 11, ground := Ground.guard }], guard := some (11, true) }, { dst := some 130, op := Op.call { callee := Callee.value (Operand.func 12), args := #[Operand.tmp 129], argTypes := #[22] }, type := 4, pos := "law.go:81", after := #[{ on := 12, ground := Ground.data }, { on := 11, ground := Ground.chain }, { on := 11, ground := Ground.guard }], guard := some (11, true) }, { dst := some 131, op := Op.pick (Operand.tmp 128) (Operand.tmp 130) (Operand.const (Value.bool false)), type := 4, pos := "law.go:81", after := #[{ on := 11, ground := Ground.data }, { on := 13, ground := Ground.data }], guard := none }, { dst := some 132, op := Op.move (Operand.tmp 131), type := 4, pos := "law.go:81", after := #[{ on := 14, ground := Ground.data }, { on := 13, ground := Ground.chain }], guard := none }, { dst := some 133, op := Op.move (Operand.tmp 9), type := 22, pos := "law.go:81", after := #[{ on := 15, ground := Ground.guard }], guard := some (15, true) }, { dst := some 134, op := Op.slice 22 (Operand.tmp 133) none (some (Operand.const (Value.int IntKind.i64 16))) none, type := 22, pos := "law.go:81", after := #[{ on := 16, ground := Ground.data }, { on := 15, ground := Ground.guard }], guard := some (15, true) }, { dst := some 135, op := Op.call { callee := Callee.value (Operand.func 12), args := #[Operand.tmp 134], argTypes := #[22] }, type := 4, pos := "law.go:81", after := #[{ on := 17, ground := Ground.data }, { on := 15, ground := Ground.chain }, { on := 15, ground := Ground.guard }], guard := some (15, true) }, { dst := some 136, op := Op.pick (Operand.tmp 132) (Operand.tmp 135) (Operand.const (Value.bool false)), type := 4, pos := "law.go:81", after := #[{ on := 15, ground := Ground.data }, { on := 18, ground := Ground.data }], guard := none }, { dst := some 137, op := Op.move (Operand.tmp 136), type := 4, pos := "law.go:81", after := #[{ on := 19, ground := Ground.data }, { on := 18, ground := Ground.chain }], guard := none }, { dst := some 138, op := Op.build 25 #[], type := 25, pos := "law.go:81", after := #[{ on := 20, ground := Ground.guard }], guard := some (20, true) }, { dst := some 139, op := Op.buildSlice 22 1 #[(0, Operand.tmp 138)], type := 22, pos := "law.go:81", after := #[{ on := 21, ground := Ground.data }, { on := 20, ground := Ground.guard }], guard := some (20, true) }, { dst := some 140, op := Op.call { callee := Callee.value (Operand.func 12), args := #[Operand.tmp 139], argTypes := #[22] }, type := 4, pos := "law.go:81", after := #[{ on := 22, ground := Ground.data }, { on := 20, ground := Ground.chain }, { on := 20, ground := Ground.guard }], guard := some (20, true) }, { dst := some 141, op := Op.pick (Operand.tmp 137) (Operand.tmp 140) (Operand.const (Value.bool false)), type := 4, pos := "law.go:81", after := #[{ on := 20, ground := Ground.data }, { on := 23, ground := Ground.data }], guard := none }, { dst := some 142, op := Op.move (Operand.tmp 141), type := 4, pos := "law.go:81", after := #[{ on := 24, ground := Ground.data }, { on := 23, ground := Ground.chain }], guard := none }, { dst := some 143, op := Op.makeSlice 23 (Operand.const (Value.int IntKind.i64 256)) (Operand.const (Value.int IntKind.i64 256)), type := 23, pos := "law.go:81", after := #[{ on := 25, ground := Ground.guard }], guard := some (25, true) }, { dst := some 144, op := Op.build 25 #[(0, Operand.tmp 143)], type := 25, pos := "law.go:81", after := #[{ on := 26, ground := Ground.data }, { on := 25, ground := Ground.guard }], guard := some (25, true) }, { dst := some 145, op := Op.buildSlice 22 1 #[(0, Operand.tmp 144)], type := 22, pos := "law.go:81", after := #[{ on := 27, ground := Ground.data }, { on := 25, ground := Ground.guard }], guard := some (25, true) }, { dst := some 146, op := Op.call { callee := Callee.value (Operand.func 12), args := #[Operand.tmp 145], argTypes := #[22] }, type := 4, pos := "law.go:81", after := #[{ on := 28, ground := Ground.data }, { on := 25, ground := Ground.chain }, { on := 25, ground := Ground.guard }], guard := some (25, true) }, { dst := some 147, op := Op.pick (Operand.tmp 142) (Operand.tmp 146) (Operand.const (Value.bool false)), type := 4, pos := "law.go:81", after := #[{ on := 25, ground := Ground.data }, { on := 29, ground := Ground.data }], guard := none }, { dst := some 148, op := Op.move (Operand.tmp 147), type := 4, pos := "law.go:81", after := #[{ on := 30, ground := Ground.data }, { on := 29, ground := Ground.chain }], guard := none }, { dst := some 149, op := Op.makeSlice 23 (Operand.const (Value.int IntKind.i64 255)) (Operand.const (Value.int IntKind.i64 255)), type := 23, pos := "law.go:81", after := #[{ on := 31, ground := Ground.guard }], guard := some (31, true) }, { dst := some 150, op := Op.makeSlice 23 (Operand.const (Value.int IntKind.i64 4096)) (Operand.const (Value.int IntKind.i64 4096)), type := 23, pos := "law.go:81", after := #[{ on := 31, ground := Ground.guard }], guard := some (31, true) }, { dst := some 151, op := Op.build 25 #[(0, Operand.tmp 149), (1, Operand.tmp 150)], type := 25, pos := "law.go:81", after := #[{ on := 32, ground := Ground.data }, { on := 33, ground := Ground.data }, { on := 31, ground := Ground.guard }], guard := some (31, true) }, { dst := some 152, op := Op.buildSlice 22 1 #[(0, Operand.tmp 151)], type := 22, pos := "law.go:81", after := #[{ on := 34, ground := Ground.data }, { on := 31, ground := Ground.guard }], guard := some (31, true) }, { dst := some 153, op := Op.call { callee := Callee.value (Operand.func 12), args := #[Operand.tmp 152], argTypes := #[22] }, type := 4, pos := "law.go:81", after := #[{ on := 35, ground := Ground.data }, { on := 31, ground := Ground.chain }, { on := 31, ground := Ground.guard }], guard := some (31, true) }, { dst := some 154, op := Op.pick (Operand.tmp 148) (Operand.tmp 153) (Operand.const (Value.bool false)), type := 4, pos := "law.go:81", after := #[{ on := 31, ground := Ground.data }, { on := 36, ground := Ground.data }], guard := none }, { dst := some 155, op := Op.move (Operand.tmp 154), type := 4, pos := "law.go:81", after := #[{ on := 37, ground := Ground.data }, { on := 36, ground := Ground.chain }], guard := none }, { dst := some 156, op := Op.buildSlice 23 1 #[(0, Operand.const (Value.int IntKind.u8 98))], type := 23, pos := "law.go:81", after := #[{ on := 38, ground := Ground.guard }], guard := some (38, true) }, { dst := some 157, op := Op.convert 23 23 (Operand.tmp 156), type := 23, pos := "law.go:81", after := #[{ on := 39, ground := Ground.data }, { on := 38, ground := Ground.guard }], guard := some (38, true) }, { dst := some 158, op := Op.build 25 #[(0, Operand.tmp 157)], type := 25, pos := "law.go:81", after := #[{ on := 40, ground := Ground.data }, { on := 38, ground := Ground.guard }], guard := some (38, true) }, { dst := some 159, op := Op.buildSlice 23 1 #[(0, Operand.const (Value.int IntKind.u8 97))], type := 23, pos := "law.go:81", after := #[{ on := 38, ground := Ground.guard }], guard := some (38, true) }, { dst := some 160, op := Op.convert 23 23 (Operand.tmp 159), type := 23, pos := "law.go:81", after := #[{ on := 42, ground := Ground.data }, { on := 38, ground := Ground.guard }], guard := some (38, true) }, { dst := some 161, op := Op.build 25 #[(0, Operand.tmp 160)], type := 25, pos := "law.go:81", after := #[{ on := 43, ground := Ground.data }, { on := 38, ground := Ground.guard }], guard := some (38, true) }, { dst := some 162, op := Op.buildSlice 22 2 #[(0, Operand.tmp 158), (1, Operand.tmp 161)], type := 22, pos := "law.go:81", after := #[{ on := 41, ground := Ground.data }, { on := 44, ground := Ground.data }, { on := 38, ground := Ground.guard }], guard := some (38, true) }, { dst := some 163, op := Op.call { callee := Callee.value (Operand.func 12), args := #[Operand.tmp 162], argTypes := #[22] }, type := 4, pos := "law.go:81", after := #[{ on := 45, ground := Ground.data }, { on := 38, ground := Ground.chain }, { on := 38, ground := Ground.guard }], guard := some (38, true) }, { dst := some 164, op := Op.pick (Operand.tmp 155) (Operand.tmp 163) (Operand.const (Value.bool false)), type := 4, pos := "law.go:81", after := #[{ on := 38, ground := Ground.data }, { on := 46, ground := Ground.data }], guard := none }, { dst := some 165, op := Op.move (Operand.tmp 164), type := 4, pos := "law.go:81", after := #[{ on := 47, ground := Ground.data }, { on := 46, ground := Ground.chain }], guard := none }, { dst := some 166, op := Op.buildSlice 23 1 #[(0, Operand.const (Value.int IntKind.u8 98))], type := 23, pos := "law.go:81", after := #[{ on := 48, ground := Ground.guard }], guard := some (48, true) }, { dst := some 167, op := Op.convert 23 23 (Operand.tmp 166), type := 23, pos := "law.go:81", after := #[{ on := 49, ground := Ground.data }, { on := 48, ground := Ground.guard }], guard := some (48, true) }, { dst := some 168, op := Op.build 25 #[(0, Operand.tmp 167)], type := 25, pos := "law.go:81", after := #[{ on := 50, ground := Ground.data }, { on := 48, ground := Ground.guard }], guard := some (48, true) }, { dst := some 169, op := Op.buildSlice 23 1 #[(0, Operand.const (Value.int IntKind.u8 98))], type := 23, pos := "law.go:81", after := #[{ on := 48, ground := Ground.guard }], guard := some (48, true) }, { dst := some 170, op := Op.convert 23 23 (Operand.tmp 169), type := 23, pos := "law.go:81", after := #[{ on := 52, ground := Ground.data }, { on := 48, ground := Ground.guard }], guard := some (48, true) }, { dst := some 171, op := Op.build 25 #[(0, Operand.tmp 170)], type := 25, pos := "law.go:81", after := #[{ on := 53, ground := Ground.data }, { on := 48, ground := Ground.guard }], guard := some (48, true) }, { dst := some 172, op := Op.buildSlice 22 2 #[(0, Operand.tmp 168), (1, Operand.tmp 171)], type := 22, pos := "law.go:81", after := #[{ on := 51, ground := Ground.data }, { on := 54, ground := Ground.data }, { on := 48, ground := Ground.guard }], guard := some (48, true) }, { dst := some 173, op := Op.call { callee := Callee.value (Operand.func 12), args := #[Operand.tmp 172], argTypes := #[22] }, type := 4, pos := "law.go:81", after := #[{ on := 55, ground := Ground.data }, { on := 48, ground := Ground.chain }, { on := 48, ground := Ground.guard }], guard := some (48, true) }, { dst := some 174, op := Op.pick (Operand.tmp 165) (Operand.tmp 173) (Operand.const (Value.bool false)), type := 4, pos := "law.go:81", after := #[{ on := 48, ground := Ground.data }, { on := 56, ground := Ground.data }], guard := none }, { dst := some 175, op := Op.move (Operand.tmp 174), type := 4, pos := "law.go:81", after := #[{ on := 57, ground := Ground.data }, { on := 56, ground := Ground.chain }], guard := none }, { dst := some 176, op := Op.call { callee := Callee.value (Operand.func 13), args := #[], argTypes := #[] }, type := 4, pos := "law.go:81", after := #[{ on := 58, ground := Ground.chain }, { on := 58, ground := Ground.guard }], guard := some (58, true) }, { dst := some 177, op := Op.pick (Operand.tmp 175) (Operand.tmp 176) (Operand.const (Value.bool false)), type := 4, pos := "law.go:81", after := #[{ on := 58, ground := Ground.data }, { on := 59, ground := Ground.data }], guard := none }, { dst := some 0, op := Op.assign (Operand.tmp 177), type := 4, pos := "law.go:81", after := #[{ on := 60, ground := Ground.data }, { on := 59, ground := Ground.chain }, { on := 0, ground := Ground.phase }, { on := 1, ground := Ground.phase }, { on := 2, ground := Ground.phase }, { on := 3, ground := Ground.phase }, { on := 4, ground := Ground.phase }, { on := 5, ground := Ground.phase }, { on := 6, ground := Ground.phase }, { on := 7, ground := Ground.phase }, { on := 8, ground := Ground.phase }, { on := 9, ground := Ground.phase }, { on := 10, ground := Ground.phase }, { on := 11, ground := Ground.phase }, { on := 12, ground := Ground.phase }, { on := 13, ground := Ground.phase }, { on := 14, ground := Ground.phase }, { on := 15, ground := Ground.phase }, { on := 16, ground := Ground.phase }, { on := 17, ground := Ground.phase }, { on := 18, ground := Ground.phase }, { on := 19, ground := Ground.phase }, { on := 20, ground := Ground.phase }, { on := 21, ground := Ground.phase }, { on := 22, ground := Ground.phase }, { on := 23, ground := Ground.phase }, { on := 24, ground := Ground.phase }, { on := 25, ground := Ground.phase }, { on := 26, ground := Ground.phase }, { on := 27, ground := Ground.phase }, { on := 28, ground := Ground.phase }, { on := 29, ground := Ground.phase }, { on := 30, ground := Ground.phase }, { on := 31, ground := Ground.phase }, { on := 32, ground := Ground.phase }, { on := 33, ground := Ground.phase }, { on := 34, ground := Ground.phase }, { on := 35, ground := Ground.phase }, { on := 36, ground := Ground.phase }, { on := 37, ground := Ground.phase }, { on := 38, ground := Ground.phase }, { on := 39, ground := Ground.phase }, { on := 40, ground := Ground.phase }, { on := 41, ground := Ground.phase }, { on := 42, ground := Ground.phase }, { on := 43, ground := Ground.phase }, { on := 44, ground := Ground.phase }, { on := 45, ground := Ground.phase }, { on := 46, ground := Ground.phase }, { on := 47, ground := Ground.phase }, { on := 48, ground := Ground.phase }, { on := 49, ground := Ground.phase }, { on := 50, ground := Ground.phase }, { on := 51, ground := Ground.phase }, { on := 52, ground := Ground.phase }, { on := 53, ground := Ground.phase }, { on := 54, ground := Ground.phase }, { on := 55, ground := Ground.phase }, { on := 56, ground := Ground.phase }, { on := 57, ground := Ground.phase }, { on := 58, ground := Ground.phase }, { on := 59, ground := Ground.phase }, { on := 60, ground := Ground.phase }], guard := none }] true).wp Try.prog (Fin33 W8) ⟨#[u0, (.slice (some ⟨lb, loff, none⟩) ml mc), u2, u3, u4, u5, u6, (.slice ao 256 ac), u8, (.slice bo 20 bc), u10, u11, u12, u13, u14, u15, u16, u17, u18, u19, u20, u21, u22, u23, u24, u25, u26, u27, u28, u29, u30, u31, u32, u33, u34, u35, u36, u37, u38, u39, u40, u41, u42, u43, u44, u45, u46, u47, u48, u49, u50, u51, u52, u53, u54, u55, u56, u57, u58, u59, u60, u61, u62, u63, u64, u65, u66, u67, u68, u69, u70, u71, u72, u73, u74, u75, u76, u77, u78, u79, u80, u81, u82, u83, u84, u85, u86, u87, u88, u89, u90, u91, u92, u93, u94, u95, u96, u97, u98, u99, u100, u101, u102, u103, u104, u105, u106, u107, u108, u109, u110, u111, u112, u113, u114, u115, u116, u117, u118, u119, u120, u121, u122, u123, u124, u125, u126, u127, u128, u129, u130, u131, u132, u133, u134, u135, u136, u137, u138, u139, u140, u141, u142, u143, u144, u145, u146, u147, u148, u149, u150, u151, u152, u153, u154, u155, u156, u157, u158, u159, u160, u161, u162, u163, u164, u165, u166, u167, u168, u169, u170, u171, u172, u173, u174, u175, u176, u177], []⟩ W8 := by
  have b0 : Below W8.heap.size W8 W8.drew := (Below.refl _ _).drew
  refine wp_region_held_drew (S := (fun w' => Below W8.heap.size W8 w')) (by kernel_rfl) b0 (fun hHeld => ?_)
  refine any_at (f' := 62) (l' := #[false, false, false, false, false, false, false, false, false, false, false, false, false, false, false, false, false, false, false, false, false, false, false, false, false, false, false, false, false, false, false, false, false, false, false, false, false, false, false, false, false, false, false, false, false, false, false, false, false, false, false, false, false, false, false, false, false, false, false, false, false, false]) (by kernel_rfl) (by kernel_rfl) ?_
  refine wpAnyH_take (i := 0) (oi := { dst := some 117, op := Op.move (Operand.tmp 1), type := 22, pos := "law.go:81", after := #[], guard := none }) (v := ?_) rfl (by kernel_rfl) (by kernel_rfl) (by kernel_rfl) (fun _ _ _ h => False.elim h) (Or.inl ⟨by rfl, ?_⟩) (by assumption) ?_
  rotate_left
  · intro w hSw; (try dsimp only at hSw); go_simp; all_goals with_reducible rfl
  try simp only [Act.put, List.setIfInBounds_toArray, List.set_cons_zero, List.set_cons_succ]
  refine wpAnyH_ready (rs := [1]) (by kernel_rfl) (by simp) ?_
  refine AllReadyH.cons rfl (fun K hK => ?_) ?_
  · go_simp
    go_wp2_with (first | (go_at_call 12; with_reducible refine (q1 _ ?_).mono ?_; (assumption); rintro e1 W9 ⟨rfl, C9⟩))
    refine hK.out _ _ ?_ (fun hHeld => ?_)
    · first | assumption | exact kA _ (by assumption) | exact kB _ (by assumption) | exact kC _ (by assumption) | exact hal _ _ (by assumption) | exact hal _ _ (hal _ _ (by assumption))
    clear hK K
    refine wpAnyH_take (i := 2) (oi := { dst := some 119, op := Op.move (Operand.tmp 118), type := 4, pos := "law.go:81", after := #[{ on := 1, ground := Ground.data }, { on := 1, ground := Ground.chain }], guard := none }) (v := ?_) rfl (by kernel_rfl) (by kernel_rfl) (by kernel_rfl) (fun _ _ _ h => False.elim h) (Or.inl ⟨by rfl, ?_⟩) (by assumption) ?_
    rotate_left
    · intro w hSw; (try dsimp only at hSw); go_simp; all_goals with_reducible rfl
    try simp only [Act.put, List.setIfInBounds_toArray, List.set_cons_zero, List.set_cons_succ]
    refine wpAnyH_take (i := 3) (oi := { dst := some 120, op := Op.move (Operand.tmp 7), type := 22, pos := "law.go:81", after := #[{ on := 2, ground := Ground.guard }], guard := some (2, true) }) (v := ?_) rfl (by kernel_rfl) (by kernel_rfl) (by kernel_rfl) (fun _ _ _ h => False.elim h) (Or.inl ⟨by rfl, ?_⟩) (by assumption) ?_
    rotate_left
    · intro w hSw; (try dsimp only at hSw); go_simp; all_goals with_reducible rfl
    try simp only [Act.put, List.setIfInBounds_toArray, List.set_cons_zero, List.set_cons_succ]
    refine wpAnyH_ready (rs := [4]) (by kernel_rfl) (by simp) ?_
    refine AllReadyH.cons rfl (fun K hK => ?_) ?_
    · go_simp
      go_wp2_with (first | (go_at_call 12; with_reducible refine (q2 _ ?_).mono ?_; (assumption); rintro e1 W9 ⟨rfl, C9⟩))
      refine hK.out _ _ ?_ (fun hHeld => ?_)
      · first | assumption | exact kA _ (by assumption) | exact kB _ (by assumption) | exact kC _ (by assumption) | exact hal _ _ (by assumption) | exact hal _ _ (hal _ _ (by assumption))
      clear hK K
      refine wpAnyH_take (i := 5) (oi := { dst := some 122, op := Op.pick (Operand.tmp 119) (Operand.tmp 121) (Operand.const (Value.bool false)), type := 4, pos := "law.go:81", after := #[{ on := 2, ground := Ground.data }, { on := 4, ground := Ground.data }], guard := none }) (v := ?_) rfl (by kernel_rfl) (by kernel_rfl) (by kernel_rfl) (fun _ _ _ h => False.elim h) (Or.inl ⟨by rfl, ?_⟩) (by assumption) ?_
      rotate_left
      · intro w hSw; (try dsimp only at hSw); go_simp; all_goals with_reducible rfl
      try simp only [Act.put, List.setIfInBounds_toArray, List.set_cons_zero, List.set_cons_succ]
      refine wpAnyH_take (i := 6) (oi := { dst := some 123, op := Op.move (Operand.tmp 122), type := 4, pos := "law.go:81", after := #[{ on := 5, ground := Ground.data }, { on := 4, ground := Ground.chain }], guard := none }) (v := ?_) rfl (by kernel_rfl) (by kernel_rfl) (by kernel_rfl) (fun _ _ _ h => False.elim h) (Or.inl ⟨by rfl, ?_⟩) (by assumption) ?_
      rotate_left
      · intro w hSw; (try dsimp only at hSw); go_simp; all_goals with_reducible rfl
      try simp only [Act.put, List.setIfInBounds_toArray, List.set_cons_zero, List.set_cons_succ]
      refine wpAnyH_take (i := 7) (oi := { dst := some 124, op := Op.move (Operand.tmp 7), type := 22, pos := "law.go:81", after := #[{ on := 6, ground := Ground.guard }], guard := some (6, true) }) (v := ?_) rfl (by kernel_rfl) (by kernel_rfl) (by kernel_rfl) (fun _ _ _ h => False.elim h) (Or.inl ⟨by rfl, ?_⟩) (by assumption) ?_
      rotate_left
      · intro w hSw; (try dsimp only at hSw); go_simp; all_goals with_reducible rfl
      try simp only [Act.put, List.setIfInBounds_toArray, List.set_cons_zero, List.set_cons_succ]
      refine wpAnyH_take (i := 8) (oi := { dst := some 125, op := Op.slice 22 (Operand.tmp 124) none (some (Operand.const (Value.int IntKind.i64 255))) none, type := 22, pos := "law.go:81", after := #[{ on := 7, ground := Ground.data }, { on := 6, ground := Ground.guard }], guard := some (6, true) }) (v := ?_) rfl (by kernel_rfl) (by kernel_rfl) (by kernel_rfl) (fun _ _ _ h => False.elim h) (Or.inl ⟨by rfl, ?_⟩) (by assumption) ?_
      rotate_left
      · intro w hSw; (try dsimp only at hSw); go_simp; all_goals with_reducible rfl
      try simp only [Act.put, List.setIfInBounds_toArray, List.set_cons_zero, List.set_cons_succ]
      refine wpAnyH_ready (rs := [9]) (by kernel_rfl) (by simp) ?_
      refine AllReadyH.cons rfl (fun K hK => ?_) ?_
      · go_simp
        go_wp2_with (first | (go_at_call 12; with_reducible refine (q3 _ ?_).mono ?_; (assumption); rintro e1 W9 ⟨rfl, C9⟩))
        refine hK.out _ _ ?_ (fun hHeld => ?_)
        · first | assumption | exact kA _ (by assumption) | exact kB _ (by assumption) | exact kC _ (by assumption) | exact hal _ _ (by assumption) | exact hal _ _ (hal _ _ (by assumption))
        clear hK K
        refine wpAnyH_take (i := 10) (oi := { dst := some 127, op := Op.pick (Operand.tmp 123) (Operand.tmp 126) (Operand.const (Value.bool false)), type := 4, pos := "law.go:81", after := #[{ on := 6, ground := Ground.data }, { on := 9, ground := Ground.data }], guard := none }) (v := ?_) rfl (by kernel_rfl) (by kernel_rfl) (by kernel_rfl) (fun _ _ _ h => False.elim h) (Or.inl ⟨by rfl, ?_⟩) (by assumption) ?_
        rotate_left
        · intro w hSw; (try dsimp only at hSw); go_simp; all_goals with_reducible rfl
        try simp only [Act.put, List.setIfInBounds_toArray, List.set_cons_zero, List.set_cons_succ]
        refine wpAnyH_take (i := 11) (oi := { dst := some 128, op := Op.move (Operand.tmp 127), type := 4, pos := "law.go:81", after := #[{ on := 10, ground := Ground.data }, { on := 9, ground := Ground.chain }], guard := none }) (v := ?_) rfl (by kernel_rfl) (by kernel_rfl) (by kernel_rfl) (fun _ _ _ h => False.elim h) (Or.inl ⟨by rfl, ?_⟩) (by assumption) ?_
        rotate_left
        · intro w hSw; (try dsimp only at hSw); go_simp; all_goals with_reducible rfl
        try simp only [Act.put, List.setIfInBounds_toArray, List.set_cons_zero, List.set_cons_succ]
        refine wpAnyH_take (i := 12) (oi := { dst := some 129, op := Op.move (Operand.tmp 9), type := 22, pos := "law.go:81", after := #[{ on := 11, ground := Ground.guard }], guard := some (11, true) }) (v := ?_) rfl (by kernel_rfl) (by kernel_rfl) (by kernel_rfl) (fun _ _ _ h => False.elim h) (Or.inl ⟨by rfl, ?_⟩) (by assumption) ?_
        rotate_left
        · intro w hSw; (try dsimp only at hSw); go_simp; all_goals with_reducible rfl
        try simp only [Act.put, List.setIfInBounds_toArray, List.set_cons_zero, List.set_cons_succ]
        refine wpAnyH_ready (rs := [13]) (by kernel_rfl) (by simp) ?_
        refine AllReadyH.cons rfl (fun K hK => ?_) ?_
        · go_simp
          go_wp2_with (first | (go_at_call 12; with_reducible refine (q4 _ ?_).mono ?_; (assumption); rintro e1 W9 ⟨rfl, C9⟩))
          refine hK.out _ _ ?_ (fun hHeld => ?_)
          · first | assumption | exact kA _ (by assumption) | exact kB _ (by assumption) | exact kC _ (by assumption) | exact hal _ _ (by assumption) | exact hal _ _ (hal _ _ (by assumption))
          clear hK K
          refine wpAnyH_take (i := 14) (oi := { dst := some 131, op := Op.pick (Operand.tmp 128) (Operand.tmp 130) (Operand.const (Value.bool false)), type := 4, pos := "law.go:81", after := #[{ on := 11, ground := Ground.data }, { on := 13, ground := Ground.data }], guard := none }) (v := ?_) rfl (by kernel_rfl) (by kernel_rfl) (by kernel_rfl) (fun _ _ _ h => False.elim h) (Or.inl ⟨by rfl, ?_⟩) (by assumption) ?_
          rotate_left
          · intro w hSw; (try dsimp only at hSw); go_simp; all_goals with_reducible rfl
          try simp only [Act.put, List.setIfInBounds_toArray, List.set_cons_zero, List.set_cons_succ]
          refine wpAnyH_take (i := 15) (oi := { dst := some 132, op := Op.move (Operand.tmp 131), type := 4, pos := "law.go:81", after := #[{ on := 14, ground := Ground.data }, { on := 13, ground := Ground.chain }], guard := none }) (v := ?_) rfl (by kernel_rfl) (by kernel_rfl) (by kernel_rfl) (fun _ _ _ h => False.elim h) (Or.inl ⟨by rfl, ?_⟩) (by assumption) ?_
          rotate_left
          · intro w hSw; (try dsimp only at hSw); go_simp; all_goals with_reducible rfl
          try simp only [Act.put, List.setIfInBounds_toArray, List.set_cons_zero, List.set_cons_succ]
          refine wpAnyH_take (i := 16) (oi := { dst := some 133, op := Op.move (Operand.tmp 9), type := 22, pos := "law.go:81", after := #[{ on := 15, ground := Ground.guard }], guard := some (15, true) }) (v := ?_) rfl (by kernel_rfl) (by kernel_rfl) (by kernel_rfl) (fun _ _ _ h => False.elim h) (Or.inl ⟨by rfl, ?_⟩) (by assumption) ?_
          rotate_left
          · intro w hSw; (try dsimp only at hSw); go_simp; all_goals with_reducible rfl
          try simp only [Act.put, List.setIfInBounds_toArray, List.set_cons_zero, List.set_cons_succ]
          refine wpAnyH_take (i := 17) (oi := { dst := some 134, op := Op.slice 22 (Operand.tmp 133) none (some (Operand.const (Value.int IntKind.i64 16))) none, type := 22, pos := "law.go:81", after := #[{ on := 16, ground := Ground.data }, { on := 15, ground := Ground.guard }], guard := some (15, true) }) (v := ?_) rfl (by kernel_rfl) (by kernel_rfl) (by kernel_rfl) (fun _ _ _ h => False.elim h) (Or.inl ⟨by rfl, ?_⟩) (by assumption) ?_
          rotate_left
          · intro w hSw; (try dsimp only at hSw); go_simp; all_goals with_reducible rfl
          try simp only [Act.put, List.setIfInBounds_toArray, List.set_cons_zero, List.set_cons_succ]
          refine wpAnyH_ready (rs := [18]) (by kernel_rfl) (by simp) ?_
          refine AllReadyH.cons rfl (fun K hK => ?_) ?_
          · go_simp
            go_wp2_with (first | (go_at_call 12; with_reducible refine (q5 _ ?_).mono ?_; (assumption); rintro e1 W9 ⟨rfl, C9⟩))
            refine hK.out _ _ ?_ (fun hHeld => ?_)
            · first | assumption | exact kA _ (by assumption) | exact kB _ (by assumption) | exact kC _ (by assumption) | exact hal _ _ (by assumption) | exact hal _ _ (hal _ _ (by assumption))
            clear hK K
            refine wpAnyH_take (i := 19) (oi := { dst := some 136, op := Op.pick (Operand.tmp 132) (Operand.tmp 135) (Operand.const (Value.bool false)), type := 4, pos := "law.go:81", after := #[{ on := 15, ground := Ground.data }, { on := 18, ground := Ground.data }], guard := none }) (v := ?_) rfl (by kernel_rfl) (by kernel_rfl) (by kernel_rfl) (fun _ _ _ h => False.elim h) (Or.inl ⟨by rfl, ?_⟩) (by assumption) ?_
            rotate_left
            · intro w hSw; (try dsimp only at hSw); go_simp; all_goals with_reducible rfl
            try simp only [Act.put, List.setIfInBounds_toArray, List.set_cons_zero, List.set_cons_succ]
            refine wpAnyH_take (i := 20) (oi := { dst := some 137, op := Op.move (Operand.tmp 136), type := 4, pos := "law.go:81", after := #[{ on := 19, ground := Ground.data }, { on := 18, ground := Ground.chain }], guard := none }) (v := ?_) rfl (by kernel_rfl) (by kernel_rfl) (by kernel_rfl) (fun _ _ _ h => False.elim h) (Or.inl ⟨by rfl, ?_⟩) (by assumption) ?_
            rotate_left
            · intro w hSw; (try dsimp only at hSw); go_simp; all_goals with_reducible rfl
            try simp only [Act.put, List.setIfInBounds_toArray, List.set_cons_zero, List.set_cons_succ]
            refine wpAnyH_take (i := 21) (oi := { dst := some 138, op := Op.build 25 #[], type := 25, pos := "law.go:81", after := #[{ on := 20, ground := Ground.guard }], guard := some (20, true) }) (v := ?_) rfl (by kernel_rfl) (by kernel_rfl) (by kernel_rfl) (fun _ _ _ h => False.elim h) (Or.inl ⟨by rfl, ?_⟩) (by assumption) ?_
            rotate_left
            · intro w hSw; (try dsimp only at hSw); go_simp; all_goals with_reducible rfl
            try simp only [Act.put, List.setIfInBounds_toArray, List.set_cons_zero, List.set_cons_succ]
            refine wpAnyH_ready (rs := [22]) (by kernel_rfl) (by simp) ?_
            refine AllReadyH.cons rfl (fun K hK => ?_) ?_
            · go_simp
              refine hK.out _ _ ?_ (fun hHeld => ?_)
              · first | assumption | exact kA _ (by assumption) | exact kB _ (by assumption) | exact kC _ (by assumption) | exact hal _ _ (by assumption) | exact hal _ _ (hal _ _ (by assumption))
              clear hK K
              refine wpAnyH_ready (rs := [23]) (by kernel_rfl) (by simp) ?_
              refine AllReadyH.cons rfl (fun K hK => ?_) ?_
              · go_simp
                go_wp2_with (first | (go_at_call 12; with_reducible refine (q6 _ ?_).mono ?_; (assumption); rintro e1 W9 ⟨rfl, C9⟩))
                refine hK.out _ _ ?_ (fun hHeld => ?_)
                · first | assumption | exact kA _ (by assumption) | exact kB _ (by assumption) | exact kC _ (by assumption) | exact hal _ _ (by assumption) | exact hal _ _ (hal _ _ (by assumption))
                clear hK K
                refine wpAnyH_take (i := 24) (oi := { dst := some 141, op := Op.pick (Operand.tmp 137) (Operand.tmp 140) (Operand.const (Value.bool false)), type := 4, pos := "law.go:81", after := #[{ on := 20, ground := Ground.data }, { on := 23, ground := Ground.data }], guard := none }) (v := ?_) rfl (by kernel_rfl) (by kernel_rfl) (by kernel_rfl) (fun _ _ _ h => False.elim h) (Or.inl ⟨by rfl, ?_⟩) (by assumption) ?_
                rotate_left
                · intro w hSw; (try dsimp only at hSw); go_simp; all_goals with_reducible rfl
                try simp only [Act.put, List.setIfInBounds_toArray, List.set_cons_zero, List.set_cons_succ]
                refine wpAnyH_take (i := 25) (oi := { dst := some 142, op := Op.move (Operand.tmp 141), type := 4, pos := "law.go:81", after := #[{ on := 24, ground := Ground.data }, { on := 23, ground := Ground.chain }], guard := none }) (v := ?_) rfl (by kernel_rfl) (by kernel_rfl) (by kernel_rfl) (fun _ _ _ h => False.elim h) (Or.inl ⟨by rfl, ?_⟩) (by assumption) ?_
                rotate_left
                · intro w hSw; (try dsimp only at hSw); go_simp; all_goals with_reducible rfl
                try simp only [Act.put, List.setIfInBounds_toArray, List.set_cons_zero, List.set_cons_succ]
                refine wpAnyH_ready (rs := [26]) (by kernel_rfl) (by simp) ?_
                refine AllReadyH.cons rfl (fun K hK => ?_) ?_
                · go_simp
                  refine hK.out _ _ ?_ (fun hHeld => ?_)
                  · first | assumption | exact kA _ (by assumption) | exact kB _ (by assumption) | exact kC _ (by assumption) | exact hal _ _ (by assumption) | exact hal _ _ (hal _ _ (by assumption))
                  clear hK K
                  refine wpAnyH_take (i := 27) (oi := { dst := some 144, op := Op.build 25 #[(0, Operand.tmp 143)], type := 25, pos := "law.go:81", after := #[{ on := 26, ground := Ground.data }, { on := 25, ground := Ground.guard }], guard := some (25, true) }) (v := ?_) rfl (by kernel_rfl) (by kernel_rfl) (by kernel_rfl) (fun _ _ _ h => False.elim h) (Or.inl ⟨by rfl, ?_⟩) (by assumption) ?_
                  rotate_left
                  · intro w hSw; (try dsimp only at hSw); go_simp; all_goals with_reducible rfl
                  try simp only [Act.put, List.setIfInBounds_toArray, List.set_cons_zero, List.set_cons_succ]
                  refine wpAnyH_ready (rs := [28]) (by kernel_rfl) (by simp) ?_
                  refine AllReadyH.cons rfl (fun K hK => ?_) ?_
                  · go_simp
                    refine hK.out _ _ ?_ (fun hHeld => ?_)
                    · first | assumption | exact kA _ (by assumption) | exact kB _ (by assumption) | exact kC _ (by assumption) | exact hal _ _ (by assumption) | exact hal _ _ (hal _ _ (by assumption))
                    clear hK K
                    refine wpAnyH_ready (rs := [29]) (by kernel_rfl) (by simp) ?_
                    refine AllReadyH.cons rfl (fun K hK => ?_) ?_
                    · go_simp
                      go_wp2_with (first | (go_at_call 12; with_reducible refine (q7 _ ?_).mono ?_; (assumption); rintro e1 W9 ⟨rfl, C9⟩))
                      refine hK.out _ _ ?_ (fun hHeld => ?_)
                      · first | assumption | exact kA _ (by assumption) | exact kB _ (by assumption) | exact kC _ (by assumption) | exact hal _ _ (by assumption) | exact hal _ _ (hal _ _ (by assumption))
                      clear hK K
                      refine wpAnyH_take (i := 30) (oi := { dst := some 147, op := Op.pick (Operand.tmp 142) (Operand.tmp 146) (Operand.const (Value.bool false)), type := 4, pos := "law.go:81", after := #[{ on := 25, ground := Ground.data }, { on := 29, ground := Ground.data }], guard := none }) (v := ?_) rfl (by kernel_rfl) (by kernel_rfl) (by kernel_rfl) (fun _ _ _ h => False.elim h) (Or.inl ⟨by rfl, ?_⟩) (by assumption) ?_
                      rotate_left
                      · intro w hSw; (try dsimp only at hSw); go_simp; all_goals with_reducible rfl
                      try simp only [Act.put, List.setIfInBounds_toArray, List.set_cons_zero, List.set_cons_succ]
                      refine wpAnyH_take (i := 31) (oi := { dst := some 148, op := Op.move (Operand.tmp 147), type := 4, pos := "law.go:81", after := #[{ on := 30, ground := Ground.data }, { on := 29, ground := Ground.chain }], guard := none }) (v := ?_) rfl (by kernel_rfl) (by kernel_rfl) (by kernel_rfl) (fun _ _ _ h => False.elim h) (Or.inl ⟨by rfl, ?_⟩) (by assumption) ?_
                      rotate_left
                      · intro w hSw; (try dsimp only at hSw); go_simp; all_goals with_reducible rfl
                      try simp only [Act.put, List.setIfInBounds_toArray, List.set_cons_zero, List.set_cons_succ]
                      refine wpAnyH_ready (rs := [32, 33]) (by kernel_rfl) (by simp) ?_
                      refine AllReadyH.cons rfl (fun K hK => ?_) ?_
                      · go_simp
                        refine hK.out _ _ ?_ (fun hHeld => ?_)
                        · first | assumption | exact kA _ (by assumption) | exact kB _ (by assumption) | exact kC _ (by assumption) | exact hal _ _ (by assumption) | exact hal _ _ (hal _ _ (by assumption))
                        clear hK K
                        refine wpAnyH_ready (rs := [33]) (by kernel_rfl) (by simp) ?_
                        refine AllReadyH.cons rfl (fun K hK => ?_) ?_
                        · go_simp
                          refine hK.out _ _ ?_ (fun hHeld => ?_)
                          · first | assumption | exact kA _ (by assumption) | exact kB _ (by assumption) | exact kC _ (by assumption) | exact hal _ _ (by assumption) | exact hal _ _ (hal _ _ (by assumption))
                          clear hK K
                          refine wpAnyH_take (i := 34) (oi := { dst := some 151, op := Op.build 25 #[(0, Operand.tmp 149), (1, Operand.tmp 150)], type := 25, pos := "law.go:81", after := #[{ on := 32, ground := Ground.data }, { on := 33, ground := Ground.data }, { on := 31, ground := Ground.guard }], guard := some (31, true) }) (v := ?_) rfl (by kernel_rfl) (by kernel_rfl) (by kernel_rfl) (fun _ _ _ h => False.elim h) (Or.inl ⟨by rfl, ?_⟩) (by assumption) ?_
                          rotate_left
                          · intro w hSw; (try dsimp only at hSw); go_simp; all_goals with_reducible rfl
                          try simp only [Act.put, List.setIfInBounds_toArray, List.set_cons_zero, List.set_cons_succ]
                          refine wpAnyH_ready (rs := [35]) (by kernel_rfl) (by simp) ?_
                          refine AllReadyH.cons rfl (fun K hK => ?_) ?_
                          · go_simp
                            refine hK.out _ _ ?_ (fun hHeld => ?_)
                            · first | assumption | exact kA _ (by assumption) | exact kB _ (by assumption) | exact kC _ (by assumption) | exact hal _ _ (by assumption) | exact hal _ _ (hal _ _ (by assumption))
                            clear hK K
                            refine wpAnyH_ready (rs := [36]) (by kernel_rfl) (by simp) ?_
                            refine AllReadyH.cons rfl (fun K hK => ?_) ?_
                            · go_simp
                              go_wp2_with (first | (go_at_call 12; with_reducible refine (q8 _ ?_).mono ?_; (assumption); rintro e1 W9 ⟨rfl, C9⟩) | (go_at_call 12; with_reducible refine (q9 _ ?_).mono ?_; (assumption); rintro e1 W9 ⟨rfl, C9⟩))
                              refine hK.out _ _ ?_ (fun hHeld => ?_)
                              · first | assumption | exact kA _ (by assumption) | exact kB _ (by assumption) | exact kC _ (by assumption) | exact hal _ _ (by assumption) | exact hal _ _ (hal _ _ (by assumption))
                              clear hK K
                              refine wpAnyH_take (i := 37) (oi := { dst := some 154, op := Op.pick (Operand.tmp 148) (Operand.tmp 153) (Operand.const (Value.bool false)), type := 4, pos := "law.go:81", after := #[{ on := 31, ground := Ground.data }, { on := 36, ground := Ground.data }], guard := none }) (v := ?_) rfl (by kernel_rfl) (by kernel_rfl) (by kernel_rfl) (fun _ _ _ h => False.elim h) (Or.inl ⟨by rfl, ?_⟩) (by assumption) ?_
                              rotate_left
                              · intro w hSw; (try dsimp only at hSw); go_simp; all_goals with_reducible rfl
                              try simp only [Act.put, List.setIfInBounds_toArray, List.set_cons_zero, List.set_cons_succ]
                              refine wpAnyH_take (i := 38) (oi := { dst := some 155, op := Op.move (Operand.tmp 154), type := 4, pos := "law.go:81", after := #[{ on := 37, ground := Ground.data }, { on := 36, ground := Ground.chain }], guard := none }) (v := ?_) rfl (by kernel_rfl) (by kernel_rfl) (by kernel_rfl) (fun _ _ _ h => False.elim h) (Or.inl ⟨by rfl, ?_⟩) (by assumption) ?_
                              rotate_left
                              · intro w hSw; (try dsimp only at hSw); go_simp; all_goals with_reducible rfl
                              try simp only [Act.put, List.setIfInBounds_toArray, List.set_cons_zero, List.set_cons_succ]
                              exact any_at (f' := 23) (l' := #[true, true, true, true, true, true, true, true, true, true, true, true, true, true, true, true, true, true, true, true, true, true, true, true, true, true, true, true, true, true, true, true, true, true, true, true, true, true, true, false, false, false, false, false, false, false, false, false, false, false, false, false, false, false, false, false, false, false, false, false, false, false]) (by kernel_rfl) (by kernel_rfl) (tail1 W8 qx qy qk hal _ _ _ _ _ _ _ _ _ _ _ _ _ _ _ _ _ _ _ _ _ _ _ _ _ _ _ _ _ _ _ _ _ _ _ _ _ _ _ _ _ _ _ _ _ _ _ _ _ _ _ _ _ _ _ _ _ _ _ _ _ _ _ _ _ _ _ _ _ _ _ _ _ _ _ _ _ _ _ _ _ _ _ _ _ _ _ _ _ _ _ _ _ _ _ _ _ _ _ _ _ _ _ _ _ _ _ _ _ _ _ _ _ _ _ _ _ _ _ _ _ _ _ _ _ _ _ _ _ _ _ _ _ _ _ _ _ _ _ _ _ _ _ _ _ _ _ _ _ _ _ _ _ _ _ _ _ _ _ _ _ _ _ _ _ _ _ _ _ _ _ _ _ _ _ _ _ _ (by assumption))
                            exact AllReadyH.nil
                          exact AllReadyH.nil
                        exact AllReadyH.nil
                      refine AllReadyH.cons rfl (fun K hK => ?_) ?_
                      · go_simp
                        refine hK.out _ _ ?_ (fun hHeld => ?_)
                        · first | assumption | exact kA _ (by assumption) | exact kB _ (by assumption) | exact kC _ (by assumption) | exact hal _ _ (by assumption) | exact hal _ _ (hal _ _ (by assumption))
                        clear hK K
                        refine wpAnyH_ready (rs := [32]) (by kernel_rfl) (by simp) ?_
                        refine AllReadyH.cons rfl (fun K hK => ?_) ?_
                        · go_simp
                          refine hK.out _ _ ?_ (fun hHeld => ?_)
                          · first | assumption | exact kA _ (by assumption) | exact kB _ (by assumption) | exact kC _ (by assumption) | exact hal _ _ (by assumption) | exact hal _ _ (hal _ _ (by assumption))
                          clear hK K
                          refine wpAnyH_take (i := 34) (oi := { dst := some 151, op := Op.build 25 #[(0, Operand.tmp 149), (1, Operand.tmp 150)], type := 25, pos := "law.go:81", after := #[{ on := 32, ground := Ground.data }, { on := 33, ground := Ground.data }, { on := 31, ground := Ground.guard }], guard := some (31, true) }) (v := ?_) rfl (by kernel_rfl) (by kernel_rfl) (by kernel_rfl) (fun _ _ _ h => False.elim h) (Or.inl ⟨by rfl, ?_⟩) (by assumption) ?_
                          rotate_left
                          · intro w hSw; (try dsimp only at hSw); go_simp; all_goals with_reducible rfl
                          try simp only [Act.put, List.setIfInBounds_toArray, List.set_cons_zero, List.set_cons_succ]
                          refine wpAnyH_ready (rs := [35]) (by kernel_rfl) (by simp) ?_
                          refine AllReadyH.cons rfl (fun K hK => ?_) ?_
                          · go_simp
                            refine hK.out _ _ ?_ (fun hHeld => ?_)
                            · first | assumption | exact kA _ (by assumption) | exact kB _ (by assumption) | exact kC _ (by assumption) | exact hal _ _ (by assumption) | exact hal _ _ (hal _ _ (by assumption))
                            clear hK K
                            refine wpAnyH_ready (rs := [36]) (by kernel_rfl) (by simp) ?_
                            refine AllReadyH.cons rfl (fun K hK => ?_) ?_
                            · go_simp
                              go_wp2_with (first | (go_at_call 12; with_reducible refine (q8 _ ?_).mono ?_; (assumption); rintro e1 W9 ⟨rfl, C9⟩) | (go_at_call 12; with_reducible refine (q9 _ ?_).mono ?_; (assumption); rintro e1 W9 ⟨rfl, C9⟩))
                              refine hK.out _ _ ?_ (fun hHeld => ?_)
                              · first | assumption | exact kA _ (by assumption) | exact kB _ (by assumption) | exact kC _ (by assumption) | exact hal _ _ (by assumption) | exact hal _ _ (hal _ _ (by assumption))
                              clear hK K
                              refine wpAnyH_take (i := 37) (oi := { dst := some 154, op := Op.pick (Operand.tmp 148) (Operand.tmp 153) (Operand.const (Value.bool false)), type := 4, pos := "law.go:81", after := #[{ on := 31, ground := Ground.data }, { on := 36, ground := Ground.data }], guard := none }) (v := ?_) rfl (by kernel_rfl) (by kernel_rfl) (by kernel_rfl) (fun _ _ _ h => False.elim h) (Or.inl ⟨by rfl, ?_⟩) (by assumption) ?_
                              rotate_left
                              · intro w hSw; (try dsimp only at hSw); go_simp; all_goals with_reducible rfl
                              try simp only [Act.put, List.setIfInBounds_toArray, List.set_cons_zero, List.set_cons_succ]
                              refine wpAnyH_take (i := 38) (oi := { dst := some 155, op := Op.move (Operand.tmp 154), type := 4, pos := "law.go:81", after := #[{ on := 37, ground := Ground.data }, { on := 36, ground := Ground.chain }], guard := none }) (v := ?_) rfl (by kernel_rfl) (by kernel_rfl) (by kernel_rfl) (fun _ _ _ h => False.elim h) (Or.inl ⟨by rfl, ?_⟩) (by assumption) ?_
                              rotate_left
                              · intro w hSw; (try dsimp only at hSw); go_simp; all_goals with_reducible rfl
                              try simp only [Act.put, List.setIfInBounds_toArray, List.set_cons_zero, List.set_cons_succ]
                              exact any_at (f' := 23) (l' := #[true, true, true, true, true, true, true, true, true, true, true, true, true, true, true, true, true, true, true, true, true, true, true, true, true, true, true, true, true, true, true, true, true, true, true, true, true, true, true, false, false, false, false, false, false, false, false, false, false, false, false, false, false, false, false, false, false, false, false, false, false, false]) (by kernel_rfl) (by kernel_rfl) (tail1 W8 qx qy qk hal _ _ _ _ _ _ _ _ _ _ _ _ _ _ _ _ _ _ _ _ _ _ _ _ _ _ _ _ _ _ _ _ _ _ _ _ _ _ _ _ _ _ _ _ _ _ _ _ _ _ _ _ _ _ _ _ _ _ _ _ _ _ _ _ _ _ _ _ _ _ _ _ _ _ _ _ _ _ _ _ _ _ _ _ _ _ _ _ _ _ _ _ _ _ _ _ _ _ _ _ _ _ _ _ _ _ _ _ _ _ _ _ _ _ _ _ _ _ _ _ _ _ _ _ _ _ _ _ _ _ _ _ _ _ _ _ _ _ _ _ _ _ _ _ _ _ _ _ _ _ _ _ _ _ _ _ _ _ _ _ _ _ _ _ _ _ _ _ _ _ _ _ _ _ _ _ _ _ (by assumption))
                            exact AllReadyH.nil
                          exact AllReadyH.nil
                        exact AllReadyH.nil
                      exact AllReadyH.nil
                    exact AllReadyH.nil
                  exact AllReadyH.nil
                exact AllReadyH.nil
              exact AllReadyH.nil
            exact AllReadyH.nil
          exact AllReadyH.nil
        exact AllReadyH.nil
      exact AllReadyH.nil
    exact AllReadyH.nil
  exact AllReadyH.nil
end Go.Proofs.Yteeemfohehpaeaa
