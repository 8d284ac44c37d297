/- The last region of BlockNumbers, its orders met. -/
import Derived.Test.YteeemfohehpaeaaBNumA
import Derived.Test.YteeemfohehpaeaaBReads
import Derived.Test.YteeemfohehpaeaaBBuilds
import Derived.Test.YteeemfohehpaeaaBRise
import Derived.Test.YteeemfohehpaeaaBRefC
import Derived.Test.YteeemfohehpaeaaPE
import Derived.Deep.RegionHeld3
namespace Go.Proofs.Yteeemfohehpaeaa
set_option maxRecDepth 100000
open Go.RowKit Go.Sort

/-- What the region leaves: it says yes. -/
def Fin33 (W8 : World) (e : Exit) (a : Act) (w : World) : Prop := match e with
  | .normal => ∃ us : List Value, a = ⟨(Value.bool true :: us).toArray, []⟩ ∧ Below W8.heap.size W8 w
  | _ => False
theorem fin_mk {W8 : World} {a : Act} {w : World} (h : ∃ us : List Value, a = ⟨(Value.bool true :: us).toArray, []⟩ ∧ Below W8.heap.size W8 w) : Fin33 W8 .normal a w := h
theorem any_at {P : Program} {md : Region.Mode} {ops : Array Oper} {Q : Exit → Act → World → Prop} {S : World → Prop} {f f' : Nat} {l l' : Array Bool} {a : Act} {w : World} (hf : f' = f) (hl : l' = l) (h : wpAnyH P md ops Q S f' l' a w) : wpAnyH P md ops Q S f l a w := by
  subst hf; subst hl; exact h

theorem build1 {W0 W : World} {ko vo : Option Addr} {kl kc vl vc : Nat} {ks vs : List Int} (h : Below W0.heap.size W0 W) (tk : Tx W ko kl kc ks) (tv : Tx W vo vl vc vs) (hs : ks.length ≤ 4096) :
    Calls Try.prog 12 #[.slice (some ⟨W.heap.size, 0, none⟩) 1 1] (W.alloc (.cells #[.slice ko kl kc, .slice vo vl vc, .bool false] 25)) fun x W' => x = .returned (.bool true) ∧ Below W0.heap.size W0 W' := by
  have l1 := lx_ent_one W (e := ⟨ks, vs, false⟩) (tk.at [] (by simp)) (tv.at [] (by simp)) false rfl
  refine (builds_any _ _ _ _ _ l1.1 (fun e he => by simp at he; subst he; show ks.length ≤ 1000000000000; omega)).mono ?_
  rintro x W' ⟨rfl, b⟩
  exact ⟨rfl, below_tr2 (below_tr2 h l1.2) b⟩
theorem mark2 (W : World) (a b : Int) (ha : 0 ≤ a ∧ a ≤ 255) (hb : 0 ≤ b ∧ b ≤ 255) : Tx ((W.alloc (.cells #[.int .u8 a] 5 (1, 2))).alloc (.cells #[.int .u8 b] 5 (1, 2))) (some ⟨W.heap.size, 0, none⟩) 1 1 [a] ∧ Tx ((W.alloc (.cells #[.int .u8 a] 5 (1, 2))).alloc (.cells #[.int .u8 b] 5 (1, 2))) (some ⟨W.heap.size + 1, 0, none⟩) 1 1 [b] ∧ Below W.heap.size W ((W.alloc (.cells #[.int .u8 a] 5 (1, 2))).alloc (.cells #[.int .u8 b] 5 (1, 2))) ∧ ((W.alloc (.cells #[.int .u8 a] 5 (1, 2))).alloc (.cells #[.int .u8 b] 5 (1, 2))).heap.size = W.heap.size + 2 := by
  have t1 := tx_mark W #[.int .u8 a] (1, 2) [a] 1 rfl rfl (by omega) (by simpa using ha)
  have t2 := tx_mark (W.alloc (.cells #[.int .u8 a] 5 (1, 2))) #[.int .u8 b] (1, 2) [b] 1 rfl rfl (by omega) (by simpa using hb)
  have hz : (W.alloc (.cells #[.int .u8 a] 5 (1, 2))).heap.size = W.heap.size + 1 := by simp
  rw [hz] at t2
  exact ⟨t1.alloc _, t2, ((Below.refl _ _).alloc (Nat.le_refl _) _).alloc (by simp) _, by simp⟩
theorem build2 {W0 W : World} {a b : Int} (h : Below W0.heap.size W0 W) (ha : 0 ≤ a ∧ a ≤ 255) (hb : 0 ≤ b ∧ b ≤ 255) :
    Calls Try.prog 12 #[.slice (some ⟨W.heap.size + 2, 0, none⟩) 2 2] (((W.alloc (.cells #[.int .u8 a] 5 (1, 2))).alloc (.cells #[.int .u8 b] 5 (1, 2))).alloc (.cells #[.slice (some ⟨W.heap.size, 0, none⟩) 1 1, .slice none 0 0, .bool false, .slice (some ⟨W.heap.size + 1, 0, none⟩) 1 1, .slice none 0 0, .bool false] 25)) fun x W' => x = .returned (.bool true) ∧ Below W0.heap.size W0 W' := by
  obtain ⟨t1, t2, b2, hz⟩ := mark2 W a b ha hb
  generalize (W.alloc (.cells #[.int .u8 a] 5 (1, 2))).alloc (.cells #[.int .u8 b] 5 (1, 2)) = V at t1 t2 b2 hz ⊢
  have l1 := lx_ent_two V (e := ⟨[a], [], false⟩) (e2 := ⟨[b], [], false⟩) (t1.at [] (by simp)) ((Tx.nil V).at [] (by simp)) (t2.at [] (by simp)) ((Tx.nil V).at [] (by simp)) false false rfl rfl
  rw [← hz]
  refine (builds_any _ _ _ _ _ l1.1 (fun e he => by simp at he; rcases he with rfl | rfl <;> simp)).mono ?_
  rintro x W' ⟨rfl, b⟩
  exact ⟨rfl, below_tr2 (below_tr2 (below_tr2 h b2) l1.2) b⟩
theorem build2s {W0 W : World} {a b : Int} (h : Below W0.heap.size W0 W) (ha : 0 ≤ a ∧ a ≤ 255) (hb : 0 ≤ b ∧ b ≤ 255) :
    Calls Try.prog 12 #[.slice (some ⟨W.heap.size + 2, 0, none⟩) 2 2] (((W.alloc (.cells #[.int .u8 a] 5 (1, 2))).alloc (.cells #[.int .u8 b] 5 (1, 2))).alloc (.cells #[.slice (some ⟨W.heap.size + 1, 0, none⟩) 1 1, .slice none 0 0, .bool false, .slice (some ⟨W.heap.size, 0, none⟩) 1 1, .slice none 0 0, .bool false] 25)) fun x W' => x = .returned (.bool true) ∧ Below W0.heap.size W0 W' := by
  obtain ⟨t1, t2, b2, hz⟩ := mark2 W a b ha hb
  generalize (W.alloc (.cells #[.int .u8 a] 5 (1, 2))).alloc (.cells #[.int .u8 b] 5 (1, 2)) = V at t1 t2 b2 hz ⊢
  have l1 := lx_ent_two V (e := ⟨[b], [], false⟩) (e2 := ⟨[a], [], false⟩) (t2.at [] (by simp)) ((Tx.nil V).at [] (by simp)) (t1.at [] (by simp)) ((Tx.nil V).at [] (by simp)) false false rfl rfl
  rw [← hz]
  refine (builds_any _ _ _ _ _ l1.1 (fun e he => by simp at he; rcases he with rfl | rfl <;> simp)).mono ?_
  rintro x W' ⟨rfl, b⟩
  exact ⟨rfl, below_tr2 (below_tr2 (below_tr2 h b2) l1.2) b⟩
theorem conv_f1 : ∀ (W : World) (c : Value), (convert 23 23 (.slice (some ⟨W.heap.size, 0, none⟩) 1 1)).run Try.prog (W.alloc (.cells #[c] 5)) = .ok (.slice (some ⟨W.heap.size, 0, none⟩) 1 1) (W.alloc (.cells #[c] 5 (1, 2))) := fun W c =>
  Lib.run_convert_bytes_const (P := Try.prog) W 23 5 #[c] 1 1 Try.underlying23 Try.underlying5
theorem conv_f2 : ∀ (W : World) (X : Obj) (c : Value), (convert 23 23 (.slice (some ⟨W.heap.size + 1, 0, none⟩) 1 1)).run Try.prog ((W.alloc X).alloc (.cells #[c] 5)) = .ok (.slice (some ⟨W.heap.size + 1, 0, none⟩) 1 1) ((W.alloc X).alloc (.cells #[c] 5 (1, 2))) := fun W X c => by
  have h := Lib.run_convert_bytes_const (P := Try.prog) (W.alloc X) 23 5 #[c] 1 1 Try.underlying23 Try.underlying5
  have hz : (W.alloc X).heap.size = W.heap.size + 1 := by simp
  rw [hz] at h
  exact h
theorem conv_f3 : ∀ (W : World) (Y : Obj) (c : Value), (convert 23 23 (.slice (some ⟨W.heap.size, 0, none⟩) 1 1)).run Try.prog ((W.alloc (.cells #[c] 5)).alloc Y) = .ok (.slice (some ⟨W.heap.size, 0, none⟩) 1 1) ((W.alloc (.cells #[c] 5 (1, 2))).alloc Y) := fun W Y c => by
  have hsh : ((W.alloc (.cells #[c] 5)).alloc Y).shape? W.heap.size = some (5, 1) := by
    have : ((W.alloc (.cells #[c] 5)).alloc Y).heap[W.heap.size]? = some (.cells #[c] 5) := by
      show ((W.heap.push (.cells #[c] 5)).push Y)[W.heap.size]? = _
      simp [Array.getElem?_push]
    unfold World.shape?
    rw [this]
    rfl
  have hfr : ∀ (k : Nat), ((W.alloc (.cells #[c] 5)).alloc Y).freeze ⟨W.heap.size, k, none⟩ 1 = (W.alloc (.cells #[c] 5 (k, k + 1))).alloc Y := fun k => by
    have hm : ∀ (a : Array Obj) (x y : Obj) (f : Obj → Obj), ((a.push x).push y).modify a.size f = (a.push (f x)).push y := by
      intro a x y f
      apply Array.ext
      · simp
      · intro i h1 h2
        simp only [Array.getElem_modify, Array.getElem_push, Array.size_push]
        by_cases h : a.size = i
        · subst h
          simp
        · by_cases h3 : i < a.size
          · simp [h, h3, Nat.lt_succ_of_lt h3]
          · have hi : i = a.size + 1 := by simp at h1; omega
            subst hi
            simp
    unfold World.freeze
    rw [if_neg (by decide)]
    show ({ (W.alloc (.cells #[c] 5)).alloc Y with heap := ((W.heap.push (.cells #[c] 5)).push Y).modify W.heap.size _ } : World) = _
    rw [hm]
    rfl
  simp [convert, run_underlying Try.underlying23, run_underlying Try.underlying5, markStringish, hsh]
  exact hfr _
set_option maxHeartbeats 400000000 in
theorem tail2 (W8 : World) (qx : ∀ W, Below W8.heap.size W8 W → ∀ a b : Int, 0 ≤ a ∧ a ≤ 255 → 0 ≤ b ∧ b ≤ 255 → Calls Try.prog 12 #[.slice (some ⟨W.heap.size + 2, 0, none⟩) 2 2] (((W.alloc (.cells #[.int .u8 a] 5 (1, 2))).alloc (.cells #[.int .u8 b] 5 (1, 2))).alloc (.cells #[.slice (some ⟨W.heap.size, 0, none⟩) 1 1, .slice none 0 0, .bool false, .slice (some ⟨W.heap.size + 1, 0, none⟩) 1 1, .slice none 0 0, .bool false] 25)) fun x W' => x = .returned (.bool true) ∧ Below W8.heap.size W8 W') (qy : ∀ W, Below W8.heap.size W8 W → ∀ a b : Int, 0 ≤ a ∧ a ≤ 255 → 0 ≤ b ∧ b ≤ 255 → Calls Try.prog 12 #[.slice (some ⟨W.heap.size + 2, 0, none⟩) 2 2] (((W.alloc (.cells #[.int .u8 a] 5 (1, 2))).alloc (.cells #[.int .u8 b] 5 (1, 2))).alloc (.cells #[.slice (some ⟨W.heap.size + 1, 0, none⟩) 1 1, .slice none 0 0, .bool false, .slice (some ⟨W.heap.size, 0, none⟩) 1 1, .slice none 0 0, .bool false] 25)) fun x W' => x = .returned (.bool true) ∧ Below W8.heap.size W8 W') (qk : ∀ W, Below W8.heap.size W8 W → Calls Try.prog 13 #[] W fun x W' => x = .returned (.bool true) ∧ Below W8.heap.size W8 W') (hal : ∀ (W : World) (o : Obj), Below W8.heap.size W8 W → Below W8.heap.size W8 (W.alloc o)) (u0 u1 u2 u3 u4 u5 u6 u7 u8 u9 u10 u11 u12 u13 u14 u15 u16 u17 u18 u19 u20 u21 u22 u23 u24 u25 u26 u27 u28 u29 u30 u31 u32 u33 u34 u35 u36 u37 u38 u39 u40 u41 u42 u43 u44 u45 u46 u47 u48 u49 u50 u51 u52 u53 u54 u55 u56 u57 u58 u59 u60 u61 u62 u63 u64 u65 u66 u67 u68 u69 u70 u71 u72 u73 u74 u75 u76 u77 u78 u79 u80 u81 u82 u83 u84 u85 u86 u87 u88 u89 u90 u91 u92 u93 u94 u95 u96 u97 u98 u99 u100 u101 u102 u103 u104 u105 u106 u107 u108 u109 u110 u111 u112 u113 u114 u115 u116 u117 u118 u119 u120 u121 u122 u123 u124 u125 u126 u127 u128 u129 u130 u131 u132 u133 u134 u135 u136 u137 u138 u139 u140 u141 u142 u143 u144 u145 u146 u147 u148 u149 u150 u151 u152 u153 u154 u155 u156 u157 u158 u159 u160 u161 u162 u163 u164 u166 u167 u168 u169 u170 u171 u172 u173 u174 u175 u176 u177 : Value) (W : World) (hS : Below W8.heap.size W8 W) : wpAnyH Try.prog Region.Mode.any #[{ dst := some 117, op := Op.move (Operand.tmp 1), type := 22, pos := "law.go:81", after := #[], guard := none }, { dst := some 118, op := Op.call { callee := Callee.value (Operand.func 12), args := #[Operand.tmp 117], argTypes := #[22] }, type := 4, pos := "law.go:81", after := #[{ on := 0, ground := Ground.data }], guard := none }, { dst := some 119, op := Op.move (Operand.tmp 118), type := 4, pos := "law.go:81", after := #[{ on := 1, ground := Ground.data }, { on := 1, ground := Ground.chain }], guard := none }, { dst := some 120, op := Op.move (Operand.tmp 7), type := 22, pos := "law.go:81", after := #[{ on := 2, ground := Ground.guard }], guard := some (2, true) }, { dst := some 121, op := Op.call { callee := Callee.value (Operand.func 12), args := #[Operand.tmp 120], argTypes := #[22] }, type := 4, pos := "law.go:81", after := #[{ on := 3, ground := Ground.data }, { on := 2, ground := Ground.chain }, { on := 2, ground := Ground.guard }], guard := some (2, true) }, { dst := some 122, op := Op.pick (Operand.tmp 119) (Operand.tmp 121) (Operand.const (Value.bool false)), type := 4, pos := "law.go:81", after := #[{ on := 2, ground := Ground.data }, { on := 4, ground := Ground.data }], guard := none }, { dst := some 123, op := Op.move (Operand.tmp 122), type := 4, pos := "law.go:81", after := #[{ on := 5, ground := Ground.data }, { on := 4, ground := Ground.chain }], guard := none }, { dst := some 124, op := Op.move (Operand.tmp 7), type := 22, pos := "law.go:81", after := #[{ on := 6, ground := Ground.guard }], guard := some (6, true) }, { dst := some 125, op := Op.slice 22 (Operand.tmp 124) none (some (Operand.const (Value.int IntKind.i64 255))) none, type := 22, pos := "law.go:81", after := #[{ on := 7, ground := Ground.data }, { on := 6, ground := Ground.guard }], guard := some (6, true) }, { dst := some 126, op := Op.call { callee := Callee.value (Operand.func 12), args := #[Operand.tmp 125], argTypes := #[22] }, type := 4, pos := "law.go:81", after := #[{ on := 8, ground := Ground.data }, { on := 6, ground := Ground.chain }, { on := 6, ground := Ground.guard }], guard := some (6, true) }, { dst := some 127, op := Op.pick (Operand.tmp 123) (Operand.tmp 126) (Operand.const (Value.bool false)), type := 4, pos := "law.go:81", after := #[{ on := 6, ground := Ground.data }, { on := 9, ground := Ground.data }], guard := none }, { dst := some 128, op := Op.move (Operand.tmp 127), type := 4, pos := "law.go:81", after := #[{ on := 10, ground := Ground.data }, { on := 9, ground := Ground.chain }], guard := none }, { dst := some 129, op := Op.move (Operand.tmp 9), type := 22, pos := "law.go:81", after := #[{ on := 11, ground := Ground.guard }], guard := some (11, true) }, { dst := some 130, op := Op.call { callee := Callee.value (Operand.func 12), args := #[Operand.tmp 129], argTypes := #[22] }, type := 4, pos := "law.go:81", after := #[{ on := 12, ground := Ground.data }, { on := 11, ground := Ground.chain }, { on := 11, ground := Ground.guard }], guard := some (11, true) }, { dst := some 131, op := Op.pick (Operand.tmp 128) (Operand.tmp 130) (Operand.const (Value.bool false)), type := 4, pos := "law.go:81", after := #[{ on := 11, ground := Ground.data }, { on := 13, ground := Ground.data }], guard := none }, { dst := some 132, op := Op.move (Operand.tmp 131), type := 4, pos := "law.go:81", after := #[{ on := 14, ground := Ground.data }, { on := 13, ground := Ground.chain }], guard := none }, { dst := some 133, op := Op.move (Operand.tmp 9), type := 22, pos := "law.go:81", after := #[{ on := 15, ground := Ground.guard }], guard := some (15, true) }, { dst := some 134, op := Op.slice 22 (Operand.tmp 133) none (some (Operand.const (Value.int IntKind.i64 16))) none, type := 22, pos := "law.go:81", after := #[{ on := 16, ground := Ground.data }, { on := 15, ground := Ground.guard }], guard := some (15, true) }, { dst := some 135, op := Op.call { callee := Callee.value (Operand.func 12), args := #[Operand.tmp 134], argTypes := #[22] }, type := 4, pos := "law.go:81", after := #[{ on := 17, ground := Ground.data }, { on := 15, ground := Ground.chain }, { on := 15, ground := Ground.guard }], guard := some (15, true) }, { dst := some 136, op := Op.pick (Operand.tmp 132) (Operand.tmp 135) (Operand.const (Value.bool false)), type := 4, pos := "law.go:81", after := #[{ on := 15, ground := Ground.data }, { on := 18, ground := Ground.data }], guard := none }, { dst := some 137, op := Op.move (Operand.tmp 136), type := 4, pos := "law.go:81", after := #[{ on := 19, ground := Ground.data }, { on := 18, ground := Ground.chain }], guard := none }, { dst := some 138, op := Op.build 25 #[], type := 25, pos := "law.go:81", after := #[{ on := 20, ground := Ground.guard }], guard := some (20, true) }, { dst := some 139, op := Op.buildSlice 22 1 #[(0, Operand.tmp 138)], type := 22, pos := "law.go:81", after := #[{ on := 21, ground := Ground.data }, { on := 20, ground := Ground.guard }], guard := some (20, true) }, { dst := some 140, op := Op.call { callee := Callee.value (Operand.func 12), args := #[Operand.tmp 139], argTypes := #[22] }, type := 4, pos := "law.go:81", after := #[{ on := 22, ground := Ground.data }, { on := 20, ground := Ground.chain }, { on := 20, ground := Ground.guard }], guard := some (20, true) }, { dst := some 141, op := Op.pick (Operand.tmp 137) (Operand.tmp 140) (Operand.const (Value.bool false)), type := 4, pos := "law.go:81", after := #[{ on := 20, ground := Ground.data }, { on := 23, ground := Ground.data }], guard := none }, { dst := some 142, op := Op.move (Operand.tmp 141), type := 4, pos := "law.go:81", after := #[{ on := 24, ground := Ground.data }, { on := 23, ground := Ground.chain }], guard := none }, { dst := some 143, op := Op.makeSlice 23 (Operand.const (Value.int IntKind.i64 256)) (Operand.const (Value.int IntKind.i64 256)), type := 23, pos := "law.go:81", after := #[{ on := 25, ground := Ground.guard }], guard := some (25, true) }, { dst := some 144, op := Op.build 25 #[(0, Operand.tmp 143)], type := 25, pos := "law.go:81", after := #[{ on := 26, ground := Ground.data }, { on := 25, ground := Ground.guard }], guard := some (25, true) }, { dst := some 145, op := Op.buildSlice 22 1 #[(0, Operand.tmp 144)], type := 22, pos := "law.go:81", after := #[{ on := 27, ground := Ground.data }, { on := 25, ground := Ground.guard }], guard := some (25, true) }, { dst := some 146, op := Op.call { callee := Callee.value (Operand.func 12), args := #[Operand.tmp 145], argTypes := #[22] }, type := 4, pos := "law.go:81", after := #[{ on := 28, ground := Ground.data }, { on := 25, ground := Ground.chain }, { on := 25, ground := Ground.guard }], guard := some (25, true) }, { dst := some 147, op := Op.pick (Operand.tmp 142) (Operand.tmp 146) (Operand.const (Value.bool false)), type := 4, pos := "law.go:81", after := #[{ on := 25, ground := Ground.data }, { on := 29, ground := Ground.data }], guard := none }, { dst := some 148, op := Op.move (Operand.tmp 147), type := 4, pos := "law.go:81", after := #[{ on := 30, ground := Ground.data }, { on := 29, ground := Ground.chain }], guard := none }, { dst := some 149, op := Op.makeSlice 23 (Operand.const (Value.int IntKind.i64 255)) (Operand.const (Value.int IntKind.i64 255)), type := 23, pos := "law.go:81", after := #[{ on := 31, ground := Ground.guard }], guard := some (31, true) }, { dst := some 150, op := Op.makeSlice 23 (Operand.const (Value.int IntKind.i64 4096)) (Operand.const (Value.int IntKind.i64 4096)), type := 23, pos := "law.go:81", after := #[{ on := 31, ground := Ground.guard }], guard := some (31, true) }, { dst := some 151, op := Op.build 25 #[(0, Operand.tmp 149), (1, Operand.tmp 150)], type := 25, pos := "law.go:81", after := #[{ on := 32, ground := Ground.data }, { on := 33, ground := Ground.data }, { on := 31, ground := Ground.guard }], guard := some (31, true) }, { dst := some 152, op := Op.buildSlice 22 1 #[(0, Operand.tmp 151)], type := 22, pos := "law.go:81", after := #[{ on := 34, ground := Ground.data }, { on := 31, ground := Ground.guard }], guard := some (31, true) }, { dst := some 153, op := Op.call { callee := Callee.value (Operand.func 12), args := #[Operand.tmp 152], argTypes := #[22] }, type := 4, pos := "law.go:81", after := #[{ on := 35, ground := Ground.data }, { on := 31, ground := Ground.chain }, { on := 31, ground := Ground.guard }], guard := some (31, true) }, { dst := some 154, op := Op.pick (Operand.tmp 148) (Operand.tmp 153) (Operand.const (Value.bool false)), type := 4, pos := "law.go:81", after := #[{ on := 31, ground := Ground.data }, { on := 36, ground := Ground.data }], guard := none }, { dst := some 155, op := Op.move (Operand.tmp 154), type := 4, pos := "law.go:81", after := #[{ on := 37, ground := Ground.data }, { on := 36, ground := Ground.chain }], guard := none }, { dst := some 156, op := Op.buildSlice 23 1 #[(0, Operand.const (Value.int IntKind.u8 98))], type := 23, pos := "law.go:81", after := #[{ on := 38, ground := Ground.guard }], guard := some (38, true) }, { dst := some 157, op := Op.convert 23 23 (Operand.tmp 156), type := 23, pos := "law.go:81", after := #[{ on := 39, ground := Ground.data }, { on := 38, ground := Ground.guard }], guard := some (38, true) }, { dst := some 158, op := Op.build 25 #[(0, Operand.tmp 157)], type := 25, pos := "law.go:81", after := #[{ on := 40, ground := Ground.data }, { on := 38, ground := Ground.guard }], guard := some (38, true) }, { dst := some 159, op := Op.buildSlice 23 1 #[(0, Operand.const (Value.int IntKind.u8 97))], type := 23, pos := "law.go:81", after := #[{ on := 38, ground := Ground.guard }], guard := some (38, true) }, { dst := some 160, op := Op.convert 23 23 (Operand.tmp 159), type := 23, pos := "law.go:81", after := #[{ on := 42, ground := Ground.data }, { on := 38, ground := Ground.guard }], guard := some (38, true) }, { dst := some 161, op := Op.build 25 #[(0, Operand.tmp 160)], type := 25, pos := "law.go:81", after := #[{ on := 43, ground := Ground.data }, { on := 38, ground := Ground.guard }], guard := some (38, true) }, { dst := some 162, op := Op.buildSlice 22 2 #[(0, Operand.tmp 158), (1, Operand.tmp 161)], type := 22, pos := "law.go:81", after := #[{ on := 41, ground := Ground.data }, { on := 44, ground := Ground.data }, { on := 38, ground := Ground.guard }], guard := some (38, true) }, { dst := some 163, op := Op.call { callee := Callee.value (Operand.func 12), args := #[Operand.tmp 162], argTypes := #[22] }, type := 4, pos := "law.go:81", after := #[{ on := 45, ground := Ground.data }, { on := 38, ground := Ground.chain }, { on := 38, ground := Ground.guard }], guard := some (38, true) }, { dst := some 164, op := Op.pick (Operand.tmp 155) (Operand.tmp 163) (Operand.const (Value.bool false)), type := 4, pos := "law.go:81", after := #[{ on := 38, ground := Ground.data }, { on := 46, ground := Ground.data }], guard := none }, { dst := some 165, op := Op.move (Operand.tmp 164), type := 4, pos := "law.go:81", after := #[{ on := 47, ground := Ground.data }, { on := 46, ground := Ground.chain }], guard := none }, { dst := some 166, op := Op.buildSlice 23 1 #[(0, Operand.const (Value.int IntKind.u8 98))], type := 23, pos := "law.go:81", after := #[{ on := 48, ground := Ground.guard }], guard := some (48, true) }, { dst := some 167, op := Op.convert 23 23 (Operand.tmp 166), type := 23, pos := "law.go:81", after := #[{ on := 49, ground := Ground.data }, { on := 48, ground := Ground.guard }], guard := some (48, true) }, { dst := some 168, op := Op.build 25 #[(0, Operand.tmp 167)], type := 25, pos := "law.go:81", after := #[{ on := 50, ground := Ground.data }, { on := 48, ground := Ground.guard }], guard := some (48, true) }, { dst := some 169, op := Op.buildSlice 23 1 #[(0, Operand.const (Value.int IntKind.u8 98))], type := 23, pos := "law.go:81", after := #[{ on := 48, ground := Ground.guard }], guard := some (48, true) }, { dst := some 170, op := Op.convert 23 23 (Operand.tmp 169), type := 23, pos := "law.go:81", after := #[{ on := 52, ground := Ground.data }, { on := 48, ground := Ground.guard }], guard := some (48, true) }, { dst := some 171, op := Op.build 25 #[(0, Operand.tmp 170)], type := 25, pos := "law.go:81", after := #[{ on := 53, ground := Ground.data }, { on := 48, ground := Ground.guard }], guard := some (48, true) }, { dst := some 172, op := Op.buildSlice 22 2 #[(0, Operand.tmp 168), (1, Operand.tmp 171)], type := 22, pos := "law.go:81", after := #[{ on := 51, ground := Ground.data }, { on := 54, ground := Ground.data }, { on := 48, ground := Ground.guard }], guard := some (48, true) }, { dst := some 173, op := Op.call { callee := Callee.value (Operand.func 12), args := #[Operand.tmp 172], argTypes := #[22] }, type := 4, pos := "law.go:81", after := #[{ on := 55, ground := Ground.data }, { on := 48, ground := Ground.chain }, { on := 48, ground := Ground.guard }], guard := some (48, true) }, { dst := some 174, op := Op.pick (Operand.tmp 165) (Operand.tmp 173) (Operand.const (Value.bool false)), type := 4, pos := "law.go:81", after := #[{ on := 48, ground := Ground.data }, { on := 56, ground := Ground.data }], guard := none }, { dst := some 175, op := Op.move (Operand.tmp 174), type := 4, pos := "law.go:81", after := #[{ on := 57, ground := Ground.data }, { on := 56, ground := Ground.chain }], guard := none }, { dst := some 176, op := Op.call { callee := Callee.value (Operand.func 13), args := #[], argTypes := #[] }, type := 4, pos := "law.go:81", after := #[{ on := 58, ground := Ground.chain }, { on := 58, ground := Ground.guard }], guard := some (58, true) }, { dst := some 177, op := Op.pick (Operand.tmp 175) (Operand.tmp 176) (Operand.const (Value.bool false)), type := 4, pos := "law.go:81", after := #[{ on := 58, ground := Ground.data }, { on := 59, ground := Ground.data }], guard := none }, { dst := some 0, op := Op.assign (Operand.tmp 177), type := 4, pos := "law.go:81", after := #[{ on := 60, ground := Ground.data }, { on := 59, ground := Ground.chain }, { on := 0, ground := Ground.phase }, { on := 1, ground := Ground.phase }, { on := 2, ground := Ground.phase }, { on := 3, ground := Ground.phase }, { on := 4, ground := Ground.phase }, { on := 5, ground := Ground.phase }, { on := 6, ground := Ground.phase }, { on := 7, ground := Ground.phase }, { on := 8, ground := Ground.phase }, { on := 9, ground := Ground.phase }, { on := 10, ground := Ground.phase }, { on := 11, ground := Ground.phase }, { on := 12, ground := Ground.phase }, { on := 13, ground := Ground.phase }, { on := 14, ground := Ground.phase }, { on := 15, ground := Ground.phase }, { on := 16, ground := Ground.phase }, { on := 17, ground := Ground.phase }, { on := 18, ground := Ground.phase }, { on := 19, ground := Ground.phase }, { on := 20, ground := Ground.phase }, { on := 21, ground := Ground.phase }, { on := 22, ground := Ground.phase }, { on := 23, ground := Ground.phase }, { on := 24, ground := Ground.phase }, { on := 25, ground := Ground.phase }, { on := 26, ground := Ground.phase }, { on := 27, ground := Ground.phase }, { on := 28, ground := Ground.phase }, { on := 29, ground := Ground.phase }, { on := 30, ground := Ground.phase }, { on := 31, ground := Ground.phase }, { on := 32, ground := Ground.phase }, { on := 33, ground := Ground.phase }, { on := 34, ground := Ground.phase }, { on := 35, ground := Ground.phase }, { on := 36, ground := Ground.phase }, { on := 37, ground := Ground.phase }, { on := 38, ground := Ground.phase }, { on := 39, ground := Ground.phase }, { on := 40, ground := Ground.phase }, { on := 41, ground := Ground.phase }, { on := 42, ground := Ground.phase }, { on := 43, ground := Ground.phase }, { on := 44, ground := Ground.phase }, { on := 45, ground := Ground.phase }, { on := 46, ground := Ground.phase }, { on := 47, ground := Ground.phase }, { on := 48, ground := Ground.phase }, { on := 49, ground := Ground.phase }, { on := 50, ground := Ground.phase }, { on := 51, ground := Ground.phase }, { on := 52, ground := Ground.phase }, { on := 53, ground := Ground.phase }, { on := 54, ground := Ground.phase }, { on := 55, ground := Ground.phase }, { on := 56, ground := Ground.phase }, { on := 57, ground := Ground.phase }, { on := 58, ground := Ground.phase }, { on := 59, ground := Ground.phase }, { on := 60, ground := Ground.phase }], guard := none }] (Fin33 W8) (fun w' => Below W8.heap.size W8 w') 13 #[true, true, true, true, true, true, true, true, true, true, true, true, true, true, true, true, true, true, true, true, true, true, true, true, true, true, true, true, true, true, true, true, true, true, true, true, true, true, true, true, true, true, true, true, true, true, true, true, true, false, false, false, false, false, false, false, false, false, false, false, false, false] ⟨#[u0, u1, u2, u3, u4, u5, u6, u7, u8, u9, u10, u11, u12, u13, u14, u15, u16, u17, u18, u19, u20, u21, u22, u23, u24, u25, u26, u27, u28, u29, u30, u31, u32, u33, u34, u35, u36, u37, u38, u39, u40, u41, u42, u43, u44, u45, u46, u47, u48, u49, u50, u51, u52, u53, u54, u55, u56, u57, u58, u59, u60, u61, u62, u63, u64, u65, u66, u67, u68, u69, u70, u71, u72, u73, u74, u75, u76, u77, u78, u79, u80, u81, u82, u83, u84, u85, u86, u87, u88, u89, u90, u91, u92, u93, u94, u95, u96, u97, u98, u99, u100, u101, u102, u103, u104, u105, u106, u107, u108, u109, u110, u111, u112, u113, u114, u115, u116, u117, u118, u119, u120, u121, u122, u123, u124, u125, u126, u127, u128, u129, u130, u131, u132, u133, u134, u135, u136, u137, u138, u139, u140, u141, u142, u143, u144, u145, u146, u147, u148, u149, u150, u151, u152, u153, u154, u155, u156, u157, u158, u159, u160, u161, u162, u163, u164, (Value.bool true), u166, u167, u168, u169, u170, u171, u172, u173, u174, u175, u176, u177], []⟩ W := by
  have F1 := conv_f1
  have F2 := conv_f2
  have F3 := conv_f3
  refine wpAnyH_ready (rs := [49, 52]) (by kernel_rfl) (by simp) ?_
  refine AllReadyH.cons rfl (fun K hK => ?_) ?_
  · go_simp
    refine hK.out _ _ ?_ (fun hHeld => ?_)
    · first | assumption | exact hal _ _ (by assumption) | exact hal _ _ (hal _ _ (by assumption))
    clear hK K
    refine wpAnyH_ready (rs := [50, 52]) (by kernel_rfl) (by simp) ?_
    refine AllReadyH.cons rfl (fun K hK => ?_) ?_
    · go_simp
      refine hK.out _ _ ?_ (fun hHeld => ?_)
      · first | assumption | exact hal _ _ (by assumption) | exact hal _ _ (hal _ _ (by assumption))
      clear hK K
      refine wpAnyH_take (i := 51) (oi := { dst := some 168, op := Op.build 25 #[(0, Operand.tmp 167)], type := 25, pos := "law.go:81", after := #[{ on := 50, ground := Ground.data }, { on := 48, ground := Ground.guard }], guard := some (48, true) }) (v := ?_) rfl (by kernel_rfl) (by kernel_rfl) (by kernel_rfl) (fun _ _ _ h => False.elim h) (Or.inl ⟨by rfl, ?_⟩) (by assumption) ?_
      rotate_left
      · intro w hSw; (try dsimp only at hSw); go_simp; all_goals with_reducible rfl
      try simp only [Act.put, List.setIfInBounds_toArray, List.set_cons_zero, List.set_cons_succ]
      refine wpAnyH_ready (rs := [52]) (by kernel_rfl) (by simp) ?_
      refine AllReadyH.cons rfl (fun K hK => ?_) ?_
      · go_simp
        refine hK.out _ _ ?_ (fun hHeld => ?_)
        · first | assumption | exact hal _ _ (by assumption) | exact hal _ _ (hal _ _ (by assumption))
        clear hK K
        refine wpAnyH_ready (rs := [53]) (by kernel_rfl) (by simp) ?_
        refine AllReadyH.cons rfl (fun K hK => ?_) ?_
        · go_simp
          refine hK.out _ _ ?_ (fun hHeld => ?_)
          · first | assumption | exact hal _ _ (by assumption) | exact hal _ _ (hal _ _ (by assumption))
          clear hK K
          refine wpAnyH_take (i := 54) (oi := { dst := some 171, op := Op.build 25 #[(0, Operand.tmp 170)], type := 25, pos := "law.go:81", after := #[{ on := 53, ground := Ground.data }, { on := 48, ground := Ground.guard }], guard := some (48, true) }) (v := ?_) rfl (by kernel_rfl) (by kernel_rfl) (by kernel_rfl) (fun _ _ _ h => False.elim h) (Or.inl ⟨by rfl, ?_⟩) (by assumption) ?_
          rotate_left
          · intro w hSw; (try dsimp only at hSw); go_simp; all_goals with_reducible rfl
          try simp only [Act.put, List.setIfInBounds_toArray, List.set_cons_zero, List.set_cons_succ]
          refine wpAnyH_ready (rs := [55]) (by kernel_rfl) (by simp) ?_
          refine AllReadyH.cons rfl (fun K hK => ?_) ?_
          · go_simp
            refine hK.out _ _ ?_ (fun hHeld => ?_)
            · first | assumption | exact hal _ _ (by assumption) | exact hal _ _ (hal _ _ (by assumption))
            clear hK K
            refine wpAnyH_ready (rs := [56]) (by kernel_rfl) (by simp) ?_
            refine AllReadyH.cons rfl (fun K hK => ?_) ?_
            · go_simp
              go_wp2_with (first | (go_at_call 12; with_reducible refine (qx _ ?_ _ _ ?_ ?_).mono ?_; (assumption); (omega); (omega); rintro e1 W9 ⟨rfl, C9⟩) | (go_at_call 12; with_reducible refine (qy _ ?_ _ _ ?_ ?_).mono ?_; (assumption); (omega); (omega); rintro e1 W9 ⟨rfl, C9⟩))
              refine hK.out _ _ ?_ (fun hHeld => ?_)
              · first | assumption | exact hal _ _ (by assumption) | exact hal _ _ (hal _ _ (by assumption))
              clear hK K
              refine wpAnyH_take (i := 57) (oi := { dst := some 174, op := Op.pick (Operand.tmp 165) (Operand.tmp 173) (Operand.const (Value.bool false)), type := 4, pos := "law.go:81", after := #[{ on := 48, ground := Ground.data }, { on := 56, ground := Ground.data }], guard := none }) (v := ?_) rfl (by kernel_rfl) (by kernel_rfl) (by kernel_rfl) (fun _ _ _ h => False.elim h) (Or.inl ⟨by rfl, ?_⟩) (by assumption) ?_
              rotate_left
              · intro w hSw; (try dsimp only at hSw); go_simp; all_goals with_reducible rfl
              try simp only [Act.put, List.setIfInBounds_toArray, List.set_cons_zero, List.set_cons_succ]
              refine wpAnyH_take (i := 58) (oi := { dst := some 175, op := Op.move (Operand.tmp 174), type := 4, pos := "law.go:81", after := #[{ on := 57, ground := Ground.data }, { on := 56, ground := Ground.chain }], guard := none }) (v := ?_) rfl (by kernel_rfl) (by kernel_rfl) (by kernel_rfl) (fun _ _ _ h => False.elim h) (Or.inl ⟨by rfl, ?_⟩) (by assumption) ?_
              rotate_left
              · intro w hSw; (try dsimp only at hSw); go_simp; all_goals with_reducible rfl
              try simp only [Act.put, List.setIfInBounds_toArray, List.set_cons_zero, List.set_cons_succ]
              refine wpAnyH_ready (rs := [59]) (by kernel_rfl) (by simp) ?_
              refine AllReadyH.cons rfl (fun K hK => ?_) ?_
              · go_simp
                go_wp2_with (first | (go_at_call 13; with_reducible refine (qk _ ?_).mono ?_; (assumption); rintro e1 W9 ⟨rfl, C9⟩))
                refine hK.out _ _ ?_ (fun hHeld => ?_)
                · first | assumption | exact hal _ _ (by assumption) | exact hal _ _ (hal _ _ (by assumption))
                clear hK K
                refine wpAnyH_take (i := 60) (oi := { dst := some 177, op := Op.pick (Operand.tmp 175) (Operand.tmp 176) (Operand.const (Value.bool false)), type := 4, pos := "law.go:81", after := #[{ on := 58, ground := Ground.data }, { on := 59, ground := Ground.data }], guard := none }) (v := ?_) rfl (by kernel_rfl) (by kernel_rfl) (by kernel_rfl) (fun _ _ _ h => False.elim h) (Or.inl ⟨by rfl, ?_⟩) (by assumption) ?_
                rotate_left
                · intro w hSw; (try dsimp only at hSw); go_simp; all_goals with_reducible rfl
                try simp only [Act.put, List.setIfInBounds_toArray, List.set_cons_zero, List.set_cons_succ]
                refine wpAnyH_take (i := 61) (oi := { dst := some 0, op := Op.assign (Operand.tmp 177), type := 4, pos := "law.go:81", after := #[{ on := 60, ground := Ground.data }, { on := 59, ground := Ground.chain }, { on := 0, ground := Ground.phase }, { on := 1, ground := Ground.phase }, { on := 2, ground := Ground.phase }, { on := 3, ground := Ground.phase }, { on := 4, ground := Ground.phase }, { on := 5, ground := Ground.phase }, { on := 6, ground := Ground.phase }, { on := 7, ground := Ground.phase }, { on := 8, ground := Ground.phase }, { on := 9, ground := Ground.phase }, { on := 10, ground := Ground.phase }, { on := 11, ground := Ground.phase }, { on := 12, ground := Ground.phase }, { on := 13, ground := Ground.phase }, { on := 14, ground := Ground.phase }, { on := 15, ground := Ground.phase }, { on := 16, ground := Ground.phase }, { on := 17, ground := Ground.phase }, { on := 18, ground := Ground.phase }, { on := 19, ground := Ground.phase }, { on := 20, ground := Ground.phase }, { on := 21, ground := Ground.phase }, { on := 22, ground := Ground.phase }, { on := 23, ground := Ground.phase }, { on := 24, ground := Ground.phase }, { on := 25, ground := Ground.phase }, { on := 26, ground := Ground.phase }, { on := 27, ground := Ground.phase }, { on := 28, ground := Ground.phase }, { on := 29, ground := Ground.phase }, { on := 30, ground := Ground.phase }, { on := 31, ground := Ground.phase }, { on := 32, ground := Ground.phase }, { on := 33, ground := Ground.phase }, { on := 34, ground := Ground.phase }, { on := 35, ground := Ground.phase }, { on := 36, ground := Ground.phase }, { on := 37, ground := Ground.phase }, { on := 38, ground := Ground.phase }, { on := 39, ground := Ground.phase }, { on := 40, ground := Ground.phase }, { on := 41, ground := Ground.phase }, { on := 42, ground := Ground.phase }, { on := 43, ground := Ground.phase }, { on := 44, ground := Ground.phase }, { on := 45, ground := Ground.phase }, { on := 46, ground := Ground.phase }, { on := 47, ground := Ground.phase }, { on := 48, ground := Ground.phase }, { on := 49, ground := Ground.phase }, { on := 50, ground := Ground.phase }, { on := 51, ground := Ground.phase }, { on := 52, ground := Ground.phase }, { on := 53, ground := Ground.phase }, { on := 54, ground := Ground.phase }, { on := 55, ground := Ground.phase }, { on := 56, ground := Ground.phase }, { on := 57, ground := Ground.phase }, { on := 58, ground := Ground.phase }, { on := 59, ground := Ground.phase }, { on := 60, ground := Ground.phase }], guard := none }) (v := ?_) rfl (by kernel_rfl) (by kernel_rfl) (by kernel_rfl) (fun _ _ _ h => False.elim h) (Or.inl ⟨by rfl, ?_⟩) (by assumption) ?_
                rotate_left
                · intro w hSw; (try dsimp only at hSw); go_simp; all_goals with_reducible rfl
                try simp only [Act.put, List.setIfInBounds_toArray, List.set_cons_zero, List.set_cons_succ]
                refine wpAnyH_done (by kernel_rfl) ?_ _
                exact fin_mk ⟨_, rfl, by assumption⟩
              exact AllReadyH.nil
            exact AllReadyH.nil
          exact AllReadyH.nil
        exact AllReadyH.nil
      exact AllReadyH.nil
    refine AllReadyH.cons rfl (fun K hK => ?_) ?_
    · go_simp
      refine hK.out _ _ ?_ (fun hHeld => ?_)
      · first | assumption | exact hal _ _ (by assumption) | exact hal _ _ (hal _ _ (by assumption))
      clear hK K
      refine wpAnyH_ready (rs := [50, 53]) (by kernel_rfl) (by simp) ?_
      refine AllReadyH.cons rfl (fun K hK => ?_) ?_
      · go_simp
        refine hK.out _ _ ?_ (fun hHeld => ?_)
        · first | assumption | exact hal _ _ (by assumption) | exact hal _ _ (hal _ _ (by assumption))
        clear hK K
        refine wpAnyH_take (i := 51) (oi := { dst := some 168, op := Op.build 25 #[(0, Operand.tmp 167)], type := 25, pos := "law.go:81", after := #[{ on := 50, ground := Ground.data }, { on := 48, ground := Ground.guard }], guard := some (48, true) }) (v := ?_) rfl (by kernel_rfl) (by kernel_rfl) (by kernel_rfl) (fun _ _ _ h => False.elim h) (Or.inl ⟨by rfl, ?_⟩) (by assumption) ?_
        rotate_left
        · intro w hSw; (try dsimp only at hSw); go_simp; all_goals with_reducible rfl
        try simp only [Act.put, List.setIfInBounds_toArray, List.set_cons_zero, List.set_cons_succ]
        refine wpAnyH_ready (rs := [53]) (by kernel_rfl) (by simp) ?_
        refine AllReadyH.cons rfl (fun K hK => ?_) ?_
        · go_simp
          refine hK.out _ _ ?_ (fun hHeld => ?_)
          · first | assumption | exact hal _ _ (by assumption) | exact hal _ _ (hal _ _ (by assumption))
          clear hK K
          refine wpAnyH_take (i := 54) (oi := { dst := some 171, op := Op.build 25 #[(0, Operand.tmp 170)], type := 25, pos := "law.go:81", after := #[{ on := 53, ground := Ground.data }, { on := 48, ground := Ground.guard }], guard := some (48, true) }) (v := ?_) rfl (by kernel_rfl) (by kernel_rfl) (by kernel_rfl) (fun _ _ _ h => False.elim h) (Or.inl ⟨by rfl, ?_⟩) (by assumption) ?_
          rotate_left
          · intro w hSw; (try dsimp only at hSw); go_simp; all_goals with_reducible rfl
          try simp only [Act.put, List.setIfInBounds_toArray, List.set_cons_zero, List.set_cons_succ]
          refine wpAnyH_ready (rs := [55]) (by kernel_rfl) (by simp) ?_
          refine AllReadyH.cons rfl (fun K hK => ?_) ?_
          · go_simp
            refine hK.out _ _ ?_ (fun hHeld => ?_)
            · first | assumption | exact hal _ _ (by assumption) | exact hal _ _ (hal _ _ (by assumption))
            clear hK K
            refine wpAnyH_ready (rs := [56]) (by kernel_rfl) (by simp) ?_
            refine AllReadyH.cons rfl (fun K hK => ?_) ?_
            · go_simp
              go_wp2_with (first | (go_at_call 12; with_reducible refine (qx _ ?_ _ _ ?_ ?_).mono ?_; (assumption); (omega); (omega); rintro e1 W9 ⟨rfl, C9⟩) | (go_at_call 12; with_reducible refine (qy _ ?_ _ _ ?_ ?_).mono ?_; (assumption); (omega); (omega); rintro e1 W9 ⟨rfl, C9⟩))
              refine hK.out _ _ ?_ (fun hHeld => ?_)
              · first | assumption | exact hal _ _ (by assumption) | exact hal _ _ (hal _ _ (by assumption))
              clear hK K
              refine wpAnyH_take (i := 57) (oi := { dst := some 174, op := Op.pick (Operand.tmp 165) (Operand.tmp 173) (Operand.const (Value.bool false)), type := 4, pos := "law.go:81", after := #[{ on := 48, ground := Ground.data }, { on := 56, ground := Ground.data }], guard := none }) (v := ?_) rfl (by kernel_rfl) (by kernel_rfl) (by kernel_rfl) (fun _ _ _ h => False.elim h) (Or.inl ⟨by rfl, ?_⟩) (by assumption) ?_
              rotate_left
              · intro w hSw; (try dsimp only at hSw); go_simp; all_goals with_reducible rfl
              try simp only [Act.put, List.setIfInBounds_toArray, List.set_cons_zero, List.set_cons_succ]
              refine wpAnyH_take (i := 58) (oi := { dst := some 175, op := Op.move (Operand.tmp 174), type := 4, pos := "law.go:81", after := #[{ on := 57, ground := Ground.data }, { on := 56, ground := Ground.chain }], guard := none }) (v := ?_) rfl (by kernel_rfl) (by kernel_rfl) (by kernel_rfl) (fun _ _ _ h => False.elim h) (Or.inl ⟨by rfl, ?_⟩) (by assumption) ?_
              rotate_left
              · intro w hSw; (try dsimp only at hSw); go_simp; all_goals with_reducible rfl
              try simp only [Act.put, List.setIfInBounds_toArray, List.set_cons_zero, List.set_cons_succ]
              refine wpAnyH_ready (rs := [59]) (by kernel_rfl) (by simp) ?_
              refine AllReadyH.cons rfl (fun K hK => ?_) ?_
              · go_simp
                go_wp2_with (first | (go_at_call 13; with_reducible refine (qk _ ?_).mono ?_; (assumption); rintro e1 W9 ⟨rfl, C9⟩))
                refine hK.out _ _ ?_ (fun hHeld => ?_)
                · first | assumption | exact hal _ _ (by assumption) | exact hal _ _ (hal _ _ (by assumption))
                clear hK K
                refine wpAnyH_take (i := 60) (oi := { dst := some 177, op := Op.pick (Operand.tmp 175) (Operand.tmp 176) (Operand.const (Value.bool false)), type := 4, pos := "law.go:81", after := #[{ on := 58, ground := Ground.data }, { on := 59, ground := Ground.data }], guard := none }) (v := ?_) rfl (by kernel_rfl) (by kernel_rfl) (by kernel_rfl) (fun _ _ _ h => False.elim h) (Or.inl ⟨by rfl, ?_⟩) (by assumption) ?_
                rotate_left
                · intro w hSw; (try dsimp only at hSw); go_simp; all_goals with_reducible rfl
                try simp only [Act.put, List.setIfInBounds_toArray, List.set_cons_zero, List.set_cons_succ]
                refine wpAnyH_take (i := 61) (oi := { dst := some 0, op := Op.assign (Operand.tmp 177), type := 4, pos := "law.go:81", after := #[{ on := 60, ground := Ground.data }, { on := 59, ground := Ground.chain }, { on := 0, ground := Ground.phase }, { on := 1, ground := Ground.phase }, { on := 2, ground := Ground.phase }, { on := 3, ground := Ground.phase }, { on := 4, ground := Ground.phase }, { on := 5, ground := Ground.phase }, { on := 6, ground := Ground.phase }, { on := 7, ground := Ground.phase }, { on := 8, ground := Ground.phase }, { on := 9, ground := Ground.phase }, { on := 10, ground := Ground.phase }, { on := 11, ground := Ground.phase }, { on := 12, ground := Ground.phase }, { on := 13, ground := Ground.phase }, { on := 14, ground := Ground.phase }, { on := 15, ground := Ground.phase }, { on := 16, ground := Ground.phase }, { on := 17, ground := Ground.phase }, { on := 18, ground := Ground.phase }, { on := 19, ground := Ground.phase }, { on := 20, ground := Ground.phase }, { on := 21, ground := Ground.phase }, { on := 22, ground := Ground.phase }, { on := 23, ground := Ground.phase }, { on := 24, ground := Ground.phase }, { on := 25, ground := Ground.phase }, { on := 26, ground := Ground.phase }, { on := 27, ground := Ground.phase }, { on := 28, ground := Ground.phase }, { on := 29, ground := Ground.phase }, { on := 30, ground := Ground.phase }, { on := 31, ground := Ground.phase }, { on := 32, ground := Ground.phase }, { on := 33, ground := Ground.phase }, { on := 34, ground := Ground.phase }, { on := 35, ground := Ground.phase }, { on := 36, ground := Ground.phase }, { on := 37, ground := Ground.phase }, { on := 38, ground := Ground.phase }, { on := 39, ground := Ground.phase }, { on := 40, ground := Ground.phase }, { on := 41, ground := Ground.phase }, { on := 42, ground := Ground.phase }, { on := 43, ground := Ground.phase }, { on := 44, ground := Ground.phase }, { on := 45, ground := Ground.phase }, { on := 46, ground := Ground.phase }, { on := 47, ground := Ground.phase }, { on := 48, ground := Ground.phase }, { on := 49, ground := Ground.phase }, { on := 50, ground := Ground.phase }, { on := 51, ground := Ground.phase }, { on := 52, ground := Ground.phase }, { on := 53, ground := Ground.phase }, { on := 54, ground := Ground.phase }, { on := 55, ground := Ground.phase }, { on := 56, ground := Ground.phase }, { on := 57, ground := Ground.phase }, { on := 58, ground := Ground.phase }, { on := 59, ground := Ground.phase }, { on := 60, ground := Ground.phase }], guard := none }) (v := ?_) rfl (by kernel_rfl) (by kernel_rfl) (by kernel_rfl) (fun _ _ _ h => False.elim h) (Or.inl ⟨by rfl, ?_⟩) (by assumption) ?_
                rotate_left
                · intro w hSw; (try dsimp only at hSw); go_simp; all_goals with_reducible rfl
                try simp only [Act.put, List.setIfInBounds_toArray, List.set_cons_zero, List.set_cons_succ]
                refine wpAnyH_done (by kernel_rfl) ?_ _
                exact fin_mk ⟨_, rfl, by assumption⟩
              exact AllReadyH.nil
            exact AllReadyH.nil
          exact AllReadyH.nil
        exact AllReadyH.nil
      refine AllReadyH.cons rfl (fun K hK => ?_) ?_
      · go_simp
        refine hK.out _ _ ?_ (fun hHeld => ?_)
        · first | assumption | exact hal _ _ (by assumption) | exact hal _ _ (hal _ _ (by assumption))
        clear hK K
        refine wpAnyH_take (i := 54) (oi := { dst := some 171, op := Op.build 25 #[(0, Operand.tmp 170)], type := 25, pos := "law.go:81", after := #[{ on := 53, ground := Ground.data }, { on := 48, ground := Ground.guard }], guard := some (48, true) }) (v := ?_) rfl (by kernel_rfl) (by kernel_rfl) (by kernel_rfl) (fun _ _ _ h => False.elim h) (Or.inl ⟨by rfl, ?_⟩) (by assumption) ?_
        rotate_left
        · intro w hSw; (try dsimp only at hSw); go_simp; all_goals with_reducible rfl
        try simp only [Act.put, List.setIfInBounds_toArray, List.set_cons_zero, List.set_cons_succ]
        refine wpAnyH_ready (rs := [50]) (by kernel_rfl) (by simp) ?_
        refine AllReadyH.cons rfl (fun K hK => ?_) ?_
        · go_simp
          refine hK.out _ _ ?_ (fun hHeld => ?_)
          · first | assumption | exact hal _ _ (by assumption) | exact hal _ _ (hal _ _ (by assumption))
          clear hK K
          refine wpAnyH_take (i := 51) (oi := { dst := some 168, op := Op.build 25 #[(0, Operand.tmp 167)], type := 25, pos := "law.go:81", after := #[{ on := 50, ground := Ground.data }, { on := 48, ground := Ground.guard }], guard := some (48, true) }) (v := ?_) rfl (by kernel_rfl) (by kernel_rfl) (by kernel_rfl) (fun _ _ _ h => False.elim h) (Or.inl ⟨by rfl, ?_⟩) (by assumption) ?_
          rotate_left
          · intro w hSw; (try dsimp only at hSw); go_simp; all_goals with_reducible rfl
          try simp only [Act.put, List.setIfInBounds_toArray, List.set_cons_zero, List.set_cons_succ]
          refine wpAnyH_ready (rs := [55]) (by kernel_rfl) (by simp) ?_
          refine AllReadyH.cons rfl (fun K hK => ?_) ?_
          · go_simp
            refine hK.out _ _ ?_ (fun hHeld => ?_)
            · first | assumption | exact hal _ _ (by assumption) | exact hal _ _ (hal _ _ (by assumption))
            clear hK K
            refine wpAnyH_ready (rs := [56]) (by kernel_rfl) (by simp) ?_
            refine AllReadyH.cons rfl (fun K hK => ?_) ?_
            · go_simp
              go_wp2_with (first | (go_at_call 12; with_reducible refine (qx _ ?_ _ _ ?_ ?_).mono ?_; (assumption); (omega); (omega); rintro e1 W9 ⟨rfl, C9⟩) | (go_at_call 12; with_reducible refine (qy _ ?_ _ _ ?_ ?_).mono ?_; (assumption); (omega); (omega); rintro e1 W9 ⟨rfl, C9⟩))
              refine hK.out _ _ ?_ (fun hHeld => ?_)
              · first | assumption | exact hal _ _ (by assumption) | exact hal _ _ (hal _ _ (by assumption))
              clear hK K
              refine wpAnyH_take (i := 57) (oi := { dst := some 174, op := Op.pick (Operand.tmp 165) (Operand.tmp 173) (Operand.const (Value.bool false)), type := 4, pos := "law.go:81", after := #[{ on := 48, ground := Ground.data }, { on := 56, ground := Ground.data }], guard := none }) (v := ?_) rfl (by kernel_rfl) (by kernel_rfl) (by kernel_rfl) (fun _ _ _ h => False.elim h) (Or.inl ⟨by rfl, ?_⟩) (by assumption) ?_
              rotate_left
              · intro w hSw; (try dsimp only at hSw); go_simp; all_goals with_reducible rfl
              try simp only [Act.put, List.setIfInBounds_toArray, List.set_cons_zero, List.set_cons_succ]
              refine wpAnyH_take (i := 58) (oi := { dst := some 175, op := Op.move (Operand.tmp 174), type := 4, pos := "law.go:81", after := #[{ on := 57, ground := Ground.data }, { on := 56, ground := Ground.chain }], guard := none }) (v := ?_) rfl (by kernel_rfl) (by kernel_rfl) (by kernel_rfl) (fun _ _ _ h => False.elim h) (Or.inl ⟨by rfl, ?_⟩) (by assumption) ?_
              rotate_left
              · intro w hSw; (try dsimp only at hSw); go_simp; all_goals with_reducible rfl
              try simp only [Act.put, List.setIfInBounds_toArray, List.set_cons_zero, List.set_cons_succ]
              refine wpAnyH_ready (rs := [59]) (by kernel_rfl) (by simp) ?_
              refine AllReadyH.cons rfl (fun K hK => ?_) ?_
              · go_simp
                go_wp2_with (first | (go_at_call 13; with_reducible refine (qk _ ?_).mono ?_; (assumption); rintro e1 W9 ⟨rfl, C9⟩))
                refine hK.out _ _ ?_ (fun hHeld => ?_)
                · first | assumption | exact hal _ _ (by assumption) | exact hal _ _ (hal _ _ (by assumption))
                clear hK K
                refine wpAnyH_take (i := 60) (oi := { dst := some 177, op := Op.pick (Operand.tmp 175) (Operand.tmp 176) (Operand.const (Value.bool false)), type := 4, pos := "law.go:81", after := #[{ on := 58, ground := Ground.data }, { on := 59, ground := Ground.data }], guard := none }) (v := ?_) rfl (by kernel_rfl) (by kernel_rfl) (by kernel_rfl) (fun _ _ _ h => False.elim h) (Or.inl ⟨by rfl, ?_⟩) (by assumption) ?_
                rotate_left
                · intro w hSw; (try dsimp only at hSw); go_simp; all_goals with_reducible rfl
                try simp only [Act.put, List.setIfInBounds_toArray, List.set_cons_zero, List.set_cons_succ]
                refine wpAnyH_take (i := 61) (oi := { dst := some 0, op := Op.assign (Operand.tmp 177), type := 4, pos := "law.go:81", after := #[{ on := 60, ground := Ground.data }, { on := 59, ground := Ground.chain }, { on := 0, ground := Ground.phase }, { on := 1, ground := Ground.phase }, { on := 2, ground := Ground.phase }, { on := 3, ground := Ground.phase }, { on := 4, ground := Ground.phase }, { on := 5, ground := Ground.phase }, { on := 6, ground := Ground.phase }, { on := 7, ground := Ground.phase }, { on := 8, ground := Ground.phase }, { on := 9, ground := Ground.phase }, { on := 10, ground := Ground.phase }, { on := 11, ground := Ground.phase }, { on := 12, ground := Ground.phase }, { on := 13, ground := Ground.phase }, { on := 14, ground := Ground.phase }, { on := 15, ground := Ground.phase }, { on := 16, ground := Ground.phase }, { on := 17, ground := Ground.phase }, { on := 18, ground := Ground.phase }, { on := 19, ground := Ground.phase }, { on := 20, ground := Ground.phase }, { on := 21, ground := Ground.phase }, { on := 22, ground := Ground.phase }, { on := 23, ground := Ground.phase }, { on := 24, ground := Ground.phase }, { on := 25, ground := Ground.phase }, { on := 26, ground := Ground.phase }, { on := 27, ground := Ground.phase }, { on := 28, ground := Ground.phase }, { on := 29, ground := Ground.phase }, { on := 30, ground := Ground.phase }, { on := 31, ground := Ground.phase }, { on := 32, ground := Ground.phase }, { on := 33, ground := Ground.phase }, { on := 34, ground := Ground.phase }, { on := 35, ground := Ground.phase }, { on := 36, ground := Ground.phase }, { on := 37, ground := Ground.phase }, { on := 38, ground := Ground.phase }, { on := 39, ground := Ground.phase }, { on := 40, ground := Ground.phase }, { on := 41, ground := Ground.phase }, { on := 42, ground := Ground.phase }, { on := 43, ground := Ground.phase }, { on := 44, ground := Ground.phase }, { on := 45, ground := Ground.phase }, { on := 46, ground := Ground.phase }, { on := 47, ground := Ground.phase }, { on := 48, ground := Ground.phase }, { on := 49, ground := Ground.phase }, { on := 50, ground := Ground.phase }, { on := 51, ground := Ground.phase }, { on := 52, ground := Ground.phase }, { on := 53, ground := Ground.phase }, { on := 54, ground := Ground.phase }, { on := 55, ground := Ground.phase }, { on := 56, ground := Ground.phase }, { on := 57, ground := Ground.phase }, { on := 58, ground := Ground.phase }, { on := 59, ground := Ground.phase }, { on := 60, ground := Ground.phase }], guard := none }) (v := ?_) rfl (by kernel_rfl) (by kernel_rfl) (by kernel_rfl) (fun _ _ _ h => False.elim h) (Or.inl ⟨by rfl, ?_⟩) (by assumption) ?_
                rotate_left
                · intro w hSw; (try dsimp only at hSw); go_simp; all_goals with_reducible rfl
                try simp only [Act.put, List.setIfInBounds_toArray, List.set_cons_zero, List.set_cons_succ]
                refine wpAnyH_done (by kernel_rfl) ?_ _
                exact fin_mk ⟨_, rfl, by assumption⟩
              exact AllReadyH.nil
            exact AllReadyH.nil
          exact AllReadyH.nil
        exact AllReadyH.nil
      exact AllReadyH.nil
    exact AllReadyH.nil
  refine AllReadyH.cons rfl (fun K hK => ?_) ?_
  · go_simp
    refine hK.out _ _ ?_ (fun hHeld => ?_)
    · first | assumption | exact hal _ _ (by assumption) | exact hal _ _ (hal _ _ (by assumption))
    clear hK K
    refine wpAnyH_ready (rs := [49, 53]) (by kernel_rfl) (by simp) ?_
    refine AllReadyH.cons rfl (fun K hK => ?_) ?_
    · go_simp
      refine hK.out _ _ ?_ (fun hHeld => ?_)
      · first | assumption | exact hal _ _ (by assumption) | exact hal _ _ (hal _ _ (by assumption))
      clear hK K
      refine wpAnyH_ready (rs := [50, 53]) (by kernel_rfl) (by simp) ?_
      refine AllReadyH.cons rfl (fun K hK => ?_) ?_
      · go_simp
        refine hK.out _ _ ?_ (fun hHeld => ?_)
        · first | assumption | exact hal _ _ (by assumption) | exact hal _ _ (hal _ _ (by assumption))
        clear hK K
        refine wpAnyH_take (i := 51) (oi := { dst := some 168, op := Op.build 25 #[(0, Operand.tmp 167)], type := 25, pos := "law.go:81", after := #[{ on := 50, ground := Ground.data }, { on := 48, ground := Ground.guard }], guard := some (48, true) }) (v := ?_) rfl (by kernel_rfl) (by kernel_rfl) (by kernel_rfl) (fun _ _ _ h => False.elim h) (Or.inl ⟨by rfl, ?_⟩) (by assumption) ?_
        rotate_left
        · intro w hSw; (try dsimp only at hSw); go_simp; all_goals with_reducible rfl
        try simp only [Act.put, List.setIfInBounds_toArray, List.set_cons_zero, List.set_cons_succ]
        refine wpAnyH_ready (rs := [53]) (by kernel_rfl) (by simp) ?_
        refine AllReadyH.cons rfl (fun K hK => ?_) ?_
        · go_simp
          refine hK.out _ _ ?_ (fun hHeld => ?_)
          · first | assumption | exact hal _ _ (by assumption) | exact hal _ _ (hal _ _ (by assumption))
          clear hK K
          refine wpAnyH_take (i := 54) (oi := { dst := some 171, op := Op.build 25 #[(0, Operand.tmp 170)], type := 25, pos := "law.go:81", after := #[{ on := 53, ground := Ground.data }, { on := 48, ground := Ground.guard }], guard := some (48, true) }) (v := ?_) rfl (by kernel_rfl) (by kernel_rfl) (by kernel_rfl) (fun _ _ _ h => False.elim h) (Or.inl ⟨by rfl, ?_⟩) (by assumption) ?_
          rotate_left
          · intro w hSw; (try dsimp only at hSw); go_simp; all_goals with_reducible rfl
          try simp only [Act.put, List.setIfInBounds_toArray, List.set_cons_zero, List.set_cons_succ]
          refine wpAnyH_ready (rs := [55]) (by kernel_rfl) (by simp) ?_
          refine AllReadyH.cons rfl (fun K hK => ?_) ?_
          · go_simp
            refine hK.out _ _ ?_ (fun hHeld => ?_)
            · first | assumption | exact hal _ _ (by assumption) | exact hal _ _ (hal _ _ (by assumption))
            clear hK K
            refine wpAnyH_ready (rs := [56]) (by kernel_rfl) (by simp) ?_
            refine AllReadyH.cons rfl (fun K hK => ?_) ?_
            · go_simp
              go_wp2_with (first | (go_at_call 12; with_reducible refine (qx _ ?_ _ _ ?_ ?_).mono ?_; (assumption); (omega); (omega); rintro e1 W9 ⟨rfl, C9⟩) | (go_at_call 12; with_reducible refine (qy _ ?_ _ _ ?_ ?_).mono ?_; (assumption); (omega); (omega); rintro e1 W9 ⟨rfl, C9⟩))
              refine hK.out _ _ ?_ (fun hHeld => ?_)
              · first | assumption | exact hal _ _ (by assumption) | exact hal _ _ (hal _ _ (by assumption))
              clear hK K
              refine wpAnyH_take (i := 57) (oi := { dst := some 174, op := Op.pick (Operand.tmp 165) (Operand.tmp 173) (Operand.const (Value.bool false)), type := 4, pos := "law.go:81", after := #[{ on := 48, ground := Ground.data }, { on := 56, ground := Ground.data }], guard := none }) (v := ?_) rfl (by kernel_rfl) (by kernel_rfl) (by kernel_rfl) (fun _ _ _ h => False.elim h) (Or.inl ⟨by rfl, ?_⟩) (by assumption) ?_
              rotate_left
              · intro w hSw; (try dsimp only at hSw); go_simp; all_goals with_reducible rfl
              try simp only [Act.put, List.setIfInBounds_toArray, List.set_cons_zero, List.set_cons_succ]
              refine wpAnyH_take (i := 58) (oi := { dst := some 175, op := Op.move (Operand.tmp 174), type := 4, pos := "law.go:81", after := #[{ on := 57, ground := Ground.data }, { on := 56, ground := Ground.chain }], guard := none }) (v := ?_) rfl (by kernel_rfl) (by kernel_rfl) (by kernel_rfl) (fun _ _ _ h => False.elim h) (Or.inl ⟨by rfl, ?_⟩) (by assumption) ?_
              rotate_left
              · intro w hSw; (try dsimp only at hSw); go_simp; all_goals with_reducible rfl
              try simp only [Act.put, List.setIfInBounds_toArray, List.set_cons_zero, List.set_cons_succ]
              refine wpAnyH_ready (rs := [59]) (by kernel_rfl) (by simp) ?_
              refine AllReadyH.cons rfl (fun K hK => ?_) ?_
              · go_simp
                go_wp2_with (first | (go_at_call 13; with_reducible refine (qk _ ?_).mono ?_; (assumption); rintro e1 W9 ⟨rfl, C9⟩))
                refine hK.out _ _ ?_ (fun hHeld => ?_)
                · first | assumption | exact hal _ _ (by assumption) | exact hal _ _ (hal _ _ (by assumption))
                clear hK K
                refine wpAnyH_take (i := 60) (oi := { dst := some 177, op := Op.pick (Operand.tmp 175) (Operand.tmp 176) (Operand.const (Value.bool false)), type := 4, pos := "law.go:81", after := #[{ on := 58, ground := Ground.data }, { on := 59, ground := Ground.data }], guard := none }) (v := ?_) rfl (by kernel_rfl) (by kernel_rfl) (by kernel_rfl) (fun _ _ _ h => False.elim h) (Or.inl ⟨by rfl, ?_⟩) (by assumption) ?_
                rotate_left
                · intro w hSw; (try dsimp only at hSw); go_simp; all_goals with_reducible rfl
                try simp only [Act.put, List.setIfInBounds_toArray, List.set_cons_zero, List.set_cons_succ]
                refine wpAnyH_take (i := 61) (oi := { dst := some 0, op := Op.assign (Operand.tmp 177), type := 4, pos := "law.go:81", after := #[{ on := 60, ground := Ground.data }, { on := 59, ground := Ground.chain }, { on := 0, ground := Ground.phase }, { on := 1, ground := Ground.phase }, { on := 2, ground := Ground.phase }, { on := 3, ground := Ground.phase }, { on := 4, ground := Ground.phase }, { on := 5, ground := Ground.phase }, { on := 6, ground := Ground.phase }, { on := 7, ground := Ground.phase }, { on := 8, ground := Ground.phase }, { on := 9, ground := Ground.phase }, { on := 10, ground := Ground.phase }, { on := 11, ground := Ground.phase }, { on := 12, ground := Ground.phase }, { on := 13, ground := Ground.phase }, { on := 14, ground := Ground.phase }, { on := 15, ground := Ground.phase }, { on := 16, ground := Ground.phase }, { on := 17, ground := Ground.phase }, { on := 18, ground := Ground.phase }, { on := 19, ground := Ground.phase }, { on := 20, ground := Ground.phase }, { on := 21, ground := Ground.phase }, { on := 22, ground := Ground.phase }, { on := 23, ground := Ground.phase }, { on := 24, ground := Ground.phase }, { on := 25, ground := Ground.phase }, { on := 26, ground := Ground.phase }, { on := 27, ground := Ground.phase }, { on := 28, ground := Ground.phase }, { on := 29, ground := Ground.phase }, { on := 30, ground := Ground.phase }, { on := 31, ground := Ground.phase }, { on := 32, ground := Ground.phase }, { on := 33, ground := Ground.phase }, { on := 34, ground := Ground.phase }, { on := 35, ground := Ground.phase }, { on := 36, ground := Ground.phase }, { on := 37, ground := Ground.phase }, { on := 38, ground := Ground.phase }, { on := 39, ground := Ground.phase }, { on := 40, ground := Ground.phase }, { on := 41, ground := Ground.phase }, { on := 42, ground := Ground.phase }, { on := 43, ground := Ground.phase }, { on := 44, ground := Ground.phase }, { on := 45, ground := Ground.phase }, { on := 46, ground := Ground.phase }, { on := 47, ground := Ground.phase }, { on := 48, ground := Ground.phase }, { on := 49, ground := Ground.phase }, { on := 50, ground := Ground.phase }, { on := 51, ground := Ground.phase }, { on := 52, ground := Ground.phase }, { on := 53, ground := Ground.phase }, { on := 54, ground := Ground.phase }, { on := 55, ground := Ground.phase }, { on := 56, ground := Ground.phase }, { on := 57, ground := Ground.phase }, { on := 58, ground := Ground.phase }, { on := 59, ground := Ground.phase }, { on := 60, ground := Ground.phase }], guard := none }) (v := ?_) rfl (by kernel_rfl) (by kernel_rfl) (by kernel_rfl) (fun _ _ _ h => False.elim h) (Or.inl ⟨by rfl, ?_⟩) (by assumption) ?_
                rotate_left
                · intro w hSw; (try dsimp only at hSw); go_simp; all_goals with_reducible rfl
                try simp only [Act.put, List.setIfInBounds_toArray, List.set_cons_zero, List.set_cons_succ]
                refine wpAnyH_done (by kernel_rfl) ?_ _
                exact fin_mk ⟨_, rfl, by assumption⟩
              exact AllReadyH.nil
            exact AllReadyH.nil
          exact AllReadyH.nil
        exact AllReadyH.nil
      refine AllReadyH.cons rfl (fun K hK => ?_) ?_
      · go_simp
        refine hK.out _ _ ?_ (fun hHeld => ?_)
        · first | assumption | exact hal _ _ (by assumption) | exact hal _ _ (hal _ _ (by assumption))
        clear hK K
        refine wpAnyH_take (i := 54) (oi := { dst := some 171, op := Op.build 25 #[(0, Operand.tmp 170)], type := 25, pos := "law.go:81", after := #[{ on := 53, ground := Ground.data }, { on := 48, ground := Ground.guard }], guard := some (48, true) }) (v := ?_) rfl (by kernel_rfl) (by kernel_rfl) (by kernel_rfl) (fun _ _ _ h => False.elim h) (Or.inl ⟨by rfl, ?_⟩) (by assumption) ?_
        rotate_left
        · intro w hSw; (try dsimp only at hSw); go_simp; all_goals with_reducible rfl
        try simp only [Act.put, List.setIfInBounds_toArray, List.set_cons_zero, List.set_cons_succ]
        refine wpAnyH_ready (rs := [50]) (by kernel_rfl) (by simp) ?_
        refine AllReadyH.cons rfl (fun K hK => ?_) ?_
        · go_simp
          refine hK.out _ _ ?_ (fun hHeld => ?_)
          · first | assumption | exact hal _ _ (by assumption) | exact hal _ _ (hal _ _ (by assumption))
          clear hK K
          refine wpAnyH_take (i := 51) (oi := { dst := some 168, op := Op.build 25 #[(0, Operand.tmp 167)], type := 25, pos := "law.go:81", after := #[{ on := 50, ground := Ground.data }, { on := 48, ground := Ground.guard }], guard := some (48, true) }) (v := ?_) rfl (by kernel_rfl) (by kernel_rfl) (by kernel_rfl) (fun _ _ _ h => False.elim h) (Or.inl ⟨by rfl, ?_⟩) (by assumption) ?_
          rotate_left
          · intro w hSw; (try dsimp only at hSw); go_simp; all_goals with_reducible rfl
          try simp only [Act.put, List.setIfInBounds_toArray, List.set_cons_zero, List.set_cons_succ]
          refine wpAnyH_ready (rs := [55]) (by kernel_rfl) (by simp) ?_
          refine AllReadyH.cons rfl (fun K hK => ?_) ?_
          · go_simp
            refine hK.out _ _ ?_ (fun hHeld => ?_)
            · first | assumption | exact hal _ _ (by assumption) | exact hal _ _ (hal _ _ (by assumption))
            clear hK K
            refine wpAnyH_ready (rs := [56]) (by kernel_rfl) (by simp) ?_
            refine AllReadyH.cons rfl (fun K hK => ?_) ?_
            · go_simp
              go_wp2_with (first | (go_at_call 12; with_reducible refine (qx _ ?_ _ _ ?_ ?_).mono ?_; (assumption); (omega); (omega); rintro e1 W9 ⟨rfl, C9⟩) | (go_at_call 12; with_reducible refine (qy _ ?_ _ _ ?_ ?_).mono ?_; (assumption); (omega); (omega); rintro e1 W9 ⟨rfl, C9⟩))
              refine hK.out _ _ ?_ (fun hHeld => ?_)
              · first | assumption | exact hal _ _ (by assumption) | exact hal _ _ (hal _ _ (by assumption))
              clear hK K
              refine wpAnyH_take (i := 57) (oi := { dst := some 174, op := Op.pick (Operand.tmp 165) (Operand.tmp 173) (Operand.const (Value.bool false)), type := 4, pos := "law.go:81", after := #[{ on := 48, ground := Ground.data }, { on := 56, ground := Ground.data }], guard := none }) (v := ?_) rfl (by kernel_rfl) (by kernel_rfl) (by kernel_rfl) (fun _ _ _ h => False.elim h) (Or.inl ⟨by rfl, ?_⟩) (by assumption) ?_
              rotate_left
              · intro w hSw; (try dsimp only at hSw); go_simp; all_goals with_reducible rfl
              try simp only [Act.put, List.setIfInBounds_toArray, List.set_cons_zero, List.set_cons_succ]
              refine wpAnyH_take (i := 58) (oi := { dst := some 175, op := Op.move (Operand.tmp 174), type := 4, pos := "law.go:81", after := #[{ on := 57, ground := Ground.data }, { on := 56, ground := Ground.chain }], guard := none }) (v := ?_) rfl (by kernel_rfl) (by kernel_rfl) (by kernel_rfl) (fun _ _ _ h => False.elim h) (Or.inl ⟨by rfl, ?_⟩) (by assumption) ?_
              rotate_left
              · intro w hSw; (try dsimp only at hSw); go_simp; all_goals with_reducible rfl
              try simp only [Act.put, List.setIfInBounds_toArray, List.set_cons_zero, List.set_cons_succ]
              refine wpAnyH_ready (rs := [59]) (by kernel_rfl) (by simp) ?_
              refine AllReadyH.cons rfl (fun K hK => ?_) ?_
              · go_simp
                go_wp2_with (first | (go_at_call 13; with_reducible refine (qk _ ?_).mono ?_; (assumption); rintro e1 W9 ⟨rfl, C9⟩))
                refine hK.out _ _ ?_ (fun hHeld => ?_)
                · first | assumption | exact hal _ _ (by assumption) | exact hal _ _ (hal _ _ (by assumption))
                clear hK K
                refine wpAnyH_take (i := 60) (oi := { dst := some 177, op := Op.pick (Operand.tmp 175) (Operand.tmp 176) (Operand.const (Value.bool false)), type := 4, pos := "law.go:81", after := #[{ on := 58, ground := Ground.data }, { on := 59, ground := Ground.data }], guard := none }) (v := ?_) rfl (by kernel_rfl) (by kernel_rfl) (by kernel_rfl) (fun _ _ _ h => False.elim h) (Or.inl ⟨by rfl, ?_⟩) (by assumption) ?_
                rotate_left
                · intro w hSw; (try dsimp only at hSw); go_simp; all_goals with_reducible rfl
                try simp only [Act.put, List.setIfInBounds_toArray, List.set_cons_zero, List.set_cons_succ]
                refine wpAnyH_take (i := 61) (oi := { dst := some 0, op := Op.assign (Operand.tmp 177), type := 4, pos := "law.go:81", after := #[{ on := 60, ground := Ground.data }, { on := 59, ground := Ground.chain }, { on := 0, ground := Ground.phase }, { on := 1, ground := Ground.phase }, { on := 2, ground := Ground.phase }, { on := 3, ground := Ground.phase }, { on := 4, ground := Ground.phase }, { on := 5, ground := Ground.phase }, { on := 6, ground := Ground.phase }, { on := 7, ground := Ground.phase }, { on := 8, ground := Ground.phase }, { on := 9, ground := Ground.phase }, { on := 10, ground := Ground.phase }, { on := 11, ground := Ground.phase }, { on := 12, ground := Ground.phase }, { on := 13, ground := Ground.phase }, { on := 14, ground := Ground.phase }, { on := 15, ground := Ground.phase }, { on := 16, ground := Ground.phase }, { on := 17, ground := Ground.phase }, { on := 18, ground := Ground.phase }, { on := 19, ground := Ground.phase }, { on := 20, ground := Ground.phase }, { on := 21, ground := Ground.phase }, { on := 22, ground := Ground.phase }, { on := 23, ground := Ground.phase }, { on := 24, ground := Ground.phase }, { on := 25, ground := Ground.phase }, { on := 26, ground := Ground.phase }, { on := 27, ground := Ground.phase }, { on := 28, ground := Ground.phase }, { on := 29, ground := Ground.phase }, { on := 30, ground := Ground.phase }, { on := 31, ground := Ground.phase }, { on := 32, ground := Ground.phase }, { on := 33, ground := Ground.phase }, { on := 34, ground := Ground.phase }, { on := 35, ground := Ground.phase }, { on := 36, ground := Ground.phase }, { on := 37, ground := Ground.phase }, { on := 38, ground := Ground.phase }, { on := 39, ground := Ground.phase }, { on := 40, ground := Ground.phase }, { on := 41, ground := Ground.phase }, { on := 42, ground := Ground.phase }, { on := 43, ground := Ground.phase }, { on := 44, ground := Ground.phase }, { on := 45, ground := Ground.phase }, { on := 46, ground := Ground.phase }, { on := 47, ground := Ground.phase }, { on := 48, ground := Ground.phase }, { on := 49, ground := Ground.phase }, { on := 50, ground := Ground.phase }, { on := 51, ground := Ground.phase }, { on := 52, ground := Ground.phase }, { on := 53, ground := Ground.phase }, { on := 54, ground := Ground.phase }, { on := 55, ground := Ground.phase }, { on := 56, ground := Ground.phase }, { on := 57, ground := Ground.phase }, { on := 58, ground := Ground.phase }, { on := 59, ground := Ground.phase }, { on := 60, ground := Ground.phase }], guard := none }) (v := ?_) rfl (by kernel_rfl) (by kernel_rfl) (by kernel_rfl) (fun _ _ _ h => False.elim h) (Or.inl ⟨by rfl, ?_⟩) (by assumption) ?_
                rotate_left
                · intro w hSw; (try dsimp only at hSw); go_simp; all_goals with_reducible rfl
                try simp only [Act.put, List.setIfInBounds_toArray, List.set_cons_zero, List.set_cons_succ]
                refine wpAnyH_done (by kernel_rfl) ?_ _
                exact fin_mk ⟨_, rfl, by assumption⟩
              exact AllReadyH.nil
            exact AllReadyH.nil
          exact AllReadyH.nil
        exact AllReadyH.nil
      exact AllReadyH.nil
    refine AllReadyH.cons rfl (fun K hK => ?_) ?_
    · go_simp
      refine hK.out _ _ ?_ (fun hHeld => ?_)
      · first | assumption | exact hal _ _ (by assumption) | exact hal _ _ (hal _ _ (by assumption))
      clear hK K
      refine wpAnyH_take (i := 54) (oi := { dst := some 171, op := Op.build 25 #[(0, Operand.tmp 170)], type := 25, pos := "law.go:81", after := #[{ on := 53, ground := Ground.data }, { on := 48, ground := Ground.guard }], guard := some (48, true) }) (v := ?_) rfl (by kernel_rfl) (by kernel_rfl) (by kernel_rfl) (fun _ _ _ h => False.elim h) (Or.inl ⟨by rfl, ?_⟩) (by assumption) ?_
      rotate_left
      · intro w hSw; (try dsimp only at hSw); go_simp; all_goals with_reducible rfl
      try simp only [Act.put, List.setIfInBounds_toArray, List.set_cons_zero, List.set_cons_succ]
      refine wpAnyH_ready (rs := [49]) (by kernel_rfl) (by simp) ?_
      refine AllReadyH.cons rfl (fun K hK => ?_) ?_
      · go_simp
        refine hK.out _ _ ?_ (fun hHeld => ?_)
        · first | assumption | exact hal _ _ (by assumption) | exact hal _ _ (hal _ _ (by assumption))
        clear hK K
        refine wpAnyH_ready (rs := [50]) (by kernel_rfl) (by simp) ?_
        refine AllReadyH.cons rfl (fun K hK => ?_) ?_
        · go_simp
          refine hK.out _ _ ?_ (fun hHeld => ?_)
          · first | assumption | exact hal _ _ (by assumption) | exact hal _ _ (hal _ _ (by assumption))
          clear hK K
          refine wpAnyH_take (i := 51) (oi := { dst := some 168, op := Op.build 25 #[(0, Operand.tmp 167)], type := 25, pos := "law.go:81", after := #[{ on := 50, ground := Ground.data }, { on := 48, ground := Ground.guard }], guard := some (48, true) }) (v := ?_) rfl (by kernel_rfl) (by kernel_rfl) (by kernel_rfl) (fun _ _ _ h => False.elim h) (Or.inl ⟨by rfl, ?_⟩) (by assumption) ?_
          rotate_left
          · intro w hSw; (try dsimp only at hSw); go_simp; all_goals with_reducible rfl
          try simp only [Act.put, List.setIfInBounds_toArray, List.set_cons_zero, List.set_cons_succ]
          refine wpAnyH_ready (rs := [55]) (by kernel_rfl) (by simp) ?_
          refine AllReadyH.cons rfl (fun K hK => ?_) ?_
          · go_simp
            refine hK.out _ _ ?_ (fun hHeld => ?_)
            · first | assumption | exact hal _ _ (by assumption) | exact hal _ _ (hal _ _ (by assumption))
            clear hK K
            refine wpAnyH_ready (rs := [56]) (by kernel_rfl) (by simp) ?_
            refine AllReadyH.cons rfl (fun K hK => ?_) ?_
            · go_simp
              go_wp2_with (first | (go_at_call 12; with_reducible refine (qx _ ?_ _ _ ?_ ?_).mono ?_; (assumption); (omega); (omega); rintro e1 W9 ⟨rfl, C9⟩) | (go_at_call 12; with_reducible refine (qy _ ?_ _ _ ?_ ?_).mono ?_; (assumption); (omega); (omega); rintro e1 W9 ⟨rfl, C9⟩))
              refine hK.out _ _ ?_ (fun hHeld => ?_)
              · first | assumption | exact hal _ _ (by assumption) | exact hal _ _ (hal _ _ (by assumption))
              clear hK K
              refine wpAnyH_take (i := 57) (oi := { dst := some 174, op := Op.pick (Operand.tmp 165) (Operand.tmp 173) (Operand.const (Value.bool false)), type := 4, pos := "law.go:81", after := #[{ on := 48, ground := Ground.data }, { on := 56, ground := Ground.data }], guard := none }) (v := ?_) rfl (by kernel_rfl) (by kernel_rfl) (by kernel_rfl) (fun _ _ _ h => False.elim h) (Or.inl ⟨by rfl, ?_⟩) (by assumption) ?_
              rotate_left
              · intro w hSw; (try dsimp only at hSw); go_simp; all_goals with_reducible rfl
              try simp only [Act.put, List.setIfInBounds_toArray, List.set_cons_zero, List.set_cons_succ]
              refine wpAnyH_take (i := 58) (oi := { dst := some 175, op := Op.move (Operand.tmp 174), type := 4, pos := "law.go:81", after := #[{ on := 57, ground := Ground.data }, { on := 56, ground := Ground.chain }], guard := none }) (v := ?_) rfl (by kernel_rfl) (by kernel_rfl) (by kernel_rfl) (fun _ _ _ h => False.elim h) (Or.inl ⟨by rfl, ?_⟩) (by assumption) ?_
              rotate_left
              · intro w hSw; (try dsimp only at hSw); go_simp; all_goals with_reducible rfl
              try simp only [Act.put, List.setIfInBounds_toArray, List.set_cons_zero, List.set_cons_succ]
              refine wpAnyH_ready (rs := [59]) (by kernel_rfl) (by simp) ?_
              refine AllReadyH.cons rfl (fun K hK => ?_) ?_
              · go_simp
                go_wp2_with (first | (go_at_call 13; with_reducible refine (qk _ ?_).mono ?_; (assumption); rintro e1 W9 ⟨rfl, C9⟩))
                refine hK.out _ _ ?_ (fun hHeld => ?_)
                · first | assumption | exact hal _ _ (by assumption) | exact hal _ _ (hal _ _ (by assumption))
                clear hK K
                refine wpAnyH_take (i := 60) (oi := { dst := some 177, op := Op.pick (Operand.tmp 175) (Operand.tmp 176) (Operand.const (Value.bool false)), type := 4, pos := "law.go:81", after := #[{ on := 58, ground := Ground.data }, { on := 59, ground := Ground.data }], guard := none }) (v := ?_) rfl (by kernel_rfl) (by kernel_rfl) (by kernel_rfl) (fun _ _ _ h => False.elim h) (Or.inl ⟨by rfl, ?_⟩) (by assumption) ?_
                rotate_left
                · intro w hSw; (try dsimp only at hSw); go_simp; all_goals with_reducible rfl
                try simp only [Act.put, List.setIfInBounds_toArray, List.set_cons_zero, List.set_cons_succ]
                refine wpAnyH_take (i := 61) (oi := { dst := some 0, op := Op.assign (Operand.tmp 177), type := 4, pos := "law.go:81", after := #[{ on := 60, ground := Ground.data }, { on := 59, ground := Ground.chain }, { on := 0, ground := Ground.phase }, { on := 1, ground := Ground.phase }, { on := 2, ground := Ground.phase }, { on := 3, ground := Ground.phase }, { on := 4, ground := Ground.phase }, { on := 5, ground := Ground.phase }, { on := 6, ground := Ground.phase }, { on := 7, ground := Ground.phase }, { on := 8, ground := Ground.phase }, { on := 9, ground := Ground.phase }, { on := 10, ground := Ground.phase }, { on := 11, ground := Ground.phase }, { on := 12, ground := Ground.phase }, { on := 13, ground := Ground.phase }, { on := 14, ground := Ground.phase }, { on := 15, ground := Ground.phase }, { on := 16, ground := Ground.phase }, { on := 17, ground := Ground.phase }, { on := 18, ground := Ground.phase }, { on := 19, ground := Ground.phase }, { on := 20, ground := Ground.phase }, { on := 21, ground := Ground.phase }, { on := 22, ground := Ground.phase }, { on := 23, ground := Ground.phase }, { on := 24, ground := Ground.phase }, { on := 25, ground := Ground.phase }, { on := 26, ground := Ground.phase }, { on := 27, ground := Ground.phase }, { on := 28, ground := Ground.phase }, { on := 29, ground := Ground.phase }, { on := 30, ground := Ground.phase }, { on := 31, ground := Ground.phase }, { on := 32, ground := Ground.phase }, { on := 33, ground := Ground.phase }, { on := 34, ground := Ground.phase }, { on := 35, ground := Ground.phase }, { on := 36, ground := Ground.phase }, { on := 37, ground := Ground.phase }, { on := 38, ground := Ground.phase }, { on := 39, ground := Ground.phase }, { on := 40, ground := Ground.phase }, { on := 41, ground := Ground.phase }, { on := 42, ground := Ground.phase }, { on := 43, ground := Ground.phase }, { on := 44, ground := Ground.phase }, { on := 45, ground := Ground.phase }, { on := 46, ground := Ground.phase }, { on := 47, ground := Ground.phase }, { on := 48, ground := Ground.phase }, { on := 49, ground := Ground.phase }, { on := 50, ground := Ground.phase }, { on := 51, ground := Ground.phase }, { on := 52, ground := Ground.phase }, { on := 53, ground := Ground.phase }, { on := 54, ground := Ground.phase }, { on := 55, ground := Ground.phase }, { on := 56, ground := Ground.phase }, { on := 57, ground := Ground.phase }, { on := 58, ground := Ground.phase }, { on := 59, ground := Ground.phase }, { on := 60, ground := Ground.phase }], guard := none }) (v := ?_) rfl (by kernel_rfl) (by kernel_rfl) (by kernel_rfl) (fun _ _ _ h => False.elim h) (Or.inl ⟨by rfl, ?_⟩) (by assumption) ?_
                rotate_left
                · intro w hSw; (try dsimp only at hSw); go_simp; all_goals with_reducible rfl
                try simp only [Act.put, List.setIfInBounds_toArray, List.set_cons_zero, List.set_cons_succ]
                refine wpAnyH_done (by kernel_rfl) ?_ _
                exact fin_mk ⟨_, rfl, by assumption⟩
              exact AllReadyH.nil
            exact AllReadyH.nil
          exact AllReadyH.nil
        exact AllReadyH.nil
      exact AllReadyH.nil
    exact AllReadyH.nil
  exact AllReadyH.nil
end Go.Proofs.Yteeemfohehpaeaa
