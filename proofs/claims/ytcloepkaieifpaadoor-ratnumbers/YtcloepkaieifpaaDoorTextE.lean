/- The walk of rat.Parse, road by road. -/
import Derived.Test.YtcloepkaieifpaaDoorTextD
import Derived.Test.YtcloepkaieifpaaDoorMath2
namespace Go.Proofs.YtcloepkaieifpaaDoor
open Go.RowKit Go.Sort

theorem whole_some {s : ByteArray} {n : Int} (h : wholeV 10 s.data.toList = some n) (hs : s.size ≤ maxLen) (w : World) :
    Calls Tryd.prog 35 #[.string s] w fun e w' => e = .returned (.int .i64 n) ∧ w' = w :=
  (whole_any s w hs).mono fun _ _ ⟨he, hw⟩ => ⟨by rw [he]; unfold wholeE; rw [h], hw⟩
theorem whole_none {s : ByteArray} (h : wholeV 10 s.data.toList = none) (hs : s.size ≤ maxLen) (w : World) :
    Calls Tryd.prog 35 #[.string s] w fun e w' => e = .panicked [{ v := .iface 31 (.int .i64 12), recovered := false }] ∧ w' = w :=
  (whole_any s w hs).mono fun _ _ ⟨he, hw⟩ => ⟨by rw [he]; unfold wholeE; rw [h], hw⟩

set_option maxHeartbeats 1000000 in
theorem parse_bottom (w : World) (s : ByteArray) (a b : List UInt8) (hcut : s.data.toList = a ++ 47 :: b) (ha : 47 ∉ a) (hs : s.size ≤ maxLen) (zb : b.length ≤ maxLen) (hb : wholeV 10 b = none) :
    Calls Tryd.prog 15 #[.string s] w fun e w' => e = .returned (.tuple #[.agg #[.int .i64 0, .int .i64 0], .int .i64 12]) ∧ Below w.heap.size w w' := by
  have HC : Hid (s.data.toList = a ++ 47 :: b) := hcut
  clear hcut
  have hmf : ∀ (fn : Fn) (first cap : Array Value) (w : World), (Instr.makeFunc fn first cap).run Tryd.prog w = .ok (.func fn first cap) w := fun _ _ _ _ => rfl
  go_enter_defers Tryd.func15, Tryd.ntmps15
  go_wp2_with fail
  have H := Held.start w
  generalize ((w.alloc (.cells #[.int .i64 0, .int .i64 0] 26)).alloc (.cells #[.int .i64 0] 31)) = V at H ⊢
  refine (cut_some s a b HC.out ha hs V).mono ?_
  rintro e V1 ⟨rfl, nc, hV1⟩
  replace H : Held w V1 _ _ _ := H.step (hV1 ▸ below_drewN (Below.refl _ _) nc)
  clear hV1
  go_wp2_with fail
  refine (whole_none (s := ⟨b.toArray⟩) (by simpa using hb) zb V1).mono ?_
  rintro e w' ⟨rfl, hw'⟩
  rw [hw']
  clear hw' w'
  go_wp2
  refine leaves_cons (f := 33) (args := #[.pointer (some ⟨w.heap.size, 0, none⟩), .pointer (some ⟨w.heap.size + 1, 0, none⟩)]) (by simp) (by simp [go_sem]) ?_
  refine (back_panicking w _ _ _ _ H _ _ _).mono ?_
  rintro e u' w'' ⟨rfl, rfl, HF⟩
  have c0 := HF.c0
  have c1 := HF.c1
  have c2 := HF.c2
  simp [Leaves, settle, results, Tryd.results15, go_sem, c0, c1, c2]
  exact HF.bel

set_option maxHeartbeats 1000000 in
theorem parse_top1 (w : World) (s : ByteArray) (hcut : 47 ∉ s.data.toList) (hs : s.size ≤ maxLen) (ht : wholeV 10 s.data.toList = none) :
    Calls Tryd.prog 15 #[.string s] w fun e w' => e = .returned (.tuple #[.agg #[.int .i64 0, .int .i64 0], .int .i64 12]) ∧ Below w.heap.size w w' := by
  have hmf : ∀ (fn : Fn) (first cap : Array Value) (w : World), (Instr.makeFunc fn first cap).run Tryd.prog w = .ok (.func fn first cap) w := fun _ _ _ _ => rfl
  go_enter_defers Tryd.func15, Tryd.ntmps15
  go_wp2_with fail
  have H := Held.start w
  generalize ((w.alloc (.cells #[.int .i64 0, .int .i64 0] 26)).alloc (.cells #[.int .i64 0] 31)) = V at H ⊢
  refine (cut_none s hcut V).mono ?_
  rintro e V1 ⟨rfl, nc, hV1⟩
  replace H : Held w V1 _ _ _ := H.step (hV1 ▸ below_drewN (Below.refl _ _) nc)
  clear hV1
  go_wp2_with fail
  refine (whole_none (s := s) ht hs V1).mono ?_
  rintro e w' ⟨rfl, hw'⟩
  rw [hw']
  clear hw' w'
  go_wp2
  refine leaves_cons (f := 33) (args := #[.pointer (some ⟨w.heap.size, 0, none⟩), .pointer (some ⟨w.heap.size + 1, 0, none⟩)]) (by simp) (by simp [go_sem]) ?_
  refine (back_panicking w _ _ _ _ H _ _ _).mono ?_
  rintro e u' w'' ⟨rfl, rfl, HF⟩
  have c0 := HF.c0
  have c1 := HF.c1
  have c2 := HF.c2
  simp [Leaves, settle, results, Tryd.results15, go_sem, c0, c1, c2]
  exact HF.bel

set_option maxHeartbeats 1000000 in
theorem parse_top2 (w : World) (s : ByteArray) (a b : List UInt8) (hcut : s.data.toList = a ++ 47 :: b) (ha : 47 ∉ a) (hs : s.size ≤ maxLen) (za : a.length ≤ maxLen) (zb : b.length ≤ maxLen) (d : Int) (hb : wholeV 10 b = some d) (ht : wholeV 10 a = none) :
    Calls Tryd.prog 15 #[.string s] w fun e w' => e = .returned (.tuple #[.agg #[.int .i64 0, .int .i64 0], .int .i64 12]) ∧ Below w.heap.size w w' := by
  have HC : Hid (s.data.toList = a ++ 47 :: b) := hcut
  clear hcut
  have hmf : ∀ (fn : Fn) (first cap : Array Value) (w : World), (Instr.makeFunc fn first cap).run Tryd.prog w = .ok (.func fn first cap) w := fun _ _ _ _ => rfl
  go_enter_defers Tryd.func15, Tryd.ntmps15
  go_wp2_with fail
  have H := Held.start w
  generalize ((w.alloc (.cells #[.int .i64 0, .int .i64 0] 26)).alloc (.cells #[.int .i64 0] 31)) = V at H ⊢
  refine (cut_some s a b HC.out ha hs V).mono ?_
  rintro e V1 ⟨rfl, nc, hV1⟩
  replace H : Held w V1 _ _ _ := H.step (hV1 ▸ below_drewN (Below.refl _ _) nc)
  clear hV1
  go_wp2_with fail
  refine (whole_some (s := ⟨b.toArray⟩) (by simpa using hb) zb V1).mono ?_
  rintro e w' ⟨rfl, hw'⟩
  rw [hw']
  clear hw' w'
  go_wp2_with fail
  refine (whole_none (s := ⟨a.toArray⟩) (by simpa using ht) za V1).mono ?_
  rintro e w' ⟨rfl, hw'⟩
  rw [hw']
  clear hw' w'
  go_wp2
  refine leaves_cons (f := 33) (args := #[.pointer (some ⟨w.heap.size, 0, none⟩), .pointer (some ⟨w.heap.size + 1, 0, none⟩)]) (by simp) (by simp [go_sem]) ?_
  refine (back_panicking w _ _ _ _ H _ _ _).mono ?_
  rintro e u' w'' ⟨rfl, rfl, HF⟩
  have c0 := HF.c0
  have c1 := HF.c1
  have c2 := HF.c2
  simp [Leaves, settle, results, Tryd.results15, go_sem, c0, c1, c2]
  exact HF.bel

set_option maxHeartbeats 1000000 in
theorem parse_refused1 (w : World) (s : ByteArray) (hcut : 47 ∉ s.data.toList) (hs : s.size ≤ maxLen) (n : Int) (ht : wholeV 10 s.data.toList = some n) (hE : ¬ newE n 1 = 0) :
    Calls Tryd.prog 15 #[.string s] w fun e w' => e = .returned (.tuple #[.agg #[.int .i64 0, .int .i64 0], .int .i64 12]) ∧ Below w.heap.size w w' := by
  have n1 := wholeV_bd _ _ _ ht
  have hmf : ∀ (fn : Fn) (first cap : Array Value) (w : World), (Instr.makeFunc fn first cap).run Tryd.prog w = .ok (.func fn first cap) w := fun _ _ _ _ => rfl
  go_enter_defers Tryd.func15, Tryd.ntmps15
  go_wp2_with fail
  have H := Held.start w
  generalize ((w.alloc (.cells #[.int .i64 0, .int .i64 0] 26)).alloc (.cells #[.int .i64 0] 31)) = V at H ⊢
  refine (cut_none s hcut V).mono ?_
  rintro e V1 ⟨rfl, nc, hV1⟩
  replace H : Held w V1 _ _ _ := H.step (hV1 ▸ below_drewN (Below.refl _ _) nc)
  clear hV1
  go_wp2_with fail
  refine (whole_some (s := s) ht hs V1).mono ?_
  rintro e w' ⟨rfl, hw'⟩
  rw [hw']
  clear hw' w'
  go_wp2_with fail
  refine (new_any n 1 (by omega) (by omega) (by omega) (by omega) V1).mono ?_
  rintro e V2 ⟨rfl, hV2⟩
  replace H := H.step hV2
  clear hV2
  go_wp2_with fail
  refine (must_no _ _ _ hE V2).mono ?_
  rintro e V3 ⟨rfl, hV3⟩
  replace H := H.step hV3
  clear hV3
  go_wp2
  refine leaves_cons (f := 33) (args := #[.pointer (some ⟨w.heap.size, 0, none⟩), .pointer (some ⟨w.heap.size + 1, 0, none⟩)]) (by simp) (by simp [go_sem]) ?_
  refine (back_panicking w _ _ _ _ H _ _ _).mono ?_
  rintro e u' w'' ⟨rfl, rfl, HF⟩
  have c0 := HF.c0
  have c1 := HF.c1
  have c2 := HF.c2
  simp [Leaves, settle, results, Tryd.results15, go_sem, c0, c1, c2]
  exact HF.bel

set_option maxHeartbeats 1000000 in
theorem parse_other1 (w : World) (s : ByteArray) (hcut : 47 ∉ s.data.toList) (hs : s.size ≤ maxLen) (n : Int) (ht : wholeV 10 s.data.toList = some n) (hE : newE n 1 = 0) (hx : textL (newN n 1) (newD n 1) ≠ s.data.toList) (tab : Tab w) :
    Calls Tryd.prog 15 #[.string s] w fun e w' => e = .returned (.tuple #[.agg #[.int .i64 0, .int .i64 0], .int .i64 12]) ∧ Below w.heap.size w w' := by
  have n1 := wholeV_bd _ _ _ ht
  have HE : Hid (newE n 1 = 0) := hE
  have HX : Hid (textL (newN n 1) (newD n 1) ≠ s.data.toList) := hx
  obtain ⟨r1, r2, r3, r4, -⟩ := (rightB_iff _ _).1 (new_right n 1 hE)
  clear hE hx
  have hmf : ∀ (fn : Fn) (first cap : Array Value) (w : World), (Instr.makeFunc fn first cap).run Tryd.prog w = .ok (.func fn first cap) w := fun _ _ _ _ => rfl
  go_enter_defers Tryd.func15, Tryd.ntmps15
  go_wp2_with fail
  have H := Held.start w
  generalize ((w.alloc (.cells #[.int .i64 0, .int .i64 0] 26)).alloc (.cells #[.int .i64 0] 31)) = V at H ⊢
  refine (cut_none s hcut V).mono ?_
  rintro e V1 ⟨rfl, nc, hV1⟩
  replace H : Held w V1 _ _ _ := H.step (hV1 ▸ below_drewN (Below.refl _ _) nc)
  clear hV1
  go_wp2_with fail
  refine (whole_some (s := s) ht hs V1).mono ?_
  rintro e w' ⟨rfl, hw'⟩
  rw [hw']
  clear hw' w'
  go_wp2_with fail
  refine (new_any n 1 (by omega) (by omega) (by omega) (by omega) V1).mono ?_
  rintro e V2 ⟨rfl, hV2⟩
  replace H := H.step hV2
  clear hV2
  rw [HE.out]
  go_wp2_with fail
  refine (must_ok _ _ V2).mono ?_
  rintro e V3 ⟨rfl, hV3⟩
  replace H := H.step hV3
  clear hV3
  have H2 := H.set (.int .i64 (newN n 1)) (.int .i64 (newD n 1))
  obtain ⟨_, _, k0, k1, k2, l0, l1, l2⟩ := H
  go_wp2_with fail
  have HT := tab.below H2.bel
  generalize ((V3.setCell ⟨w.heap.size, 0, none⟩ (.int .i64 (newN n 1))).setCell ⟨w.heap.size, 1, none⟩ (.int .i64 (newD n 1))) = V4 at H2 HT ⊢
  clear k0 k1 k2 l0 l1 l2
  refine (text_any _ _ (by omega) (by omega) (by omega) (by omega) V4 HT).mono ?_
  rintro e V5 ⟨rfl, hV5⟩
  have H := H2.step hV5
  clear hV5 H2 HT
  have hne : (textL (newN n 1) (newD n 1) == s.toList) = false := by rw [ByteArray.toList_eq, beq_eq_false_iff_ne]; exact HX.out
  go_wp2
  refine leaves_cons (f := 33) (args := #[.pointer (some ⟨w.heap.size, 0, none⟩), .pointer (some ⟨w.heap.size + 1, 0, none⟩)]) (by simp) (by simp [go_sem]) ?_
  refine (back_panicking w _ _ _ _ H _ _ _).mono ?_
  rintro e u' w'' ⟨rfl, rfl, HF⟩
  have c0 := HF.c0
  have c1 := HF.c1
  have c2 := HF.c2
  simp [Leaves, settle, results, Tryd.results15, go_sem, c0, c1, c2]
  exact HF.bel

set_option maxHeartbeats 1000000 in
theorem parse_good1 (w : World) (s : ByteArray) (hcut : 47 ∉ s.data.toList) (hs : s.size ≤ maxLen) (n : Int) (ht : wholeV 10 s.data.toList = some n) (hE : newE n 1 = 0) (hx : textL (newN n 1) (newD n 1) = s.data.toList) (tab : Tab w) :
    Calls Tryd.prog 15 #[.string s] w fun e w' => e = .returned (.tuple #[.agg #[.int .i64 (newN n 1), .int .i64 (newD n 1)], .int .i64 0]) ∧ Below w.heap.size w w' := by
  have n1 := wholeV_bd _ _ _ ht
  have HE : Hid (newE n 1 = 0) := hE
  have HX : Hid (textL (newN n 1) (newD n 1) = s.data.toList) := hx
  obtain ⟨r1, r2, r3, r4, -⟩ := (rightB_iff _ _).1 (new_right n 1 hE)
  clear hE hx
  have hmf : ∀ (fn : Fn) (first cap : Array Value) (w : World), (Instr.makeFunc fn first cap).run Tryd.prog w = .ok (.func fn first cap) w := fun _ _ _ _ => rfl
  go_enter_defers Tryd.func15, Tryd.ntmps15
  go_wp2_with fail
  have H := Held.start w
  generalize ((w.alloc (.cells #[.int .i64 0, .int .i64 0] 26)).alloc (.cells #[.int .i64 0] 31)) = V at H ⊢
  refine (cut_none s hcut V).mono ?_
  rintro e V1 ⟨rfl, nc, hV1⟩
  replace H : Held w V1 _ _ _ := H.step (hV1 ▸ below_drewN (Below.refl _ _) nc)
  clear hV1
  go_wp2_with fail
  refine (whole_some (s := s) ht hs V1).mono ?_
  rintro e w' ⟨rfl, hw'⟩
  rw [hw']
  clear hw' w'
  go_wp2_with fail
  refine (new_any n 1 (by omega) (by omega) (by omega) (by omega) V1).mono ?_
  rintro e V2 ⟨rfl, hV2⟩
  replace H := H.step hV2
  clear hV2
  rw [HE.out]
  go_wp2_with fail
  refine (must_ok _ _ V2).mono ?_
  rintro e V3 ⟨rfl, hV3⟩
  replace H := H.step hV3
  clear hV3
  have H2 := H.set (.int .i64 (newN n 1)) (.int .i64 (newD n 1))
  obtain ⟨_, _, k0, k1, k2, l0, l1, l2⟩ := H
  go_wp2_with fail
  have HT := tab.below H2.bel
  generalize ((V3.setCell ⟨w.heap.size, 0, none⟩ (.int .i64 (newN n 1))).setCell ⟨w.heap.size, 1, none⟩ (.int .i64 (newD n 1))) = V4 at H2 HT ⊢
  clear k0 k1 k2 l0 l1 l2
  refine (text_any _ _ (by omega) (by omega) (by omega) (by omega) V4 HT).mono ?_
  rintro e V5 ⟨rfl, hV5⟩
  have H := H2.step hV5
  clear hV5 H2 HT
  have heq : (textL (newN n 1) (newD n 1) == s.toList) = true := by rw [ByteArray.toList_eq, beq_iff_eq]; exact HX.out
  have HF := (H.set (.int .i64 (newN n 1)) (.int .i64 (newD n 1))).set3 (.int .i64 0)
  obtain ⟨_, _, k0, k1, k2, l0, l1, l2⟩ := H
  go_wp2
  refine leaves_cons (f := 33) (args := #[.pointer (some ⟨w.heap.size, 0, none⟩), .pointer (some ⟨w.heap.size + 1, 0, none⟩)]) (by simp) (by simp [go_sem]) ?_
  refine (back_idle _ _ _).mono ?_
  rintro e u' w'' ⟨rfl, rfl, rfl⟩
  have c0 := HF.c0
  have c1 := HF.c1
  have c2 := HF.c2
  have hB := HF.bel
  generalize (((V5.setCell ⟨w.heap.size, 0, none⟩ (.int .i64 (newN n 1))).setCell ⟨w.heap.size, 1, none⟩ (.int .i64 (newD n 1))).setCell ⟨w.heap.size + 1, 0, none⟩ (.int .i64 0)) = F at c0 c1 c2 hB ⊢
  simp [Leaves, settle, results, Tryd.results15, go_sem, c0, c1, c2]
  exact hB

set_option maxHeartbeats 1000000 in
theorem parse_refused2 (w : World) (s : ByteArray) (a b : List UInt8) (hcut : s.data.toList = a ++ 47 :: b) (ha : 47 ∉ a) (hs : s.size ≤ maxLen) (za : a.length ≤ maxLen) (zb : b.length ≤ maxLen) (n d : Int) (hb : wholeV 10 b = some d) (ht : wholeV 10 a = some n) (hE : ¬ newE n d = 0) :
    Calls Tryd.prog 15 #[.string s] w fun e w' => e = .returned (.tuple #[.agg #[.int .i64 0, .int .i64 0], .int .i64 12]) ∧ Below w.heap.size w w' := by
  have n1 := wholeV_bd _ _ _ ht
  have n2 := wholeV_bd _ _ _ hb
  have HC : Hid (s.data.toList = a ++ 47 :: b) := hcut
  clear hcut
  have hmf : ∀ (fn : Fn) (first cap : Array Value) (w : World), (Instr.makeFunc fn first cap).run Tryd.prog w = .ok (.func fn first cap) w := fun _ _ _ _ => rfl
  go_enter_defers Tryd.func15, Tryd.ntmps15
  go_wp2_with fail
  have H := Held.start w
  generalize ((w.alloc (.cells #[.int .i64 0, .int .i64 0] 26)).alloc (.cells #[.int .i64 0] 31)) = V at H ⊢
  refine (cut_some s a b HC.out ha hs V).mono ?_
  rintro e V1 ⟨rfl, nc, hV1⟩
  replace H : Held w V1 _ _ _ := H.step (hV1 ▸ below_drewN (Below.refl _ _) nc)
  clear hV1
  go_wp2_with fail
  refine (whole_some (s := ⟨b.toArray⟩) (by simpa using hb) zb V1).mono ?_
  rintro e w' ⟨rfl, hw'⟩
  rw [hw']
  clear hw' w'
  go_wp2_with fail
  refine (whole_some (s := ⟨a.toArray⟩) (by simpa using ht) za V1).mono ?_
  rintro e w' ⟨rfl, hw'⟩
  rw [hw']
  clear hw' w'
  go_wp2_with fail
  refine (new_any n d (by omega) (by omega) (by omega) (by omega) V1).mono ?_
  rintro e V2 ⟨rfl, hV2⟩
  replace H := H.step hV2
  clear hV2
  go_wp2_with fail
  refine (must_no _ _ _ hE V2).mono ?_
  rintro e V3 ⟨rfl, hV3⟩
  replace H := H.step hV3
  clear hV3
  go_wp2
  refine leaves_cons (f := 33) (args := #[.pointer (some ⟨w.heap.size, 0, none⟩), .pointer (some ⟨w.heap.size + 1, 0, none⟩)]) (by simp) (by simp [go_sem]) ?_
  refine (back_panicking w _ _ _ _ H _ _ _).mono ?_
  rintro e u' w'' ⟨rfl, rfl, HF⟩
  have c0 := HF.c0
  have c1 := HF.c1
  have c2 := HF.c2
  simp [Leaves, settle, results, Tryd.results15, go_sem, c0, c1, c2]
  exact HF.bel

set_option maxHeartbeats 1000000 in
theorem parse_other2 (w : World) (s : ByteArray) (a b : List UInt8) (hcut : s.data.toList = a ++ 47 :: b) (ha : 47 ∉ a) (hs : s.size ≤ maxLen) (za : a.length ≤ maxLen) (zb : b.length ≤ maxLen) (n d : Int) (hb : wholeV 10 b = some d) (ht : wholeV 10 a = some n) (hE : newE n d = 0) (hx : textL (newN n d) (newD n d) ≠ s.data.toList) (tab : Tab w) :
    Calls Tryd.prog 15 #[.string s] w fun e w' => e = .returned (.tuple #[.agg #[.int .i64 0, .int .i64 0], .int .i64 12]) ∧ Below w.heap.size w w' := by
  have n1 := wholeV_bd _ _ _ ht
  have n2 := wholeV_bd _ _ _ hb
  have HC : Hid (s.data.toList = a ++ 47 :: b) := hcut
  clear hcut
  have HE : Hid (newE n d = 0) := hE
  have HX : Hid (textL (newN n d) (newD n d) ≠ s.data.toList) := hx
  obtain ⟨r1, r2, r3, r4, -⟩ := (rightB_iff _ _).1 (new_right n d hE)
  clear hE hx
  have hmf : ∀ (fn : Fn) (first cap : Array Value) (w : World), (Instr.makeFunc fn first cap).run Tryd.prog w = .ok (.func fn first cap) w := fun _ _ _ _ => rfl
  go_enter_defers Tryd.func15, Tryd.ntmps15
  go_wp2_with fail
  have H := Held.start w
  generalize ((w.alloc (.cells #[.int .i64 0, .int .i64 0] 26)).alloc (.cells #[.int .i64 0] 31)) = V at H ⊢
  refine (cut_some s a b HC.out ha hs V).mono ?_
  rintro e V1 ⟨rfl, nc, hV1⟩
  replace H : Held w V1 _ _ _ := H.step (hV1 ▸ below_drewN (Below.refl _ _) nc)
  clear hV1
  go_wp2_with fail
  refine (whole_some (s := ⟨b.toArray⟩) (by simpa using hb) zb V1).mono ?_
  rintro e w' ⟨rfl, hw'⟩
  rw [hw']
  clear hw' w'
  go_wp2_with fail
  refine (whole_some (s := ⟨a.toArray⟩) (by simpa using ht) za V1).mono ?_
  rintro e w' ⟨rfl, hw'⟩
  rw [hw']
  clear hw' w'
  go_wp2_with fail
  refine (new_any n d (by omega) (by omega) (by omega) (by omega) V1).mono ?_
  rintro e V2 ⟨rfl, hV2⟩
  replace H := H.step hV2
  clear hV2
  rw [HE.out]
  go_wp2_with fail
  refine (must_ok _ _ V2).mono ?_
  rintro e V3 ⟨rfl, hV3⟩
  replace H := H.step hV3
  clear hV3
  have H2 := H.set (.int .i64 (newN n d)) (.int .i64 (newD n d))
  obtain ⟨_, _, k0, k1, k2, l0, l1, l2⟩ := H
  go_wp2_with fail
  have HT := tab.below H2.bel
  generalize ((V3.setCell ⟨w.heap.size, 0, none⟩ (.int .i64 (newN n d))).setCell ⟨w.heap.size, 1, none⟩ (.int .i64 (newD n d))) = V4 at H2 HT ⊢
  clear k0 k1 k2 l0 l1 l2
  refine (text_any _ _ (by omega) (by omega) (by omega) (by omega) V4 HT).mono ?_
  rintro e V5 ⟨rfl, hV5⟩
  have H := H2.step hV5
  clear hV5 H2 HT
  have hne : (textL (newN n d) (newD n d) == s.toList) = false := by rw [ByteArray.toList_eq, beq_eq_false_iff_ne]; exact HX.out
  go_wp2
  refine leaves_cons (f := 33) (args := #[.pointer (some ⟨w.heap.size, 0, none⟩), .pointer (some ⟨w.heap.size + 1, 0, none⟩)]) (by simp) (by simp [go_sem]) ?_
  refine (back_panicking w _ _ _ _ H _ _ _).mono ?_
  rintro e u' w'' ⟨rfl, rfl, HF⟩
  have c0 := HF.c0
  have c1 := HF.c1
  have c2 := HF.c2
  simp [Leaves, settle, results, Tryd.results15, go_sem, c0, c1, c2]
  exact HF.bel

set_option maxHeartbeats 1000000 in
theorem parse_good2 (w : World) (s : ByteArray) (a b : List UInt8) (hcut : s.data.toList = a ++ 47 :: b) (ha : 47 ∉ a) (hs : s.size ≤ maxLen) (za : a.length ≤ maxLen) (zb : b.length ≤ maxLen) (n d : Int) (hb : wholeV 10 b = some d) (ht : wholeV 10 a = some n) (hE : newE n d = 0) (hx : textL (newN n d) (newD n d) = s.data.toList) (tab : Tab w) :
    Calls Tryd.prog 15 #[.string s] w fun e w' => e = .returned (.tuple #[.agg #[.int .i64 (newN n d), .int .i64 (newD n d)], .int .i64 0]) ∧ Below w.heap.size w w' := by
  have n1 := wholeV_bd _ _ _ ht
  have n2 := wholeV_bd _ _ _ hb
  have HC : Hid (s.data.toList = a ++ 47 :: b) := hcut
  clear hcut
  have HE : Hid (newE n d = 0) := hE
  have HX : Hid (textL (newN n d) (newD n d) = s.data.toList) := hx
  obtain ⟨r1, r2, r3, r4, -⟩ := (rightB_iff _ _).1 (new_right n d hE)
  clear hE hx
  have hmf : ∀ (fn : Fn) (first cap : Array Value) (w : World), (Instr.makeFunc fn first cap).run Tryd.prog w = .ok (.func fn first cap) w := fun _ _ _ _ => rfl
  go_enter_defers Tryd.func15, Tryd.ntmps15
  go_wp2_with fail
  have H := Held.start w
  generalize ((w.alloc (.cells #[.int .i64 0, .int .i64 0] 26)).alloc (.cells #[.int .i64 0] 31)) = V at H ⊢
  refine (cut_some s a b HC.out ha hs V).mono ?_
  rintro e V1 ⟨rfl, nc, hV1⟩
  replace H : Held w V1 _ _ _ := H.step (hV1 ▸ below_drewN (Below.refl _ _) nc)
  clear hV1
  go_wp2_with fail
  refine (whole_some (s := ⟨b.toArray⟩) (by simpa using hb) zb V1).mono ?_
  rintro e w' ⟨rfl, hw'⟩
  rw [hw']
  clear hw' w'
  go_wp2_with fail
  refine (whole_some (s := ⟨a.toArray⟩) (by simpa using ht) za V1).mono ?_
  rintro e w' ⟨rfl, hw'⟩
  rw [hw']
  clear hw' w'
  go_wp2_with fail
  refine (new_any n d (by omega) (by omega) (by omega) (by omega) V1).mono ?_
  rintro e V2 ⟨rfl, hV2⟩
  replace H := H.step hV2
  clear hV2
  rw [HE.out]
  go_wp2_with fail
  refine (must_ok _ _ V2).mono ?_
  rintro e V3 ⟨rfl, hV3⟩
  replace H := H.step hV3
  clear hV3
  have H2 := H.set (.int .i64 (newN n d)) (.int .i64 (newD n d))
  obtain ⟨_, _, k0, k1, k2, l0, l1, l2⟩ := H
  go_wp2_with fail
  have HT := tab.below H2.bel
  generalize ((V3.setCell ⟨w.heap.size, 0, none⟩ (.int .i64 (newN n d))).setCell ⟨w.heap.size, 1, none⟩ (.int .i64 (newD n d))) = V4 at H2 HT ⊢
  clear k0 k1 k2 l0 l1 l2
  refine (text_any _ _ (by omega) (by omega) (by omega) (by omega) V4 HT).mono ?_
  rintro e V5 ⟨rfl, hV5⟩
  have H := H2.step hV5
  clear hV5 H2 HT
  have heq : (textL (newN n d) (newD n d) == s.toList) = true := by rw [ByteArray.toList_eq, beq_iff_eq]; exact HX.out
  have HF := (H.set (.int .i64 (newN n d)) (.int .i64 (newD n d))).set3 (.int .i64 0)
  obtain ⟨_, _, k0, k1, k2, l0, l1, l2⟩ := H
  go_wp2
  refine leaves_cons (f := 33) (args := #[.pointer (some ⟨w.heap.size, 0, none⟩), .pointer (some ⟨w.heap.size + 1, 0, none⟩)]) (by simp) (by simp [go_sem]) ?_
  refine (back_idle _ _ _).mono ?_
  rintro e u' w'' ⟨rfl, rfl, rfl⟩
  have c0 := HF.c0
  have c1 := HF.c1
  have c2 := HF.c2
  have hB := HF.bel
  generalize (((V5.setCell ⟨w.heap.size, 0, none⟩ (.int .i64 (newN n d))).setCell ⟨w.heap.size, 1, none⟩ (.int .i64 (newD n d))).setCell ⟨w.heap.size + 1, 0, none⟩ (.int .i64 0)) = F at c0 c1 c2 hB ⊢
  simp [Leaves, settle, results, Tryd.results15, go_sem, c0, c1, c2]
  exact hB

end Go.Proofs.YtcloepkaieifpaaDoor
