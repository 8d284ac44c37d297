/- The walk of DiskKeeps. -/
import Derived.Test.YtadnbdkbjajgdaaKnown
import Derived.Test.YtadnbdkbjajgdaaNames
namespace Go.Proofs.Ytadnbdkbjajgdaa
open Go.RowKit Go.Sort

theorem used_put_le {l : List Fl} (h : Rising l) (f : Fl) : used (put l f) ≤ used l + f.data.length := by
  rw [used_put]; have := used_parts h f.name; omega

def nX : ByteArray := ⟨#[120]⟩
def nY : ByteArray := ⟨#[121]⟩
def nZ : ByteArray := ⟨#[122]⟩

/-- What is kept of a row of bytes. -/
def kept (keep : Int) (l : List Int) : List Int := l.take (min keep.toNat l.length)

theorem keeps_run (A B C : List Int) (ha : A.length ≤ 100) (hb : B.length ≤ 100) (hc : C.length ≤ 100) (keep : Int) :
    ∃ D1 D2 D3 D4 D5 D6 D7, (⟨1000, [], 0, false⟩ : Dm).create nX = (D1, 0) ∧ D1.append nX A = (D2, 0) ∧ D2.sync nX = (D3, 0) ∧ D3.append nX B = (D4, 0) ∧ D4.create nY = (D5, 0) ∧ D5.append nY C = (D6, 0) ∧ D6.rename nX nZ = (D7, 0) ∧
      (D1.files.length ≤ 9 ∧ D2.files.length ≤ 9 ∧ D3.files.length ≤ 9 ∧ D4.files.length ≤ 9 ∧ D5.files.length ≤ 9 ∧ D6.files.length ≤ 9 ∧ D7.files.length ≤ 9) ∧
      rd (D7.crash keep).files nZ = A ++ kept keep B ∧ (get (D7.crash keep).files nZ).isSome = true ∧ rd (D7.crash keep).files nY = kept keep C ∧ (get (D7.crash keep).files nY).isSome = true ∧ (get (D7.crash keep).files nX).isSome = false := by
  obtain ⟨f1, e1⟩ : ∃ f1, f1 = put [] ⟨nX, [], 0⟩ := ⟨_, rfl⟩
  have r1 : Rising f1 := e1 ▸ rising_put rising_nil _
  have g1 : get f1 nX = some ⟨nX, [], 0⟩ := by rw [e1, get_put rising_nil]; simp
  have u1 : used f1 ≤ 0 := by rw [e1]; exact Nat.le_trans (used_put_le rising_nil _) (by simp [used])
  have l1 : f1.length ≤ 1 := by rw [e1]; exact length_put rising_nil _
  obtain ⟨f2, e2⟩ : ∃ f2, f2 = put f1 ⟨nX, [] ++ A, 0⟩ := ⟨_, rfl⟩
  have r2 : Rising f2 := e2 ▸ rising_put r1 _
  have g2 : get f2 nX = some ⟨nX, A, 0⟩ := by rw [e2, get_put r1]; simp
  have u2 : used f2 ≤ 100 := by rw [e2]; have := used_put_le r1 ⟨nX, [] ++ A, 0⟩; simp at this ⊢; omega
  have l2 : f2.length ≤ 2 := by rw [e2]; have := length_put r1 ⟨nX, [] ++ A, 0⟩; omega
  obtain ⟨f3, e3⟩ : ∃ f3, f3 = put f2 ⟨nX, A, A.length⟩ := ⟨_, rfl⟩
  have r3 : Rising f3 := e3 ▸ rising_put r2 _
  have g3 : get f3 nX = some ⟨nX, A, A.length⟩ := by rw [e3, get_put r2]; simp
  have u3 : used f3 ≤ 200 := by rw [e3]; have := used_put_le r2 ⟨nX, A, A.length⟩; simp at this ⊢; omega
  have l3 : f3.length ≤ 3 := by rw [e3]; have := length_put r2 ⟨nX, A, A.length⟩; omega
  obtain ⟨f4, e4⟩ : ∃ f4, f4 = put f3 ⟨nX, A ++ B, A.length⟩ := ⟨_, rfl⟩
  have r4 : Rising f4 := e4 ▸ rising_put r3 _
  have g4 : get f4 nX = some ⟨nX, A ++ B, A.length⟩ := by rw [e4, get_put r3]; simp
  have u4 : used f4 ≤ 400 := by rw [e4]; have := used_put_le r3 ⟨nX, A ++ B, A.length⟩; simp at this ⊢; omega
  have l4 : f4.length ≤ 4 := by rw [e4]; have := length_put r3 ⟨nX, A ++ B, A.length⟩; omega
  obtain ⟨f5, e5⟩ : ∃ f5, f5 = put f4 ⟨nY, [], 0⟩ := ⟨_, rfl⟩
  have r5 : Rising f5 := e5 ▸ rising_put r4 _
  have g5 : get f5 nY = some ⟨nY, [], 0⟩ := by rw [e5, get_put r4]; simp
  have u5 : used f5 ≤ 400 := by rw [e5]; have := used_put_le r4 ⟨nY, [], 0⟩; simp at this ⊢; omega
  have l5 : f5.length ≤ 5 := by rw [e5]; have := length_put r4 ⟨nY, [], 0⟩; omega
  have hxy : ¬ nY = nX := by decide
  have hzx : ¬ nZ = nX := by decide
  have hzy : ¬ nZ = nY := by decide
  have hxy' : ¬ nX = nY := by decide
  have g5x : get f5 nX = some ⟨nX, A ++ B, A.length⟩ := by rw [e5, get_put r4]; simp [hxy, g4]
  obtain ⟨f6, e6⟩ : ∃ f6, f6 = put f5 ⟨nY, [] ++ C, 0⟩ := ⟨_, rfl⟩
  have r6 : Rising f6 := e6 ▸ rising_put r5 _
  have g6y : get f6 nY = some ⟨nY, C, 0⟩ := by rw [e6, get_put r5]; simp
  have g6x : get f6 nX = some ⟨nX, A ++ B, A.length⟩ := by rw [e6, get_put r5]; simp [hxy, g5x]
  have l6 : f6.length ≤ 6 := by rw [e6]; have := length_put r5 ⟨nY, [] ++ C, 0⟩; omega
  have rd6 := rising_del r6 nX
  obtain ⟨f7, e7⟩ : ∃ f7, f7 = put (del f6 nX) ⟨nZ, A ++ B, A.length⟩ := ⟨_, rfl⟩
  have g7z : get f7 nZ = some ⟨nZ, A ++ B, A.length⟩ := by rw [e7, get_put rd6]; simp
  have g7y : get f7 nY = some ⟨nY, C, 0⟩ := by rw [e7, get_put rd6, get_del r6]; simp [hzy, hxy', g6y]
  have g7x : get f7 nX = none := by rw [e7, get_put rd6, get_del r6]; simp [hzx]
  have l7 : f7.length ≤ 7 := by rw [e7]; have := length_put rd6 ⟨nZ, A ++ B, A.length⟩; have := length_del r6 nX; omega
  have c : ∀ nm, get ((⟨1000, f7, 0, false⟩ : Dm).crash keep).files nm = (get f7 nm).map (fun f => f.crash keep) := fun nm => get_map f7 (fun f => f.crash keep) (fun f => rfl) nm
  refine ⟨⟨1000, f1, 0, false⟩, ⟨1000, f2, 0, false⟩, ⟨1000, f3, 0, false⟩, ⟨1000, f4, 0, false⟩, ⟨1000, f5, 0, false⟩, ⟨1000, f6, 0, false⟩, ⟨1000, f7, 0, false⟩, ?_, ?_, ?_, ?_, ?_, ?_, ?_, ⟨by simp; omega, by simp; omega, by simp; omega, by simp; omega, by simp; omega, by simp; omega, by simp; omega⟩, ?_, ?_, ?_, ?_, ?_⟩
  · rw [create_calm rfl rfl rfl, e1]
  · rw [append_calm (d := ⟨1000, f1, 0, false⟩) rfl rfl g1 A (by simp; omega), e2]
  · rw [sync_calm (d := ⟨1000, f2, 0, false⟩) rfl rfl g2, e3]
  · rw [append_calm (d := ⟨1000, f3, 0, false⟩) rfl rfl g3 B (by simp; omega), e4]
  · rw [create_calm (d := ⟨1000, f4, 0, false⟩) rfl rfl rfl, e5]
  · rw [append_calm (d := ⟨1000, f5, 0, false⟩) rfl rfl g5 C (by simp; omega), e6]
  · rw [rename_calm (d := ⟨1000, f6, 0, false⟩) rfl rfl g6x rfl, e7]
  · unfold rd
    rw [c, g7z]
    simp only [Option.map_some, Option.getD_some, Fl.crash, kept]
    rw [List.take_length_add_append, List.length_append, Nat.add_sub_cancel_left]
  · rw [c, g7z]; rfl
  · unfold rd
    rw [c, g7y]
    simp [Fl.crash, kept]
  · rw [c, g7y]; rfl
  · rw [c, g7x]; rfl

theorem wfun_id (n lo hi : Int) (h1 : lo ≤ n) (h2 : n ≤ hi) : wfun n lo hi = n := by unfold wfun; rw [if_pos ⟨h1, h2⟩]

theorem within_id (K m : Nat) (h : K ≤ m) (hm : m ≤ 1000000) (w : World) : Calls Try.prog 15 #[.int .i64 K, .int .i64 0, .int .i64 m] w fun e w' => e = .returned (.int .i64 K) ∧ w = w' := by
  have := within_eq K 0 m (by omega) (by omega) (by omega) (by omega) (by omega) w
  rw [wfun_id K 0 m (by omega) (by omega)] at this
  exact this

/-- 'append' under a guard that said yes, at a step of a region that draws. -/
theorem step_app_g {ops : Array Oper} {o : Oper} {a : Act} {w : World} {K : Act → World → Prop} {Q : Exit → Act → World → Prop} {E : Prop}
    (hw : Region.wanted o (yielded ops a.tmps) = true) (s x : Operand) (hop : o.op = Op.call { callee := Callee.builtin Builtin.append, args := #[s, x], argTypes := #[31, 31] })
    (v : Value) (n : Nat) (xs : List Int) (hs : a.eval s = v) (hown : w.ownsRow 0 5 1 v n (xs.map (Value.int .u8)))
    (ao : Option Addr) (m c : Nat) (ys : List Int) (hx : a.eval x = .slice ao m c) (ht : Tx w ao m c ys) (b : n + m ≤ 1000000000)
    (hK : ∀ bo' n' cap' w', Hid (n' = n + m) → w'.ownsRow 0 5 1 (.slice bo' n' cap') n' ((xs ++ ys).map (Value.int .u8)) → Off (own v) w w' → (∀ k ∈ own (.slice bo' n' cap'), k ∈ own v ∨ w.heap.size ≤ k) → K (a.put o.dst (.slice bo' n' cap')) w') :
    if Region.wanted o (yielded ops a.tmps) = true then Oper.wp Try.prog o a w K Q else E := by
  rw [if_pos hw]
  obtain ⟨v', w', hrun, hown', hoff, hsub⟩ := run_app w o.type v n xs hown ao m c ys ht b
  obtain ⟨bo', cap', rfl⟩ := own_form hown'
  unfold Oper.wp
  simp [execOp, hop, resolve, invoke, builtin, hs, hx, hrun, Result.andThen]
  exact hK bo' (n + m) cap' w' rfl hown' hoff hsub

theorem own_from {w W : World} {v v' : Value} (hb : w.heap.size ≤ W.heap.size) (hv : ∀ k ∈ own v, w.heap.size ≤ k) (hsub : ∀ k ∈ own v', k ∈ own v ∨ W.heap.size ≤ k) : ∀ k ∈ own v', w.heap.size ≤ k := fun k hk => (hsub k hk).elim (hv k) (Nat.le_trans hb)
theorem own_string {w : World} {o : Option Addr} {n p : Nat} {zs : List Int} (h : w.ownsRow 0 5 1 (.slice o n p) n (zs.map (Value.int .u8))) (hr : ∀ n ∈ zs, 0 ≤ n ∧ n ≤ 255) : (convert 31 9 (.slice o n p)).run Try.prog w = .ok (.string (strOfNums zs)) w := by
  obtain ⟨ao, cap, e, t⟩ := Tx.own h hr
  cases e
  exact t.string

theorem own_emptyD (w : World) : ((w.alloc (.cells #[] 5)).drew).ownsRow 0 5 1 (.slice (some ⟨w.heap.size, 0, none⟩) 0 0) 0 (([] : List Int).map (Value.int .u8)) :=
  ⟨rfl, .inr ⟨w.heap.size, 0, #[], rfl, Nat.zero_le _, by show (w.heap.push _)[w.heap.size]? = _; simp, Nat.le_refl _, by unfold maxLen; omega, rfl, rfl⟩⟩

/-- What the last region of DiskKeeps finds. -/
theorem below_app {w W w' : World} {v : Value} (hb : Below w.heap.size w W) (ho : Off (own v) W w') (hv : ∀ k ∈ own v, w.heap.size ≤ k) : Below w.heap.size w w' := hb.trans (ho.below hv hb.size)

set_option maxHeartbeats 20000000 in
set_option maxRecDepth 100000 in
theorem keeps_walk (ao : Option Addr) (la ca : Nat) (xs : List Int) (bo : Option Addr) (lb cb : Nat) (ys : List Int) (co : Option Addr) (lc cc : Nat) (zs : List Int) (keep : Int) (h1 : -9223372036854775808 ≤ keep) (h2 : keep ≤ 9223372036854775807) (w : World) (ha : Tx w ao la ca xs) (hb : Tx w bo lb cb ys) (hc : Tx w co lc cc zs) :
    Calls Try.prog 5 #[.slice ao la ca, .slice bo lb cb, .slice co lc cc, .int .i64 keep] w fun e w' => e = .returned (.bool true) ∧ Below w.heap.size w w' := by
  obtain ⟨D1, D2, D3, D4, D5, D6, D7, e1, e2, e3, e4, e5, e6, e7, ⟨n1, n2, n3, n4, n5, n6, n7⟩, q1, q2, q3, q4, q5⟩ := keeps_run (xs.take 100) (ys.take 100) (zs.take 100) (by simp; omega) (by simp; omega) (by simp; omega) keep
  have E : Hid ((⟨1000, [], 0, false⟩ : Dm).create ⟨#[120]⟩ = (D1, 0) ∧ D1.append ⟨#[120]⟩ (xs.take 100) = (D2, 0) ∧ D2.sync ⟨#[120]⟩ = (D3, 0) ∧ D3.append ⟨#[120]⟩ (ys.take 100) = (D4, 0) ∧ D4.create ⟨#[121]⟩ = (D5, 0) ∧ D5.append ⟨#[121]⟩ (zs.take 100) = (D6, 0) ∧ D6.rename ⟨#[120]⟩ ⟨#[122]⟩ = (D7, 0)) := ⟨e1, e2, e3, e4, e5, e6, e7⟩
  have R : Hid (rd (D7.crash keep).files ⟨#[122]⟩ = xs.take 100 ++ kept keep (ys.take 100) ∧ (get (D7.crash keep).files ⟨#[122]⟩).isSome = true ∧ rd (D7.crash keep).files ⟨#[121]⟩ = kept keep (zs.take 100) ∧ (get (D7.crash keep).files ⟨#[121]⟩).isSome = true ∧ (get (D7.crash keep).files ⟨#[120]⟩).isSome = false) := ⟨q1, q2, q3, q4, q5⟩
  have n8 : (D7.crash keep).files.length ≤ 9 := by show (D7.files.map _).length ≤ 9; rw [List.length_map]; exact n7
  obtain ⟨ob, hob⟩ : ∃ ob, Hid (rd (D7.crash keep).files ⟨#[120]⟩ = ob) := ⟨_, rfl⟩
  clear e1 e2 e3 e4 e5 e6 e7 q1 q2 q3 q4 q5
  have hl0 : (⟨1000, [], 0, false⟩ : Dm).files.length ≤ 1000000 := by simp
  have hs1 : (⟨#[120]⟩ : ByteArray).size ≤ 9223372036854775807 := by decide
  have hs2 : (⟨#[121]⟩ : ByteArray).size ≤ 9223372036854775807 := by decide
  have hs3 : (⟨#[122]⟩ : ByteArray).size ≤ 9223372036854775807 := by decide
  go_enter Try.func5, Try.ntmps5
  go_wp2_with (first
    | (go_at_call 9; with_reducible refine (new_l 1000 1000 rfl (by omega) w).mono ?_; rintro e w1 ⟨rfl, d1, b1⟩)
    | (go_at_call 16; with_reducible refine (kcut_any ao la ca 100 100 rfl xs w ha (by omega) w1).mono ?_; rintro e wx ⟨l0, rfl, hl0', tA, rfl⟩)
    | (go_at_call 16; with_reducible refine (kcut_any bo lb cb 100 100 rfl ys w hb (by omega) w1).mono ?_; rintro e wx ⟨m0, rfl, hm0', tB, rfl⟩)
    | (go_at_call 16; with_reducible refine (kcut_any co lc cc 100 100 rfl zs w hc (by omega) w1).mono ?_; rintro e wx ⟨k0, rfl, hk0', tC, rfl⟩)
    | (go_at_call 17; with_reducible refine (create_l d1 ⟨#[120]⟩ D1 0 E.out.1 hl0 hs1).mono ?_; rintro e w2 ⟨rfl, d2, b2⟩; have c2 := b1.trans b2)
    | (go_at_call 18; with_reducible refine (append_l d2 ⟨#[120]⟩ ao l0 ca (xs.take 100) w2 (Below.refl _ _) (tA.later c2) (fun ad h1 h2 => .inl (tA.low ad h1 h2)) (by omega) D2 0 E.out.2.1 (by omega)).mono ?_; rintro e w3 ⟨rfl, d3, b3⟩; have c3 := c2.trans b3)
    | (go_at_call 19; with_reducible refine (sync_l d3 ⟨#[120]⟩ D3 0 E.out.2.2.1 (by omega)).mono ?_; rintro e w4 ⟨rfl, d4, b4⟩; have c4 := c3.trans b4)
    | (go_at_call 18; with_reducible refine (append_l d4 ⟨#[120]⟩ bo m0 cb (ys.take 100) w4 (Below.refl _ _) (tB.later c4) (fun ad h1 h2 => .inl (tB.low ad h1 h2)) (by omega) D4 0 E.out.2.2.2.1 (by omega)).mono ?_; rintro e w5 ⟨rfl, d5, b5⟩; have c5 := c4.trans b5)
    | (go_at_call 17; with_reducible refine (create_l d5 ⟨#[121]⟩ D5 0 E.out.2.2.2.2.1 (by omega) hs2).mono ?_; rintro e w6 ⟨rfl, d6, b6⟩; have c6 := c5.trans b6)
    | (go_at_call 18; with_reducible refine (append_l d6 ⟨#[121]⟩ co k0 cc (zs.take 100) w6 (Below.refl _ _) (tC.later c6) (fun ad h1 h2 => .inl (tC.low ad h1 h2)) (by omega) D6 0 E.out.2.2.2.2.2.1 (by omega)).mono ?_; rintro e w7 ⟨rfl, d7, b7⟩; have c7 := c6.trans b7)
    | (go_at_call 20; with_reducible refine (rename_l d7 ⟨#[120]⟩ ⟨#[122]⟩ D7 0 E.out.2.2.2.2.2.2 (by omega) hs3).mono ?_; rintro e w8 ⟨rfl, d8, b8⟩; have c8 := c7.trans b8)
    | (go_at_call 21; with_reducible refine (crash_l d8 keep (by omega) h1 h2).mono ?_; rintro e w9 ⟨rfl, d9, b9⟩; have c9 := c8.trans b9)
    | (go_at_call 22; with_reducible refine (read_l d9 ⟨#[122]⟩ _ true R.out.1 R.out.2.1 (by omega)).mono ?_; rintro e w10 ⟨xo, lx, cx, rfl, tx, d10, b10⟩; have c10 := c9.trans (b10.mono d9.size))
    | (go_at_call 22; with_reducible refine (read_l d10 ⟨#[121]⟩ _ true R.out.2.2.1 R.out.2.2.2.1 (by omega)).mono ?_; rintro e w11 ⟨yo, ly, cy, rfl, ty, d11, b11⟩; have c11 := c10.trans (b11.mono d10.size); have tx1 := tx.later b11)
    | (go_at_call 22; with_reducible refine (read_l d11 ⟨#[120]⟩ ob false hob.out R.out.2.2.2.2 (by omega)).mono ?_; rintro e w12 ⟨oo, lo', co', rfl, to, d12, b12⟩; have c12 := c11.trans (b12.mono d11.size); have tx2 := tx1.later b12; have ty2 := ty.later b12)
    | fail)
  -- HERE
  have hB1 := tB.le
  have hB2 := tB.top
  have hC1 := tC.le
  have hC2 := tC.top
  have hB3 := tB.len_eq
  have hC3 := tC.len_eq
  have tA2 := tA.later c12
  have hA1 := tA.len_eq
  have tB2 := tB.later c12
  have tC2 := tC.later c12
  have k12 := known_any
  clear E R hob tA tB tC d1 d2 d3 d4 d5 d6 d7 d8 d9 d10 d11 d12 b1 b2 b3 b4 b5 b6 b7 b8 b9 b10 b11 b12 c2 c3 c4 c5 c6 c7 c8 c9 c10 c11 tx tx1 ty to n1 n2 n3 n4 n5 n6 n7 n8 hl0 hs1 hs2 hs3
  unfold maxLen at hB2 hC2
  by_cases hk : keep < 0
  · have hneg : ¬ (m0 : Int) < keep := by omega
    have hneg2 : ¬ (k0 : Int) < keep := by omega
    have kb : kept keep (ys.take 100) = (ys.take 100).take 0 := by unfold kept; congr 1; omega
    have kc : kept keep (zs.take 100) = (zs.take 100).take 0 := by unfold kept; congr 1; omega
    have tBn := tB2.take 0 (by omega)
    have tCm := tC2.take 0 (by omega)
    rw [kb] at tx2
    rw [kc] at ty2
    obtain ⟨SX, hSX⟩ : ∃ SX, Hid (strOfNums (xs.take 100 ++ (ys.take 100).take 0) = SX) := ⟨_, rfl⟩
    obtain ⟨SY, hSY⟩ : ∃ SY, Hid (strOfNums ((zs.take 100).take 0) = SY) := ⟨_, rfl⟩
    have hcx : ∀ w', Below w12.heap.size w12 w' → (convert 31 9 (.slice xo lx cx)).run Try.prog w' = .ok (.string SX) w' := fun w' hb => by rw [(tx2.later hb).string, hSX.out]
    have hcy : ∀ w', Below w12.heap.size w12 w' → (convert 31 9 (.slice yo ly cy)).run Try.prog w' = .ok (.string SY) w' := fun w' hb => by rw [(ty2.later hb).string, hSY.out]
    have hcc : ∀ w', Below w12.heap.size w12 w' → (convert 31 9 (.slice co 0 cc)).run Try.prog w' = .ok (.string SY) w' := fun w' hb => by rw [(tCm.later hb).string, hSY.out]
    clear kb kc
    go_wp2_with (first
      | (go_at_call 15; with_reducible refine (within_eq keep 0 m0 h1 h2 (by omega) (by omega) (by omega) w12).mono ?_; rintro e wz ⟨rfl, rfl⟩)
      | (go_at_call 15; with_reducible refine (within_eq keep 0 k0 h1 h2 (by omega) (by omega) (by omega) w12).mono ?_; rintro e wz ⟨rfl, rfl⟩)
      | fail)
    have rAB : ∀ n ∈ ([] ++ xs.take 100) ++ (ys.take 100).take 0, 0 ≤ n ∧ n ≤ 255 := fun n hn => (List.mem_append.1 hn).elim (tA2.rng n) (tBn.rng n)
    have hSX2 : Hid (strOfNums (([] ++ xs.take 100) ++ (ys.take 100).take 0) = SX) := hSX
    go_region_held_law (fun w' => Below w12.heap.size w12 w') (first | assumption | exact (Below.refl _ _).drew | exact Below.alloc (by assumption) (Below.size (by assumption)) _) (first
      | (refine step_app_g (by kernel_rfl) (.tmp 124) (.tmp 125) rfl (.slice (some ⟨w12.heap.size, 0, none⟩) 0 0) 0 [] (by simp [Act.eval]) (own_emptyD w12) ao l0 ca (xs.take 100) (by simp [Act.eval]) (tA2.later (by assumption)) (by omega) ?_; intro o5 q5 p5 w5 h5 hown5 hoff5 hsub5; have B5 : Below w12.heap.size w12 w5 := below_app (by assumption) hoff5 (by simp [own, Value.ownBlock]); have O5 := own_from (w := w12) (by simp) (by simp [own, Value.ownBlock]) hsub5; have h5' : q5 ≤ 100 := (by have := h5.out; omega))
      | (refine step_app_g (by kernel_rfl) (.tmp 126) (.tmp 129) rfl (.slice o5 q5 p5) q5 ([] ++ xs.take 100) (by simp [Act.eval, Act.put]) hown5 bo 0 cb ((ys.take 100).take 0) (by simp [Act.eval, Act.put]) (tBn.later B5) (by omega) ?_; intro o6 q6 p6 w6 h6 hown6 hoff6 hsub6; have B6 : Below w12.heap.size w12 w6 := below_app B5 hoff6 O5; have s6 := own_string hown6 rAB; rw [hSX2.out] at s6)
      | (go_at_call 14; with_reducible refine (k12 _).mono ?_; rintro e w9 ⟨rfl, b9⟩; have B9 : Below w12.heap.size w12 w9 := B6.trans (b9.mono B6.size)))
    all_goals
      go_wp2
      go_ret
      exact ⟨rfl, c12.trans (B9.mono c12.size)⟩
  · obtain ⟨K, rfl⟩ : ∃ K : Nat, keep = (K : Int) := ⟨keep.toNat, by omega⟩
    clear hk
    by_cases hm : K ≤ m0
    · by_cases hn : K ≤ k0
      · have g0 : ¬ (K : Int) < 0 := by omega
        have g1 : ¬ (m0 : Int) < (K : Int) := by omega
        have g2 : ¬ (k0 : Int) < (K : Int) := by omega
        have kb : kept (K : Int) (ys.take 100) = (ys.take 100).take K := by unfold kept; congr 1; omega
        have kc : kept (K : Int) (zs.take 100) = (zs.take 100).take K := by unfold kept; congr 1; omega
        have tBn := tB2.take K (by omega)
        have tCm := tC2.take K (by omega)
        rw [kb] at tx2
        rw [kc] at ty2
        obtain ⟨SX, hSX⟩ : ∃ SX, Hid (strOfNums (xs.take 100 ++ (ys.take 100).take K) = SX) := ⟨_, rfl⟩
        obtain ⟨SY, hSY⟩ : ∃ SY, Hid (strOfNums ((zs.take 100).take K) = SY) := ⟨_, rfl⟩
        have hcx : ∀ w', Below w12.heap.size w12 w' → (convert 31 9 (.slice xo lx cx)).run Try.prog w' = .ok (.string SX) w' := fun w' hb => by rw [(tx2.later hb).string, hSX.out]
        have hcy : ∀ w', Below w12.heap.size w12 w' → (convert 31 9 (.slice yo ly cy)).run Try.prog w' = .ok (.string SY) w' := fun w' hb => by rw [(ty2.later hb).string, hSY.out]
        have hcc : ∀ w', Below w12.heap.size w12 w' → (convert 31 9 (.slice co K cc)).run Try.prog w' = .ok (.string SY) w' := fun w' hb => by rw [(tCm.later hb).string, hSY.out]
        clear kb kc
        go_wp2_with (first
          | (go_at_call 15; with_reducible refine (within_id K m0 (by omega) (by omega) w12).mono ?_; rintro e wz ⟨rfl, rfl⟩)
          | (go_at_call 15; with_reducible refine (within_id K k0 (by omega) (by omega) w12).mono ?_; rintro e wz ⟨rfl, rfl⟩)
          | fail)
        have rAB : ∀ n ∈ ([] ++ xs.take 100) ++ (ys.take 100).take K, 0 ≤ n ∧ n ≤ 255 := fun n hn => (List.mem_append.1 hn).elim (tA2.rng n) (tBn.rng n)
        have hSX2 : Hid (strOfNums (([] ++ xs.take 100) ++ (ys.take 100).take K) = SX) := hSX
        go_region_held_law (fun w' => Below w12.heap.size w12 w') (first | assumption | exact (Below.refl _ _).drew | exact Below.alloc (by assumption) (Below.size (by assumption)) _) (first
          | (refine step_app_g (by kernel_rfl) (.tmp 124) (.tmp 125) rfl (.slice (some ⟨w12.heap.size, 0, none⟩) 0 0) 0 [] (by simp [Act.eval]) (own_emptyD w12) ao l0 ca (xs.take 100) (by simp [Act.eval]) (tA2.later (by assumption)) (by omega) ?_; intro o5 q5 p5 w5 h5 hown5 hoff5 hsub5; have B5 : Below w12.heap.size w12 w5 := below_app (by assumption) hoff5 (by simp [own, Value.ownBlock]); have O5 := own_from (w := w12) (by simp) (by simp [own, Value.ownBlock]) hsub5; have h5' : q5 ≤ 100 := (by have := h5.out; omega))
          | (refine step_app_g (by kernel_rfl) (.tmp 126) (.tmp 129) rfl (.slice o5 q5 p5) q5 ([] ++ xs.take 100) (by simp [Act.eval, Act.put]) hown5 bo K cb ((ys.take 100).take K) (by simp [Act.eval, Act.put]) (tBn.later B5) (by omega) ?_; intro o6 q6 p6 w6 h6 hown6 hoff6 hsub6; have B6 : Below w12.heap.size w12 w6 := below_app B5 hoff6 O5; have s6 := own_string hown6 rAB; rw [hSX2.out] at s6)
          | (go_at_call 14; with_reducible refine (k12 _).mono ?_; rintro e w9 ⟨rfl, b9⟩; have B9 : Below w12.heap.size w12 w9 := B6.trans (b9.mono B6.size)))
        all_goals
          go_wp2
          go_ret
          exact ⟨rfl, c12.trans (B9.mono c12.size)⟩
      · have g0 : ¬ (K : Int) < 0 := by omega
        have g1 : ¬ (m0 : Int) < (K : Int) := by omega
        have g2 : (k0 : Int) < (K : Int) := by omega
        have kb : kept (K : Int) (ys.take 100) = (ys.take 100).take K := by unfold kept; congr 1; omega
        have kc : kept (K : Int) (zs.take 100) = (zs.take 100).take k0 := by unfold kept; congr 1; omega
        have tBn := tB2.take K (by omega)
        have tCm := tC2.take k0 (by omega)
        rw [kb] at tx2
        rw [kc] at ty2
        obtain ⟨SX, hSX⟩ : ∃ SX, Hid (strOfNums (xs.take 100 ++ (ys.take 100).take K) = SX) := ⟨_, rfl⟩
        obtain ⟨SY, hSY⟩ : ∃ SY, Hid (strOfNums ((zs.take 100).take k0) = SY) := ⟨_, rfl⟩
        have hcx : ∀ w', Below w12.heap.size w12 w' → (convert 31 9 (.slice xo lx cx)).run Try.prog w' = .ok (.string SX) w' := fun w' hb => by rw [(tx2.later hb).string, hSX.out]
        have hcy : ∀ w', Below w12.heap.size w12 w' → (convert 31 9 (.slice yo ly cy)).run Try.prog w' = .ok (.string SY) w' := fun w' hb => by rw [(ty2.later hb).string, hSY.out]
        have hcc : ∀ w', Below w12.heap.size w12 w' → (convert 31 9 (.slice co k0 cc)).run Try.prog w' = .ok (.string SY) w' := fun w' hb => by rw [(tCm.later hb).string, hSY.out]
        clear kb kc
        go_wp2_with (first
          | (go_at_call 15; with_reducible refine (within_id K m0 (by omega) (by omega) w12).mono ?_; rintro e wz ⟨rfl, rfl⟩)
          | (go_at_call 15; with_reducible refine (within_eq K 0 k0 h1 h2 (by omega) (by omega) (by omega) w12).mono ?_; rintro e wz ⟨rfl, rfl⟩)
          | fail)
        have rAB : ∀ n ∈ ([] ++ xs.take 100) ++ (ys.take 100).take K, 0 ≤ n ∧ n ≤ 255 := fun n hn => (List.mem_append.1 hn).elim (tA2.rng n) (tBn.rng n)
        have hSX2 : Hid (strOfNums (([] ++ xs.take 100) ++ (ys.take 100).take K) = SX) := hSX
        go_region_held_law (fun w' => Below w12.heap.size w12 w') (first | assumption | exact (Below.refl _ _).drew | exact Below.alloc (by assumption) (Below.size (by assumption)) _) (first
          | (refine step_app_g (by kernel_rfl) (.tmp 124) (.tmp 125) rfl (.slice (some ⟨w12.heap.size, 0, none⟩) 0 0) 0 [] (by simp [Act.eval]) (own_emptyD w12) ao l0 ca (xs.take 100) (by simp [Act.eval]) (tA2.later (by assumption)) (by omega) ?_; intro o5 q5 p5 w5 h5 hown5 hoff5 hsub5; have B5 : Below w12.heap.size w12 w5 := below_app (by assumption) hoff5 (by simp [own, Value.ownBlock]); have O5 := own_from (w := w12) (by simp) (by simp [own, Value.ownBlock]) hsub5; have h5' : q5 ≤ 100 := (by have := h5.out; omega))
          | (refine step_app_g (by kernel_rfl) (.tmp 126) (.tmp 129) rfl (.slice o5 q5 p5) q5 ([] ++ xs.take 100) (by simp [Act.eval, Act.put]) hown5 bo K cb ((ys.take 100).take K) (by simp [Act.eval, Act.put]) (tBn.later B5) (by omega) ?_; intro o6 q6 p6 w6 h6 hown6 hoff6 hsub6; have B6 : Below w12.heap.size w12 w6 := below_app B5 hoff6 O5; have s6 := own_string hown6 rAB; rw [hSX2.out] at s6)
          | (go_at_call 14; with_reducible refine (k12 _).mono ?_; rintro e w9 ⟨rfl, b9⟩; have B9 : Below w12.heap.size w12 w9 := B6.trans (b9.mono B6.size)))
        all_goals
          go_wp2
          go_ret
          exact ⟨rfl, c12.trans (B9.mono c12.size)⟩
    · by_cases hn : K ≤ k0
      · have g0 : ¬ (K : Int) < 0 := by omega
        have g1 : (m0 : Int) < (K : Int) := by omega
        have g2 : ¬ (k0 : Int) < (K : Int) := by omega
        have kb : kept (K : Int) (ys.take 100) = (ys.take 100).take m0 := by unfold kept; congr 1; omega
        have kc : kept (K : Int) (zs.take 100) = (zs.take 100).take K := by unfold kept; congr 1; omega
        have tBn := tB2.take m0 (by omega)
        have tCm := tC2.take K (by omega)
        rw [kb] at tx2
        rw [kc] at ty2
        obtain ⟨SX, hSX⟩ : ∃ SX, Hid (strOfNums (xs.take 100 ++ (ys.take 100).take m0) = SX) := ⟨_, rfl⟩
        obtain ⟨SY, hSY⟩ : ∃ SY, Hid (strOfNums ((zs.take 100).take K) = SY) := ⟨_, rfl⟩
        have hcx : ∀ w', Below w12.heap.size w12 w' → (convert 31 9 (.slice xo lx cx)).run Try.prog w' = .ok (.string SX) w' := fun w' hb => by rw [(tx2.later hb).string, hSX.out]
        have hcy : ∀ w', Below w12.heap.size w12 w' → (convert 31 9 (.slice yo ly cy)).run Try.prog w' = .ok (.string SY) w' := fun w' hb => by rw [(ty2.later hb).string, hSY.out]
        have hcc : ∀ w', Below w12.heap.size w12 w' → (convert 31 9 (.slice co K cc)).run Try.prog w' = .ok (.string SY) w' := fun w' hb => by rw [(tCm.later hb).string, hSY.out]
        clear kb kc
        go_wp2_with (first
          | (go_at_call 15; with_reducible refine (within_eq K 0 m0 h1 h2 (by omega) (by omega) (by omega) w12).mono ?_; rintro e wz ⟨rfl, rfl⟩)
          | (go_at_call 15; with_reducible refine (within_id K k0 (by omega) (by omega) w12).mono ?_; rintro e wz ⟨rfl, rfl⟩)
          | fail)
        have rAB : ∀ n ∈ ([] ++ xs.take 100) ++ (ys.take 100).take m0, 0 ≤ n ∧ n ≤ 255 := fun n hn => (List.mem_append.1 hn).elim (tA2.rng n) (tBn.rng n)
        have hSX2 : Hid (strOfNums (([] ++ xs.take 100) ++ (ys.take 100).take m0) = SX) := hSX
        go_region_held_law (fun w' => Below w12.heap.size w12 w') (first | assumption | exact (Below.refl _ _).drew | exact Below.alloc (by assumption) (Below.size (by assumption)) _) (first
          | (refine step_app_g (by kernel_rfl) (.tmp 124) (.tmp 125) rfl (.slice (some ⟨w12.heap.size, 0, none⟩) 0 0) 0 [] (by simp [Act.eval]) (own_emptyD w12) ao l0 ca (xs.take 100) (by simp [Act.eval]) (tA2.later (by assumption)) (by omega) ?_; intro o5 q5 p5 w5 h5 hown5 hoff5 hsub5; have B5 : Below w12.heap.size w12 w5 := below_app (by assumption) hoff5 (by simp [own, Value.ownBlock]); have O5 := own_from (w := w12) (by simp) (by simp [own, Value.ownBlock]) hsub5; have h5' : q5 ≤ 100 := (by have := h5.out; omega))
          | (refine step_app_g (by kernel_rfl) (.tmp 126) (.tmp 129) rfl (.slice o5 q5 p5) q5 ([] ++ xs.take 100) (by simp [Act.eval, Act.put]) hown5 bo m0 cb ((ys.take 100).take m0) (by simp [Act.eval, Act.put]) (tBn.later B5) (by omega) ?_; intro o6 q6 p6 w6 h6 hown6 hoff6 hsub6; have B6 : Below w12.heap.size w12 w6 := below_app B5 hoff6 O5; have s6 := own_string hown6 rAB; rw [hSX2.out] at s6)
          | (go_at_call 14; with_reducible refine (k12 _).mono ?_; rintro e w9 ⟨rfl, b9⟩; have B9 : Below w12.heap.size w12 w9 := B6.trans (b9.mono B6.size)))
        all_goals
          go_wp2
          go_ret
          exact ⟨rfl, c12.trans (B9.mono c12.size)⟩
      · have g0 : ¬ (K : Int) < 0 := by omega
        have g1 : (m0 : Int) < (K : Int) := by omega
        have g2 : (k0 : Int) < (K : Int) := by omega
        have kb : kept (K : Int) (ys.take 100) = (ys.take 100).take m0 := by unfold kept; congr 1; omega
        have kc : kept (K : Int) (zs.take 100) = (zs.take 100).take k0 := by unfold kept; congr 1; omega
        have tBn := tB2.take m0 (by omega)
        have tCm := tC2.take k0 (by omega)
        rw [kb] at tx2
        rw [kc] at ty2
        obtain ⟨SX, hSX⟩ : ∃ SX, Hid (strOfNums (xs.take 100 ++ (ys.take 100).take m0) = SX) := ⟨_, rfl⟩
        obtain ⟨SY, hSY⟩ : ∃ SY, Hid (strOfNums ((zs.take 100).take k0) = SY) := ⟨_, rfl⟩
        have hcx : ∀ w', Below w12.heap.size w12 w' → (convert 31 9 (.slice xo lx cx)).run Try.prog w' = .ok (.string SX) w' := fun w' hb => by rw [(tx2.later hb).string, hSX.out]
        have hcy : ∀ w', Below w12.heap.size w12 w' → (convert 31 9 (.slice yo ly cy)).run Try.prog w' = .ok (.string SY) w' := fun w' hb => by rw [(ty2.later hb).string, hSY.out]
        have hcc : ∀ w', Below w12.heap.size w12 w' → (convert 31 9 (.slice co k0 cc)).run Try.prog w' = .ok (.string SY) w' := fun w' hb => by rw [(tCm.later hb).string, hSY.out]
        clear kb kc
        go_wp2_with (first
          | (go_at_call 15; with_reducible refine (within_eq K 0 m0 h1 h2 (by omega) (by omega) (by omega) w12).mono ?_; rintro e wz ⟨rfl, rfl⟩)
          | (go_at_call 15; with_reducible refine (within_eq K 0 k0 h1 h2 (by omega) (by omega) (by omega) w12).mono ?_; rintro e wz ⟨rfl, rfl⟩)
          | fail)
        have rAB : ∀ n ∈ ([] ++ xs.take 100) ++ (ys.take 100).take m0, 0 ≤ n ∧ n ≤ 255 := fun n hn => (List.mem_append.1 hn).elim (tA2.rng n) (tBn.rng n)
        have hSX2 : Hid (strOfNums (([] ++ xs.take 100) ++ (ys.take 100).take m0) = SX) := hSX
        go_region_held_law (fun w' => Below w12.heap.size w12 w') (first | assumption | exact (Below.refl _ _).drew | exact Below.alloc (by assumption) (Below.size (by assumption)) _) (first
          | (refine step_app_g (by kernel_rfl) (.tmp 124) (.tmp 125) rfl (.slice (some ⟨w12.heap.size, 0, none⟩) 0 0) 0 [] (by simp [Act.eval]) (own_emptyD w12) ao l0 ca (xs.take 100) (by simp [Act.eval]) (tA2.later (by assumption)) (by omega) ?_; intro o5 q5 p5 w5 h5 hown5 hoff5 hsub5; have B5 : Below w12.heap.size w12 w5 := below_app (by assumption) hoff5 (by simp [own, Value.ownBlock]); have O5 := own_from (w := w12) (by simp) (by simp [own, Value.ownBlock]) hsub5; have h5' : q5 ≤ 100 := (by have := h5.out; omega))
          | (refine step_app_g (by kernel_rfl) (.tmp 126) (.tmp 129) rfl (.slice o5 q5 p5) q5 ([] ++ xs.take 100) (by simp [Act.eval, Act.put]) hown5 bo m0 cb ((ys.take 100).take m0) (by simp [Act.eval, Act.put]) (tBn.later B5) (by omega) ?_; intro o6 q6 p6 w6 h6 hown6 hoff6 hsub6; have B6 : Below w12.heap.size w12 w6 := below_app B5 hoff6 O5; have s6 := own_string hown6 rAB; rw [hSX2.out] at s6)
          | (go_at_call 14; with_reducible refine (k12 _).mono ?_; rintro e w9 ⟨rfl, b9⟩; have B9 : Below w12.heap.size w12 w9 := B6.trans (b9.mono B6.size)))
        all_goals
          go_wp2
          go_ret
          exact ⟨rfl, c12.trans (B9.mono c12.size)⟩

end Go.Proofs.Ytadnbdkbjajgdaa
