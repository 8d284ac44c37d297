/- The walks of the document's May and Batch, and of the statements' own 'batch'. -/
import Derived.Test.YtondfbjldonogaaWalksJ
namespace Go.Proofs.Ytondfbjldonogaa
open Go.RowKit

set_option maxHeartbeats 2000000 in
theorem may_any (ao : Option Addr) (len cap : Nat) (l : List Ent) (w : World) (h : Lx 3 RE w ao len cap l) :
    Calls Try.prog 30 #[.slice ao len cap] w fun e w' => e = .returned (.bool (mayL l)) ∧ w = w' := by
  have hl := h.len_eq
  have hle := h.le
  have htop := h.top
  unfold maxLen at htop
  by_cases hbig : 8191 < len
  · have hm : Hid (mayL l = false) := by
      show _ = _
      cases hm : mayL l with
      | false => rfl
      | true => have := ((mayL_iff l).1 hm).1; omega
    go_enter Try.func30, Try.ntmps30
    go_wp2
    go_ret
    exact ⟨ret_bool hm.out.symm, rfl⟩
  · by_cases h0 : 0 < len
    · obtain ⟨b, off, rfl, hc⟩ := h.headE h0
      go_enter Try.func30, Try.ntmps30
      go_wp2
      go_loop [3] (fun i => ∃ k : Nat, k ≤ len ∧ i = .int .i64 k ∧ Hid (∀ e ∈ l.take k, fitsE e = true)) (fun i => len - (intOf i).toNat)
      case atStart => exact ⟨0, by omega, rfl, by show ∀ e ∈ l.take 0, fitsE e = true; simp⟩
      case round =>
        obtain ⟨k, hk, rfl, hall⟩ := hrel
        by_cases hk2 : k < len
        · have hx : l[k]? = some (l[k]'(by omega)) := by simp
          obtain ⟨ko, kl, kc, vo, vl, vc, c0, c1, c2, tk, tv⟩ := hc k _ hx
          have hno : fitsE (l[k]'(by omega)) = false → Hid (mayL l = false) := fun hf => may_no hx hf
          have hyes : fitsE (l[k]'(by omega)) = true → Hid (∀ e ∈ l.take (k + 1), fitsE e = true) := fun hf e he => by
            rw [List.take_succ_eq_append_getElem (by omega), List.mem_append] at he
            rcases he with he | he
            · exact hall.out e he
            · simp at he; subst he; exact hf
          generalize l[k]'(by omega) = e at c2 tk tv hno hyes
          have hf : Hid (fitsE e = decide (1 ≤ kl ∧ kl ≤ 255 ∧ (e.g = true ∨ vl ≤ 4095))) := by show _ = _; rw [fitsE, tk.len_eq, tv.len_eq]
          have tkt := tk.le
          have tkt2 := tk.top
          have tvt := tv.le
          have tvt2 := tv.top
          unfold maxLen at tkt2 tvt2
          generalize fitsE e = F at hno hyes hf
          generalize e.g = G at c2 hf
          clear tk tv hall
          by_cases a1 : kl < 1
          · have hr := hno (by rw [hf.out]; simp; omega)
            go_wp2
            go_ret
            exact ⟨ret_bool hr.out.symm, rfl⟩
          · by_cases a2 : 255 < kl
            · have hr := hno (by rw [hf.out]; simp; omega)
              go_wp2
              go_ret
              exact ⟨ret_bool hr.out.symm, rfl⟩
            · cases G with
              | true =>
                have hr := hyes (by rw [hf.out]; simp; omega)
                go_wp2
                go_round
                case rel => exact ⟨k + 1, by omega, by go_num, hr⟩
                case measure => simp [intOf]; omega
              | false =>
                by_cases a3 : 4095 < vl
                · have hr := hno (by rw [hf.out]; simp; omega)
                  go_wp2
                  go_ret
                  exact ⟨ret_bool hr.out.symm, rfl⟩
                · have hr := hyes (by rw [hf.out]; simp; omega)
                  go_wp2
                  go_round
                  case rel => exact ⟨k + 1, by omega, by go_num, hr⟩
                  case measure => simp [intOf]; omega
        · have hm : Hid (mayL l = true) := by
            show _ = _
            rw [mayL_iff]
            refine ⟨by omega, ?_⟩
            have := hall.out
            rwa [List.take_of_length_le (by omega)] at this
          go_wp2
          go_ret
          exact ⟨ret_bool hm.out.symm, rfl⟩
    · obtain rfl : len = 0 := by omega
      have hl0 : l = [] := List.eq_nil_of_length_eq_zero hl
      subst hl0
      go_enter Try.func30, Try.ntmps30
      go_wp2
      refine wp_loop_rounds 1 ?_
      rw [rounds_succ]
      go_wp2
      go_ret
      exact ⟨rfl, rfl⟩

/-- 'append(out, b...)' in a region that draws. -/
theorem step_gr {ops : Array Oper} {o : Oper} {a : Act} {w : World} {K : Act → World → Prop} {Q : Exit → Act → World → Prop} {E : Prop}
    (hg : o.guard = none) (s x : Operand) (hop : o.op = Op.call { callee := Callee.builtin Builtin.append, args := #[s, x], argTypes := #[22, 22] })
    (B : Nat) (bo : Option Addr) (n cap : Nat) (xs : List Int) (hs : a.eval s = .slice bo n cap) (h : Gr B w bo n cap xs)
    (ao : Option Addr) (m c : Nat) (ys : List Int) (hx : a.eval x = .slice ao m c) (ht : Tx w ao m c ys) (b : n + m ≤ 1000000000)
    (hK : ∀ bo' n' cap' w', Hid (n' = n + m) → Gr B w' bo' n' cap' (xs ++ ys) → Moves (.slice bo n cap) (.slice bo' n' cap') w w' → K (a.put o.dst (.slice bo' n' cap')) w') :
    if Region.wanted o (yielded ops a.tmps) = true then Oper.wp Try.prog o a w K Q else E :=
  step_app hg s x hop B (.slice bo n cap) n xs hs h.own ao m c ys hx ht b h.hB (fun bo' cap' w' h1 h2 h3 => hK bo' _ cap' w' rfl ⟨h1, fun x hx => (List.mem_append.1 hx).elim (h.rng x) (ht.rng x), Nat.le_trans h.hB h2.size⟩ ⟨h2, h3⟩)

theorem tx_two (w : World) (x y : Int) (hx : 0 ≤ x ∧ x ≤ 255) (hy : 0 ≤ y ∧ y ≤ 255) : Tx (w.alloc (.cells #[.int .u8 x, .int .u8 y] 5)) (some ⟨w.heap.size, 0, none⟩) 2 2 [x, y] := by
  have hr : Row (w.alloc (.cells #[.int .u8 x, .int .u8 y] 5)) w.heap.size [x, y] := heap_alloc_new w _
  refine hr.tx 2 rfl (by omega) (fun n hn => ?_)
  simp at hn
  rcases hn with rfl | rfl <;> assumption

end Go.Proofs.Ytondfbjldonogaa
