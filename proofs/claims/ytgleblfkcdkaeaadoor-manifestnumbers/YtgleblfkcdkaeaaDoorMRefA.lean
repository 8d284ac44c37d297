/- The document's own list: whether it may be, its bytes. -/
import Derived.Test.YtgleblfkcdkaeaaDoorMEnc
namespace Go.Proofs.YtgleblfkcdkaeaaDoor
set_option maxRecDepth 100000
open Go.RowKit Go.Sort

set_option maxHeartbeats 8000000 in
theorem may_any (ao : Option Addr) (la ca : Nat) (ts : List Int) (wal nxt : Int) (w : World) (h : Lx 1 RI w ao la ca ts) (w1 : i64ok wal) (n1 : i64ok nxt) :
    Calls Tryd.prog 30 #[.slice ao la ca, .int .i64 wal, .int .i64 nxt] w fun e w' => e = .returned (.bool (decide (Man.Right ⟨ts, wal, nxt⟩))) ∧ Below w.heap.size w w' := by
  have e1 := h.len_eq
  obtain ⟨w1, w2⟩ := w1
  obtain ⟨n1, n2⟩ := n1
  have htop := h.top
  have hle := h.le
  unfold maxLen at htop
  by_cases hA : la ≤ 255 ∧ 0 ≤ wal ∧ wal < nxt ∧ nxt ≤ 16777215
  · obtain ⟨a1, a2, a3, a4⟩ := hA
    have a5 : 0 ≤ nxt := by omega
    by_cases h0 : 0 < la
    · obtain ⟨b, off, rfl, hc⟩ := h.headI h0
      go_enter Tryd.func30, Tryd.ntmps30
      go_wp2
      go_loopw [7] (fun i wr => ∃ k : Nat, k ≤ la ∧ i = .int .i64 k ∧ Hid (∀ n ∈ ts.take k, 0 ≤ n ∧ n < nxt) ∧ Hid ((ts.take k).Nodup) ∧ Below w.heap.size w wr) (fun i _ => la - (intOf i).toNat)
      case atStart => exact ⟨0, by omega, rfl, by show ∀ n ∈ ts.take 0, _; simp, by show (ts.take 0).Nodup; simp, Below.refl _ _⟩
      case round =>
        obtain ⟨k, hk, rfl, hn, hd, hb⟩ := hrel
        by_cases hk2 : k < la
        · have hx : ts[k]? = some (ts[k]'(by omega)) := by simp
          obtain ⟨c0, r1, r2⟩ := hc k _ hx
          generalize ts[k]'(by omega) = x at hx c0 r1 r2
          have hX : Hid (ts[k]? = some x) := hx
          have hmem : Hid (x ∈ ts) := List.mem_of_getElem? hx
          have c1 := cell_later hb c0
          clear hx
          by_cases hr : 0 ≤ x ∧ x < nxt
          · obtain ⟨r3, r4⟩ := hr
            go_wp2
            go_loopw [8] (fun j wq => ∃ i : Nat, i ≤ k ∧ j = .int .i64 i ∧ Hid (x ∉ ts.take i) ∧ Below w.heap.size w wq) (fun j _ => k - (intOf j).toNat)
            case atStart => exact ⟨0, by omega, rfl, by show x ∉ ts.take 0; simp, hb⟩
            case round =>
              obtain ⟨i, hi, rfl, hno, hbq⟩ := hrel
              by_cases hi2 : i < k
              · have hy : ts[i]? = some (ts[i]'(by omega)) := by simp
                obtain ⟨d0, _⟩ := hc i _ hy
                generalize ts[i]'(by omega) = y at hy d0
                have hY : Hid (ts[i]? = some y) := hy
                have d1 : World.cell? (World.drew _) _ = some _ := cell_later hbq.drew d0
                have c2 : World.cell? (World.drew _) _ = some _ := cell_later hbq.drew c0
                have hbd := hbq.drew
                have hil : i < la := by omega
                clear hy hc d0 c1
                by_cases hxy : y = x
                · have hbad : Hid (¬ Man.Right ⟨ts, wal, nxt⟩) := fun hR => by
                    have h6 : ts.Nodup := hR.2.2.2.2.2
                    obtain ⟨q1, q2⟩ := List.getElem?_eq_some_iff.1 hX.out
                    obtain ⟨q3, q4⟩ := List.getElem?_eq_some_iff.1 hY.out
                    have := (List.getElem_inj h6).1 (q4.trans (hxy.trans q2.symm))
                    omega
                  subst hxy
                  clear hno hX hY hn hd hmem
                  go_wp2
                  go_region
                  go_wp2
                  go_ret
                  exact ⟨ret_bool (decide_eq_false hbad.out).symm, hbd⟩
                · have hnext : Hid (x ∉ ts.take (i + 1)) := fun hm => ((mem_take_succ hY.out).1 hm).elim hno.out (fun e => hxy e.symm)
                  clear hno hX hY hn hd hmem
                  go_wp2
                  go_region
                  go_wp2
                  go_round
                  case rel => exact ⟨i + 1, by omega, by go_num, hnext, hbd⟩
                  case measure => simp [intOf]; omega
              · have hik : i = k := by omega
                have hM : Hid (x ∉ ts.take k) := by
                  have h := hno.out
                  rw [hik] at h
                  exact h
                clear hno c1
                go_wp2
                go_round
                case rel => exact ⟨k + 1, by omega, by go_num, by
                  show ∀ n ∈ ts.take (k + 1), _
                  intro n hn2
                  rcases (mem_take_succ hX.out).1 hn2 with h | h
                  · exact hn.out n h
                  · subst h; exact ⟨r3, r4⟩, by
                  show (ts.take (k + 1)).Nodup
                  obtain ⟨hk3, rfl⟩ := List.getElem?_eq_some_iff.1 hX.out
                  rw [List.take_succ_eq_append_getElem hk3, List.nodup_append]
                  exact ⟨hd.out, by simp, fun a ha b hb => by simp at hb; subst hb; exact fun e => hM.out (e ▸ ha)⟩, hbq⟩
                case measure => simp [intOf]; omega
          · have hno : Hid (¬ Man.Right ⟨ts, wal, nxt⟩) := fun hR => hr (hR.2.2.2.2.1 x hmem.out)
            clear hc
            go_wp2
            all_goals go_ret
            all_goals exact ⟨ret_bool (decide_eq_false hno.out).symm, hb⟩
        · have hkk : k = la := by omega
          have hyes : Man.Right ⟨ts, wal, nxt⟩ := by
            have h5 := hn.out
            have h6 := hd.out
            rw [hkk, ← e1, List.take_length] at h5 h6
            exact ⟨by show ts.length ≤ 255; omega, a2, a3, a4, h5, h6⟩
          have hY : Hid (Man.Right ⟨ts, wal, nxt⟩) := hyes
          clear hyes hc
          go_wp2
          go_ret
          exact ⟨ret_bool (decide_eq_true hY.out).symm, hb⟩
    · have h00 : la = 0 := by omega
      subst h00
      have : ts = [] := List.eq_nil_of_length_eq_zero e1
      subst this
      have hY : Hid (Man.Right ⟨[], wal, nxt⟩) := ⟨by simp, a2, a3, a4, by simp, by simp⟩
      go_enter Tryd.func30, Tryd.ntmps30
      go_wp2
      refine wp_loop_rounds 1 ?_
      rw [rounds_succ]
      go_wp2
      go_ret
      exact ⟨ret_bool (decide_eq_true hY.out).symm, Below.refl _ _⟩
  · have hno : Hid (¬ Man.Right ⟨ts, wal, nxt⟩) := fun hR => hA ⟨by have : ts.length ≤ 255 := hR.1; omega, hR.2.1, hR.2.2.1, hR.2.2.2.1⟩
    go_enter Tryd.func30, Tryd.ntmps30
    go_wp2
    all_goals go_ret
    all_goals exact ⟨ret_bool (decide_eq_false hno.out).symm, Below.refl _ _⟩

theorem rput_k (K : Int) (k : Nat) (hK : K = (k : Int)) (hk : k ≤ 8) (ao : Option Addr) (la ca : Nat) (n : Int) (xs : List Int) (w : World) (ha : Tx w ao la ca xs) (sa : xs.length ≤ 900000000) (n1 : 0 ≤ n) (n2 : n ≤ 16777215) :
    Calls Tryd.prog 31 #[.slice ao la ca, .int .u64 n, .int .i64 K] w fun e w' => ∃ bo lb cb, e = .returned (.slice bo lb cb) ∧ Tx w' bo lb cb (xs ++ low k n) ∧ Below w.heap.size w w' := by
  have := ha.len_eq
  have h := refput_any ao la ca n K xs w ha (by omega) n1 (by omega) (by omega) (by omega)
  rwa [show clampN K = k by unfold clampN; omega] at h

set_option maxHeartbeats 4000000 in
theorem refenc_any (ao : Option Addr) (la ca : Nat) (ts : List Int) (wal nxt : Int) (w : World) (h : Lx 1 RI w ao la ca ts) (hR : Man.Right ⟨ts, wal, nxt⟩) :
    Calls Tryd.prog 9 #[.slice ao la ca, .int .i64 wal, .int .i64 nxt] w fun e w' => ∃ bo lb cb, e = .returned (.slice bo lb cb) ∧ Tx w' bo lb cb (Man.enc ⟨ts, wal, nxt⟩) ∧ Below w.heap.size w w' := by
  obtain ⟨a1, a2, a3, a4, a5, _⟩ := hR
  simp only at a1 a2 a3 a4 a5
  have e1 := h.len_eq
  have hle := h.le
  have htop := h.top
  unfold maxLen at htop
  have hw1 : IntKind.u8.wrap (la : Int) = (la : Int) := by rw [IntKind.wrap_u8]; omega
  have hw2 := u64_self (n := wal) (by omega) (by omega)
  have hw3 := u64_self (n := nxt) (by omega) (by omega)
  have t0 : Tx (w.alloc (.cells #[.int .u8 la] 5)) (some ⟨w.heap.size, 0, none⟩) 1 1 (low 1 (la : Int)) := by
    have := tx_one w (la : Int) (by omega)
    rwa [low1, show (la : Int) % 256 = la by omega]
  have b0 : Below w.heap.size w (w.alloc (.cells #[.int .u8 la] 5)) := (Below.refl _ _).alloc (Nat.le_refl _) _
  go_enter Tryd.func9, Tryd.ntmps9
  go_wp2
  go_loopw [7, 8] (fun out i wr => ∃ (k : Nat) (bo : Option Addr) (lb cb : Nat), k ≤ la ∧ i = .int .i64 k ∧ out = .slice bo lb cb ∧ Tx wr bo lb cb (low 1 (la : Int) ++ (ts.take k).flatMap (low 3)) ∧ Below w.heap.size w wr) (fun _ i _ => la - (intOf i).toNat)
  case atStart => exact ⟨0, _, 1, 1, by omega, rfl, rfl, by simpa using t0, b0⟩
  case round =>
    obtain ⟨k, bo, lb, cb, hk, rfl, rfl, t, hbw⟩ := hrel
    by_cases hk2 : k < la
    · obtain ⟨b, off, rfl, hcc⟩ := h.headI (by omega)
      have hx : ts[k]? = some (ts[k]'(by omega)) := by simp
      obtain ⟨x0, r1, r2⟩ := hcc k _ hx
      have hr := a5 _ (List.getElem_mem (by omega : k < ts.length))
      generalize ts[k]'(by omega) = x at hx x0 r1 r2 hr
      have x0 := cell_later hbw x0
      have hX := flat3_succ hx
      have hwx := u64_self (n := x) hr.1 (by omega)
      have hl3 : ((ts.take k).flatMap (low 3)).length = 3 * k := by rw [flat_len, List.length_take]; omega
      have pk := rput_k 3 3 rfl (by omega) bo lb cb x _ wr t (by rw [List.length_append, length_low, hl3]; omega) hr.1 (by omega)
      clear hx hcc t0 hl3
      have hXX : Hid ((ts.take (k + 1)).flatMap (low 3) = (ts.take k).flatMap (low 3) ++ low 3 x) := hX
      clear hX
      go_wp2_with fail
      with_reducible refine pk.mono ?_
      rintro e V3 ⟨bo3, lb3, cb3, rfl, t3, hb3⟩
      go_wp2
      go_round
      case rel => exact ⟨k + 1, bo3, lb3, cb3, by omega, by go_num, rfl, by rw [hXX.out, ← List.append_assoc]; exact t3, below_trans hbw hb3⟩
      case measure => simp [intOf]; omega
    · have hkk : k = la := by omega
      have t' : Tx wr bo lb cb (low 1 (ts.length : Int) ++ ts.flatMap (low 3)) := by
        have := t
        rw [hkk, ← e1, List.take_length] at this
        exact this
      have hl3 : (ts.flatMap (low 3)).length = 3 * la := by rw [flat_len, e1]
      have p2 := rput_k 3 3 rfl (by omega) bo lb cb wal _ wr t' (by rw [List.length_append, length_low, hl3]; omega) (by omega) (by omega)
      clear t t0
      go_wp2_with fail
      with_reducible refine p2.mono ?_
      rintro e V3 ⟨bo3, lb3, cb3, rfl, t3, hb3⟩
      have p3 := rput_k 3 3 rfl (by omega) bo3 lb3 cb3 nxt _ V3 t3 (by rw [List.length_append, List.length_append, length_low, length_low, hl3]; omega) (by omega) (by omega)
      go_wp2_with fail
      with_reducible refine p3.mono ?_
      rintro e V4 ⟨bo4, lb4, cb4, rfl, t4, hb4⟩
      go_wp2
      go_ret
      exact ⟨bo4, lb4, cb4, rfl, t4, below_trans hbw (below_trans hb3 hb4)⟩
end Go.Proofs.YtgleblfkcdkaeaaDoor
