/- Lists of ints in memory; slices.Index, slices.Contains, manifest.right, walked. -/
import Derived.Test.YtgleblfkcdkaeaaDoorFMem
import Derived.Test.YtgleblfkcdkaeaaDoorMMod
namespace Go.Proofs.YtgleblfkcdkaeaaDoor
open Go.RowKit Go.Sort

theorem below_trans {w a b : World} (h : Below w.heap.size w a) (k : Below a.heap.size a b) : Below w.heap.size w b := h.trans (k.mono h.size)
def i64ok (n : Int) : Prop := -9223372036854775808 ≤ n ∧ n ≤ 9223372036854775807
def RI : Reads Int := fun _ _ u n => u = [.int .i64 n] ∧ i64ok n
theorem RI.stable : Stable RI := fun _ _ _ _ _ _ h _ _ => h
theorem RI.plain : Plain 1 RI := by
  rintro w S u e ⟨rfl, _⟩
  exact ⟨rfl, by simp [Value.oneCell']⟩

theorem Lx.headI {w : World} {ao : Option Addr} {len cap : Nat} {l : List Int} (h : Lx 1 RI w ao len cap l) (h0 : 0 < len) :
    ∃ b off, ao = some ⟨b, off, none⟩ ∧ ∀ j n, l[j]? = some n → w.cell? ⟨b, off + j, none⟩ = some (.int .i64 n) ∧ i64ok n := by
  obtain ⟨b, off, rfl, hc⟩ := h.head RI.plain (by omega) h0
  refine ⟨b, off, rfl, fun j n hj => ?_⟩
  obtain ⟨u, h1, rfl, hn⟩ := hc j n hj
  exact ⟨by simpa using h1 0 _ rfl, hn⟩

theorem mem_take_succ {l : List Int} {k : Nat} {x n : Int} (h : l[k]? = some x) : n ∈ l.take (k + 1) ↔ n ∈ l.take k ∨ n = x := by
  obtain ⟨hk, rfl⟩ := List.getElem?_eq_some_iff.1 h
  rw [List.take_succ_eq_append_getElem hk, List.mem_append, List.mem_singleton]

theorem index_any (ao : Option Addr) (la ca : Nat) (ts : List Int) (n : Int) (w : World) (h : Lx 1 RI w ao la ca ts) (hl : la ≤ 1000000) :
    Calls Tryd.prog 67 #[.slice ao la ca, .int .i64 n] w fun e w' => (∃ r : Int, e = .returned (.int .i64 r) ∧ (0 ≤ r ↔ n ∈ ts)) ∧ w = w' := by
  have e1 := h.len_eq
  by_cases h0 : 0 < la
  · obtain ⟨b, off, rfl, hc⟩ := h.headI h0
    have hle := h.le
    go_enter Tryd.func67, Tryd.ntmps67
    go_wp2
    go_loop [8] (fun i => ∃ k : Nat, k ≤ la ∧ i = .int .i64 k ∧ Hid (n ∉ ts.take k)) (fun i => la - (intOf i).toNat)
    case atStart => exact ⟨0, by omega, rfl, by show n ∉ ts.take 0; simp⟩
    case round =>
      obtain ⟨k, hk, rfl, hn⟩ := hrel
      by_cases hk2 : k < la
      · have hx : ts[k]? = some (ts[k]'(by omega)) := by simp
        obtain ⟨c0, r0⟩ := hc k _ hx
        generalize ts[k]'(by omega) = x at hx c0 r0
        have hX : Hid (ts[k]? = some x) := hx
        clear hx hc
        by_cases hxn : n = x
        · subst hxn
          go_wp2
          go_ret
          exact ⟨⟨k, rfl, by simp [List.mem_of_getElem? hX.out]⟩, rfl⟩
        · go_wp2
          go_round
          case rel => exact ⟨k + 1, by omega, by go_num, by show n ∉ ts.take (k + 1); rw [mem_take_succ hX.out]; exact fun h => h.elim hn.out hxn⟩
          case measure => simp [intOf]; omega
      · have hkk : k = la := by omega
        have : n ∉ ts := by have := hn.out; rw [hkk, ← e1, List.take_length] at this; exact this
        have hT : Hid (n ∉ ts) := this
        clear this
        go_wp2
        go_ret
        exact ⟨⟨-1, rfl, by simp [hT.out]⟩, rfl⟩
  · have h00 : la = 0 := by omega
    subst h00
    have : ts = [] := List.eq_nil_of_length_eq_zero e1
    subst this
    go_enter Tryd.func67, Tryd.ntmps67
    go_wp2
    refine wp_loop_rounds 1 ?_
    rw [rounds_succ]
    go_wp2
    go_ret
    exact ⟨⟨-1, rfl, by simp⟩, rfl⟩

theorem contains_any (ao : Option Addr) (la ca : Nat) (ts : List Int) (n : Int) (w : World) (h : Lx 1 RI w ao la ca ts) (hl : la ≤ 1000000) :
    Calls Tryd.prog 62 #[.slice ao la ca, .int .i64 n] w fun e w' => e = .returned (.bool (decide (n ∈ ts))) ∧ w = w' := by
  go_enter Tryd.func62, Tryd.ntmps62
  go_wp2_with fail
  with_reducible refine (index_any ao la ca ts n w h hl).mono ?_
  rintro e w' ⟨⟨r, rfl, hr⟩, rfl⟩
  by_cases h0 : 0 ≤ r
  · have hm : Hid (n ∈ ts) := hr.1 h0
    clear hr
    go_wp2
    go_ret
    exact ⟨by simp [hm.out], rfl⟩
  · have hm : Hid (n ∉ ts) := fun k => h0 (hr.2 k)
    clear hr
    go_wp2
    go_ret
    exact ⟨by simp [hm.out]; omega, rfl⟩

/-- A list of tables as a value. -/
def manV (ao : Option Addr) (la ca : Nat) (wal nxt : Int) : Value := .agg #[.slice ao la ca, .int .i64 wal, .int .i64 nxt]

set_option maxHeartbeats 4000000 in
theorem right_any (ao : Option Addr) (la ca : Nat) (ts : List Int) (wal nxt : Int) (w : World) (h : Lx 1 RI w ao la ca ts) (w1 : i64ok wal) (n1 : i64ok nxt) :
    Calls Tryd.prog 47 #[.agg #[.slice ao la ca, .int .i64 wal, .int .i64 nxt]] w fun e w' => e = .returned (.bool (decide (Man.Right ⟨ts, wal, nxt⟩))) ∧ Below w.heap.size w w' := by
  have e1 := h.len_eq
  obtain ⟨w1, w2⟩ := w1
  obtain ⟨n1, n2⟩ := n1
  have htop := h.top
  have hle := h.le
  unfold maxLen at htop
  by_cases hA : la ≤ 255 ∧ 0 ≤ wal ∧ wal < nxt ∧ nxt ≤ 16777215
  · obtain ⟨a1, a2, a3, a4⟩ := hA
    have hb : Below w.heap.size w (w.alloc (.cells #[.slice ao la ca, .int .i64 wal, .int .i64 nxt] 24)) := (Below.refl _ _).alloc (Nat.le_refl _) _
    have hV := h.later RI.stable hb
    by_cases h0 : 0 < la
    · obtain ⟨b, off, rfl, hc⟩ := hV.headI h0
      have hcon := fun k (hk : k ≤ la) n => contains_any _ k ca _ n _ (hV.take k hk) (by omega)
      go_enter Tryd.func47, Tryd.ntmps47
      go_wp2
      go_loop [29] (fun i => ∃ k : Nat, k ≤ la ∧ i = .int .i64 k ∧ Hid (∀ n ∈ ts.take k, 0 ≤ n ∧ n < nxt) ∧ Hid ((ts.take k).Nodup)) (fun i => la - (intOf i).toNat)
      case atStart => exact ⟨0, by omega, rfl, by show ∀ n ∈ ts.take 0, _; simp, by show (ts.take 0).Nodup; simp⟩
      case round =>
        obtain ⟨k, hk, rfl, hn, hd⟩ := hrel
        by_cases hk2 : k < la
        · have hx : ts[k]? = some (ts[k]'(by omega)) := by simp
          obtain ⟨c0, r1, r2⟩ := hc k _ hx
          generalize ts[k]'(by omega) = x at hx c0 r1 r2
          have hX : Hid (ts[k]? = some x) := hx
          have hmem : Hid (x ∈ ts) := List.mem_of_getElem? hx
          clear hx hc
          by_cases hr : 0 ≤ x ∧ x < nxt
          · obtain ⟨r3, r4⟩ := hr
            have hcx := hcon k hk x
            clear hcon
            by_cases hm : x ∈ ts.take k
            · rw [decide_eq_true hm] at hcx
              have hno : Hid (¬ Man.Right ⟨ts, wal, nxt⟩) := fun hR => by
                have h6 : (ts.take (k + 1)).Nodup := hR.2.2.2.2.2.sublist (List.take_sublist _ _)
                obtain ⟨hk3, rfl⟩ := List.getElem?_eq_some_iff.1 hX.out
                rw [List.take_succ_eq_append_getElem hk3, List.nodup_append] at h6
                exact h6.2.2 _ hm _ (by simp) rfl
              clear hm
              go_wp2_with (go_at_call 62; with_reducible refine hcx.mono ?_; rintro e w1 ⟨rfl, rfl⟩)
              go_ret
              exact ⟨ret_bool (decide_eq_false hno.out).symm, hb⟩
            · rw [decide_eq_false hm] at hcx
              have hM : Hid (x ∉ ts.take k) := hm
              clear hm
              go_wp2_with (go_at_call 62; with_reducible refine hcx.mono ?_; rintro e w1 ⟨rfl, rfl⟩)
              go_round
              case rel => exact ⟨k + 1, by omega, by go_num, by
                  show ∀ n ∈ ts.take (k + 1), _
                  intro n hn2
                  rcases (mem_take_succ hX.out).1 hn2 with h | h
                  · exact hn.out n h
                  · subst h; exact ⟨r3, r4⟩, by
                  show (ts.take (k + 1)).Nodup
                  obtain ⟨hk3, rfl⟩ := List.getElem?_eq_some_iff.1 hX.out
                  rw [List.take_succ_eq_append_getElem hk3, List.nodup_append]
                  exact ⟨hd.out, by simp, fun a ha b hb => by simp at hb; subst hb; exact fun e => hM.out (e ▸ ha)⟩⟩
              case measure => simp [intOf]; omega
          · have hno : Hid (¬ Man.Right ⟨ts, wal, nxt⟩) := fun hR => hr (hR.2.2.2.2.1 x hmem.out)
            clear hcon
            go_wp2
            all_goals go_ret
            all_goals exact ⟨ret_bool (decide_eq_false hno.out).symm, hb⟩
        · have hkk : k = la := by omega
          have hyes : Man.Right ⟨ts, wal, nxt⟩ := by
            have h5 := hn.out
            have h6 := hd.out
            rw [hkk, ← e1, List.take_length] at h5 h6
            exact ⟨by show ts.length ≤ 255; omega, a2, a3, a4, h5, h6⟩
          have hY : Hid (Man.Right ⟨ts, wal, nxt⟩) := hyes
          clear hyes hcon
          go_wp2
          go_ret
          exact ⟨ret_bool (decide_eq_true hY.out).symm, hb⟩
    · have h00 : la = 0 := by omega
      subst h00
      have : ts = [] := List.eq_nil_of_length_eq_zero e1
      subst this
      have hY : Hid (Man.Right ⟨[], wal, nxt⟩) := ⟨by simp, a2, a3, a4, by simp, by simp⟩
      go_enter Tryd.func47, Tryd.ntmps47
      go_wp2
      refine wp_loop_rounds 1 ?_
      rw [rounds_succ]
      go_wp2
      go_ret
      exact ⟨ret_bool (decide_eq_true hY.out).symm, hb⟩
  · have hno : Hid (¬ Man.Right ⟨ts, wal, nxt⟩) := fun hR => hA ⟨by have : ts.length ≤ 255 := hR.1; omega, hR.2.1, hR.2.2.1, hR.2.2.2.1⟩
    have hb : Below w.heap.size w (w.alloc (.cells #[.slice ao la ca, .int .i64 wal, .int .i64 nxt] 24)) := (Below.refl _ _).alloc (Nat.le_refl _) _
    go_enter Tryd.func47, Tryd.ntmps47
    go_wp2
    all_goals go_ret
    all_goals exact ⟨ret_bool (decide_eq_false hno.out).symm, hb⟩
end Go.Proofs.YtgleblfkcdkaeaaDoor
