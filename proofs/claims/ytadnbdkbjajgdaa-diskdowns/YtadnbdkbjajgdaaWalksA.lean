/- The walks of disk.New, Arm, Down, spend, mayName. -/
import Derived.Test.YtadnbdkbjajgdaaMem
namespace Go.Proofs.Ytadnbdkbjajgdaa
open Go.RowKit

theorem below_drewN {B : Nat} {a w : World} (h : Below B a w) (n : Nat) : Below B a (w.drewN n) := ⟨h.os, h.tape, h.output, h.size, h.block⟩

theorem mayName_any (nm : ByteArray) (w : World) (hs : nm.size ≤ 9223372036854775807) :
    Calls Try.prog 43 #[.string nm] w fun e w' => e = .returned (.bool (okName nm)) ∧ w = w' := by
  by_cases h1 : 1 ≤ nm.size
  · by_cases h2 : nm.size ≤ 32
    · have e : okName nm = true := by simp [okName]; omega
      rw [e]
      go_enter Try.func43, Try.ntmps43
      go_wp2
      go_ret
      exact ⟨ret_bool (show decide ((nm.size : Int) ≤ 32) = true by simp; omega), rfl⟩
    · have e : okName nm = false := by simp [okName]; omega
      rw [e]
      go_enter Try.func43, Try.ntmps43
      go_wp2
      go_ret
      exact ⟨ret_bool (show decide ((nm.size : Int) ≤ 32) = false by simp; omega), rfl⟩
  · have e : okName nm = false := by simp [okName]; omega
    rw [e]
    go_enter Try.func43, Try.ntmps43
    go_wp2
    go_ret
    exact ⟨rfl, rfl⟩

theorem down_any (pb : Nat) (d : Dm) (fv : Value) (vs : List Value) (S : List Nat) (w : World) (h : Dk w pb d fv vs S) :
    Calls Try.prog 28 #[.pointer (some ⟨pb, 0, none⟩)] w fun e w' => e = .returned (.bool d.down) ∧ w = w' := by
  have c3 := h.c3
  go_enter Try.func28, Try.ntmps28
  go_wp2
  go_ret
  exact ⟨rfl, rfl⟩

/-- The disk's own cells are turned: all else of it stands. -/
theorem Dk.turn {w w' : World} {pb : Nat} {d : Dm} {fv : Value} {vs : List Value} {S : List Nat} (h : Dk w pb d fv vs S) (d' : Dm) (hf : d'.files = d.files) (hok : d'.Ok) (ho : Off [pb] w w')
    (hh : w'.heap[pb]? = some (.cells #[.int .i64 d'.limit, fv, .int .i64 d'.left, .bool d'.down] 61 (0, 0))) : Dk w' pb d' fv vs S ∧ Step S S w w' := by
  have hw := h.whole
  have hn := h.once
  rw [hw, List.nodup_cons] at hn
  refine ⟨⟨hok, hh, ?_, ?_, hw, h.once⟩, ⟨ho.mono (fun k hk => by simp at hk; subst hk; exact h.mem), fun _ h => .inl h⟩⟩
  · rw [hf]
    exact rows_off h.rows ho (fun k hk e => by simp at e; subst e; exact hn.1 (List.mem_append_left _ hk))
  · rw [hf]
    exact h.datas.off ho (fun k hk e => by simp at e; subst e; exact hn.1 (List.mem_append_right _ hk))

theorem set_head {w : World} {pb i : Nat} {c : Array Value} {t : TypeId} (v : Value) (h : w.heap[pb]? = some (.cells c t (0, 0))) : (w.setCell ⟨pb, i, none⟩ v).heap[pb]? = some (.cells (c.setIfInBounds i v) t (0, 0)) := heap_setCell_same w pb i _ t _ h

theorem arm_any (pb : Nat) (d : Dm) (fv : Value) (vs : List Value) (S : List Nat) (n : Int) (h1 : -9223372036854775808 ≤ n) (h2 : n ≤ 9223372036854775807) (w : World) (h : Dk w pb d fv vs S) :
    Calls Try.prog 12 #[.pointer (some ⟨pb, 0, none⟩), .int .i64 n] w fun e w' => e = .returned (.tuple #[]) ∧ Dk w' pb (d.arm n) fv vs S ∧ Step S S w w' := by
  have c3 := h.c3
  have c2 := h.c2
  have z2 := h.z 2
  cases hd : d.down with
  | true =>
    rw [hd] at c3
    have e : Hid (d.arm n = d) := by show _ = _; simp [Dm.arm, hd]
    go_enter Try.func12, Try.ntmps12
    go_wp2
    refine bodyPost_ret (results_none rfl _ _ _) rfl ?_
    exact ⟨rfl, by rw [e.out]; exact h, .refl _ _⟩
  | false =>
    rw [hd] at c3
    have e : Hid (d.arm n = { d with left := n }) := by show _ = _; simp [Dm.arm, hd]
    have hh := h.head
    have T := h.turn { d with left := n } rfl ⟨h.ok.lim, h.ok.room, h.ok.rise, h.ok.sync, h.ok.rng, h.ok.name, h1, h2⟩ ((Off.refl [pb] w).setCell (p := ⟨pb, 2, none⟩) (by simp) (.int .i64 n)) (set_head _ hh)
    clear hh
    go_enter Try.func12, Try.ntmps12
    go_wp2
    go_end0
    exact ⟨rfl, by rw [e.out]; exact T.1, T.2⟩

theorem spend_any (pb : Nat) (d : Dm) (fv : Value) (vs : List Value) (S : List Nat) (w : World) (h : Dk w pb d fv vs S) :
    Calls Try.prog 44 #[.pointer (some ⟨pb, 0, none⟩)] w fun e w' => e = .returned (.bool (!d.spend.down)) ∧ Dk w' pb d.spend fv vs S ∧ Step S S w w' := by
  have c3 := h.c3
  have c2 := h.c2
  have z2 := h.z 2
  have z3 := h.z 3
  have l1 := h.ok.l1
  have l2 := h.ok.l2
  by_cases hl : 0 < d.left
  · have T : ∀ b, b = decide (d.left - 1 = 0) → Dk ((w.setCell ⟨pb, 2, none⟩ (.int .i64 (d.left - 1))).setCell ⟨pb, 3, none⟩ (.bool b)) pb d.spend fv vs S ∧ Step S S w ((w.setCell ⟨pb, 2, none⟩ (.int .i64 (d.left - 1))).setCell ⟨pb, 3, none⟩ (.bool b)) := by
      rintro b rfl
      exact h.turn d.spend d.spend_files h.ok.spend (((Off.refl [pb] w).setCell (p := ⟨pb, 2, none⟩) (by simp) (.int .i64 (d.left - 1))).setCell (p := ⟨pb, 3, none⟩) (by simp) (.bool (decide (d.left - 1 = 0))))
        (by rw [set_head _ (set_head _ h.head)]; simp [Dm.spend, hl])
    have e : Hid (d.spend.down = decide (d.left - 1 = 0)) := by show _ = _; simp [Dm.spend, hl]
    generalize d.spend = D at T e
    by_cases h0 : d.left = 1
    · have hb : (d.left - 1 == 0) = true := by simp; omega
      have hq : Hid (true = decide (d.left - 1 = 0)) := by show _ = _; simp; omega
      clear h0
      go_enter Try.func44, Try.ntmps44
      go_wp2
      go_ret
      exact ⟨ret_bool (by rw [e.out, ← hq.out]; rfl), (T _ hq.out).1, (T _ hq.out).2⟩
    · have hb : (d.left - 1 == 0) = false := by simp; omega
      have hq : Hid (false = decide (d.left - 1 = 0)) := by show _ = _; simp; omega
      clear h0
      go_enter Try.func44, Try.ntmps44
      go_wp2
      go_ret
      exact ⟨ret_bool (by rw [e.out, ← hq.out]; rfl), (T _ hq.out).1, (T _ hq.out).2⟩
  · have e : Hid (d.spend = d) := by show _ = _; simp [Dm.spend, hl]
    go_enter Try.func44, Try.ntmps44
    go_wp2
    go_ret
    exact ⟨ret_bool (by rw [e.out]), by rw [e.out]; exact h, .refl _ _⟩

theorem new_any (n : Nat) (hn : n ≤ 16777216) (w : World) :
    Calls Try.prog 9 #[.int .i64 n] w fun e w' => e = .returned (.tuple #[.pointer (some ⟨w.heap.size, 0, none⟩), .int .i64 0]) ∧ Dk w' w.heap.size ⟨n, [], 0, false⟩ (.slice none 0 0) [] [w.heap.size] ∧ Below w.heap.size w w' := by
  have D : Dk (w.alloc (.cells #[.int .i64 n, .slice none 0 0, .int .i64 0, .bool false] 61)) w.heap.size ⟨n, [], 0, false⟩ (.slice none 0 0) [] [w.heap.size] :=
    ⟨⟨hn, by simp [used], by simp [Rising], by simp, by simp, by simp, by simp, by simp⟩, by show (w.heap.push _)[w.heap.size]? = _; simp, ⟨rfl, .inl ⟨rfl, rfl⟩⟩, trivial, rfl, by simp⟩
  go_enter Try.func9, Try.ntmps9
  go_wp2
  go_ret2
  exact ⟨rfl, D, (Below.refl _ _).alloc (Nat.le_refl _) _⟩

theorem new_not (n : Int) (h1 : n < 0 ∨ 16777216 < n) (w : World) :
    Calls Try.prog 9 #[.int .i64 n] w fun e w' => e = .returned (.tuple #[.pointer none, .int .i64 1]) ∧ w = w' := by
  by_cases h : n < 0
  · go_enter Try.func9, Try.ntmps9
    go_wp2
    go_ret2
    exact ⟨rfl, rfl⟩
  · go_enter Try.func9, Try.ntmps9
    go_wp2
    all_goals go_ret2
    all_goals exact ⟨rfl, rfl⟩

end Go.Proofs.Ytadnbdkbjajgdaa
