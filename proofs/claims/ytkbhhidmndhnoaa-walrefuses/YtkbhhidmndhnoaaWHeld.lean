/- A log that is refused: plain facts; the log and its disk beside a list that grows. -/
import Derived.Test.YtkbhhidmndhnoaaWAgain
namespace Go.Proofs.Ytkbhhidmndhnoaa
open Go.RowKit Go.Sort

/-- What holds while power may go: without a loss the file has what was done. -/
def Ref (X : List Int) (left : Int) (dn : Bool) (done : List (List Ent)) : Prop := (dn = false → X = rowB done) ∧ (dn = true → left ≤ 0)

theorem spend_one (n : Nat) (X : List Int) (left : Int) (dn : Bool) : (one n w0 X 0 left dn).spend = if 0 < left then one n w0 X 0 (left - 1) (decide (left - 1 = 0)) else one n w0 X 0 left dn := rfl
theorem ref_add (n : Nat) (X : List Int) (left : Int) (dn : Bool) (done : List (List Ent)) (x : List Ent) (h : Ref X left dn done) :
    ∃ X' left' dn' r, (one n w0 X 0 left dn).append w0 (recL (batchL x)) = (one n w0 X' 0 left' dn', r) ∧
      (r = 0 ∧ Ref X' left' dn' (done ++ [x]) ∨ r = 13 ∧ Ref X' left' dn' done ∧ (dn' = true ∨ (dn' = false ∧ n < X'.length + (rowB [x]).length))) := by
  have hg : get (one n w0 X 0 left dn).files w0 = some ⟨w0, X, 0⟩ := get_one w0 X 0
  have hu : used (one n w0 X 0 left dn).files = X.length := used_one w0 X 0
  have hp : ∀ Y, put (one n w0 X 0 left dn).files ⟨w0, Y, 0⟩ = [⟨w0, Y, 0⟩] := fun Y => put_one w0 X Y 0 0
  have hb : (rowB [x]).length = (recL (batchL x)).length := by rw [rowB_one]
  have happ : rowB (done ++ [x]) = rowB done ++ recL (batchL x) := rowB_snoc done x
  generalize recL (batchL x) = b at hb happ
  obtain ⟨h1, h2⟩ := h
  simp only [Dm.append, hg, Dm.writes, hu]
  rw [hp]
  cases dn with
  | true =>
    have hl := h2 rfl
    rw [spend_one, if_neg (show ¬ 0 < left by omega)]
    refine ⟨X, left, true, 13, by simp [one], .inr ⟨rfl, ⟨fun h => (by cases h), fun _ => hl⟩, .inl rfl⟩⟩
  | false =>
    have hX := h1 rfl
    by_cases hr : b.length + X.length ≤ n
    · by_cases hl : 0 < left
      · rw [spend_one, if_pos hl]
        by_cases hz : left - 1 = 0
        · refine ⟨X ++ b, left - 1, true, 13, by simp [one, hr, hz], .inr ⟨rfl, ⟨fun h => (by cases h), fun _ => by omega⟩, .inl rfl⟩⟩
        · refine ⟨X ++ b, left - 1, false, 0, by simp [one, hr, hz], .inl ⟨rfl, ⟨fun _ => by rw [happ, hX], fun h => (by cases h)⟩⟩⟩
      · rw [spend_one, if_neg hl]
        refine ⟨X ++ b, left, false, 0, by simp [one, hr], .inl ⟨rfl, ⟨fun _ => by rw [happ, hX], fun h => (by cases h)⟩⟩⟩
    · by_cases hl : 0 < left
      · rw [spend_one, if_pos hl]
        by_cases hz : left - 1 = 0
        · refine ⟨X, left - 1, true, 13, by simp [one, hr, hz], .inr ⟨rfl, ⟨fun h => (by cases h), fun _ => by omega⟩, .inl rfl⟩⟩
        · refine ⟨X, left - 1, false, 13, by simp [one, hr, hz], .inr ⟨rfl, ⟨fun _ => hX, fun h => (by cases h)⟩, .inr ⟨rfl, by omega⟩⟩⟩
      · rw [spend_one, if_neg hl]
        refine ⟨X, left, false, 13, by simp [one, hr], .inr ⟨rfl, ⟨fun _ => hX, fun h => (by cases h)⟩, .inr ⟨rfl, by omega⟩⟩⟩

theorem crash_none (n : Nat) (X : List Int) (left : Int) (dn : Bool) : (one n w0 X 0 left dn).crash 0 = one n w0 (rowB []) 0 0 false := by simp [one, Dm.crash, Fl.crash, rowB, rowL]

/-- An element that was read when the statement had its batches. -/
def R1 (w1 : World) : Reads (List Ent) := fun _ _ u es => ∃ eo el ec, u = [.slice eo el ec] ∧ Lx 3 RE w1 eo el ec es
theorem R1.st (w1 : World) : Stable (R1 w1) := fun _ _ _ _ _ _ h _ _ => h
theorem R1.pl (w1 : World) : Plain 1 (R1 w1) := by
  rintro w S u es ⟨ao, l, c, rfl, h⟩
  exact ⟨rfl, by simp [Value.oneCell']⟩

/-- The log, its disk, and a list beside them. -/
def Wd (w1 w : World) (lg pb c : Nat) (d : Dm) (v : Value) (done : List (List Ent)) : Prop :=
  ∃ fv vs S, Dk w pb d fv vs S ∧ Lg w lg pb w0 c ∧ lg ∉ S ∧ (∀ k ∈ lg :: S, w1.heap.size ≤ k) ∧ Ls 25 1 (R1 w1) w w1.heap.size v done ∧ (∀ k ∈ own v, k ∉ lg :: S) ∧ Below w1.heap.size w1 w

section
variable {w1 w w' : World} {lg pb c : Nat} {d : Dm} {v : Value} {done : List (List Ent)}
theorem Wd.below (h : Wd w1 w lg pb c d v done) : Below w1.heap.size w1 w := by
  obtain ⟨fv, vs, S, K, g, hg, hS, L, ha, hb⟩ := h
  exact hb
theorem Wd.ls (h : Wd w1 w lg pb c d v done) : Ls 25 1 (R1 w1) w w1.heap.size v done := by
  obtain ⟨fv, vs, S, K, g, hg, hS, L, ha, hb⟩ := h
  exact L
theorem Wd.log (h : Wd w1 w lg pb c d v done) : Lg w lg pb w0 c := by
  obtain ⟨fv, vs, S, K, g, hg, hS, L, ha, hb⟩ := h
  exact g
theorem Wd.dl (h : Wd w1 w lg pb c d v done) : Dl w1.heap.size w pb d := by
  obtain ⟨fv, vs, S, K, g, hg, hS, L, ha, hb⟩ := h
  exact ⟨fv, vs, S, K, fun k hk => hS k (by simp [hk]), hb.size⟩
theorem Wd.room (h : Wd w1 w lg pb c d v done) : used d.files ≤ d.limit := by
  obtain ⟨fv, vs, S, K, g, hg, hS, L, ha, hb⟩ := h
  exact K.ok.room
theorem Wd.later (h : Wd w1 w lg pb c d v done) (hb : Below w.heap.size w w') : Wd w1 w' lg pb c d v done := by
  obtain ⟨fv, vs, S, K, g, hg, hS, L, ha, hb1⟩ := h
  exact ⟨fv, vs, S, K.later hb, g.later hb, hg, hS, L.later (R1.st w1) hb, ha, hb1.trans (hb.mono hb1.size)⟩
theorem Wd.list {ao : Option Addr} {n cap : Nat} (h : Wd w1 w lg pb c d (.slice ao n cap) done) : Lx 1 RL w ao n cap done := by
  obtain ⟨fv, vs, S, K, g, hg, hS, L, ha, hb⟩ := h
  obtain ⟨ao', cap', e, hl⟩ := L.read (R1.st w1) (R1.pl w1)
  simp only [Value.slice.injEq] at e
  obtain ⟨rfl, rfl, rfl⟩ := e
  refine ⟨hl.len_eq, hl.le, hl.top, hl.bare, fun ad ha j e he => ?_⟩
  obtain ⟨u, h1, eo, el, ec, rfl, h2⟩ := hl.cell ad ha j e he
  exact ⟨_, h1, eo, el, ec, rfl, (h2.later RE.stable hb).low [] (by simp)⟩
/-- The list has grown. -/
theorem Wd.app {V w5 : World} {o : Obj} {v5 : Value} {done5 : List (List Ent)} (h : Wd w1 V lg pb c d v done) (ho : Off (own v) (V.alloc o) w5) (hl : Ls 25 1 (R1 w1) w5 w1.heap.size v5 done5) (hs : ∀ k ∈ own v5, k ∈ own v ∨ (V.alloc o).heap.size ≤ k) : Wd w1 w5 lg pb c d v5 done5 := by
  have h2 := h.later (w' := V.alloc o) ((Below.refl _ _).alloc (Nat.le_refl _) o)
  obtain ⟨fv, vs, S, K, g, hg, hS, L, ha, hb⟩ := h2
  refine ⟨fv, vs, S, K.keep ho (fun k hk e => ha k e (by simp [hk])), g.off ho (fun e => ha lg e (by simp)), hg, hS, hl, fun k hk e => ?_, hb.trans (ho.below (fun k hk => (L.lt k hk).2) hb.size)⟩
  rcases hs k hk with a | a
  · exact ha k a e
  · rcases List.mem_cons.1 e with rfl | e
    · have := g.lt; omega
    · have := K.lt k e; omega
theorem wd_add (h : Wd w1 w lg pb c d v done) (ao : Option Addr) (la ca : Nat) (l : List Ent) (hl : Lx 3 RE w ao la ca l) (hm : mayL l = true ∧ (batchL l).length ≤ 1000) (D : Dm) (r : Int) (c' : Nat) (hE : d.append w0 (recL (batchL l)) = (D, r)) (hc' : c' = if r = 0 then c + 1 else c) (hn : d.files.length ≤ 1000000) (hc9 : c ≤ 1000000) :
    Calls Try.prog 18 #[.pointer (some ⟨lg, 0, none⟩), .slice ao la ca] w fun e w' => e = .returned (.int .i64 r) ∧ Wd w1 w' lg pb c' D v done := by
  obtain ⟨fv, vs, S, K, g, hg, hS, L, ha, hb⟩ := h
  refine (add_ok lg pb w0 c d fv vs S ao la ca l w g K hg hn hl hm.1 (by omega) hc9).mono ?_
  rintro e w' ⟨rfl, fv', vs', S', K', g', hno, st⟩
  rw [hE] at K' g' ⊢
  obtain ⟨u1, u2, u3⟩ := st.under hS hb.size
  obtain ⟨us, l1, l2, l3⟩ := L
  refine ⟨rfl, fv', vs', S', K', by rw [hc']; exact g', hno, u1, ⟨us, l1, rows_offB l2 st.off ha, l3⟩, fun k hk e => ?_, hb.trans u3⟩
  rcases st.sub k e with a | a
  · exact ha k hk a
  · have := (own_lt l2 k hk).1; omega
theorem arm_wd {bo : Option Addr} {lb cb : Nat} {ess : List (List Ent)} (h : Wl w1.heap.size w lg pb w0 c d bo lb cb ess) (hb : Below w1.heap.size w1 w) (n : Int) (h1 : -9223372036854775808 ≤ n) (h2 : n ≤ 9223372036854775807) :
    Calls Try.prog 12 #[.pointer (some ⟨pb, 0, none⟩), .int .i64 n] w fun e w' => e = .returned (.tuple #[]) ∧ Wd w1 w' lg pb c (d.arm n) (.slice none 0 0) [] := by
  obtain ⟨fv, vs, S, K, g, hg, hS, hB, lv⟩ := h
  refine (arm_any pb d fv vs S n h1 h2 w K).mono ?_
  rintro e w' ⟨rfl, K', st⟩
  exact ⟨rfl, fv, vs, S, K', g.off st.off hg, hg, hS, Ls.nil _ _ _ _ _, by simp [own, Value.ownBlock], hb.trans (st.below (fun k hk => hS k (by simp [hk])) hb.size)⟩
end

theorem lx_at {w : World} {b o c : Nat} {eo : Option Addr} {el ec : Nat} {x : List Ent} (h1 : w.cell? ⟨b, o, none⟩ = some (.slice eo el ec)) (t : Lx 3 RE w eo el ec x) (hc : 1 ≤ c) (hm : c ≤ maxLen) : Lx 1 RL w (some ⟨b, o, none⟩) 1 c [x] := by
  refine ⟨rfl, hc, hm, fun h => (by cases h), fun ad ha j y hy => ?_⟩
  cases ha
  have hj : j = 0 := by have := (List.getElem?_eq_some_iff.1 hy).1; simp at this; omega
  subst hj
  simp at hy
  subst hy
  refine ⟨[.slice eo el ec], fun i z hz => ?_, eo, el, ec, rfl, t.low [] (by simp)⟩
  have hi : i = 0 := by have := (List.getElem?_eq_some_iff.1 hz).1; simp at this; omega
  subst hi
  simp at hz
  subst hz
  rw [Addr.add_lit]
  simpa using h1

/-- An Add of a batch with an empty key. -/
theorem add_bare (lg : Nat) (V : World) : Calls Try.prog 18 #[.pointer (some ⟨lg, 0, none⟩), .slice (some ⟨V.heap.size, 0, none⟩) 1 1] (V.alloc (.cells #[.slice none 0 0, .slice none 0 0, .bool false] 24)) fun e w' => e = .returned (.int .i64 3) ∧ Below V.heap.size V w' := by
  have b1 : Below V.heap.size V (V.alloc (.cells #[.slice none 0 0, .slice none 0 0, .bool false] 24)) := (Below.refl _ _).alloc (Nat.le_refl _) _
  have hl := lx_ent_one V (k := .slice none 0 0) (v := .slice none 0 0) (e := ⟨[], [], false⟩) ((Tx.nil _).at [] (by simp)) ((Tx.nil _).at [] (by simp)) false rfl
  refine (add_no lg _ _ _ _ _ hl (by decide)).mono ?_
  rintro e w' ⟨rfl, b⟩
  exact ⟨rfl, b1.trans (b.mono b1.size)⟩

end Go.Proofs.Ytkbhhidmndhnoaa
