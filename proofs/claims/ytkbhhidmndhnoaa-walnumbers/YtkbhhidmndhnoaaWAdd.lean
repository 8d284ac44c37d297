/- The walk of wal.Add. -/
import Derived.Test.YtkbhhidmndhnoaaWOpen
namespace Go.Proofs.Ytkbhhidmndhnoaa
open Go.RowKit Go.Sort

/-- What is told of a log and its disk behind an Add. -/
def AddEnd (w : World) (lg pb : Nat) (nm : ByteArray) (c : Nat) (S : List Nat) (D : Dm) (w' : World) : Prop := ∃ fv' vs' S', Dk w' pb D fv' vs' S' ∧ Lg w' lg pb nm c ∧ lg ∉ S' ∧ Step (lg :: S) (lg :: S') w w'

set_option maxRecDepth 100000 in
theorem add_ok (lg pb : Nat) (nm : ByteArray) (c : Nat) (d : Dm) (fv : Value) (vs : List Value) (S : List Nat) (ao : Option Addr) (la ca : Nat) (l : List Ent) (w : World) (g : Lg w lg pb nm c) (h : Dk w pb d fv vs S) (hg : lg ∉ S) (hn : d.files.length ≤ 1000000) (hl : Lx 3 RE w ao la ca l) (hm : mayL l = true) (hsz : (batchL l).length ≤ 1048576) (hc9 : c ≤ 1000000) :
    Calls Try.prog 18 #[.pointer (some ⟨lg, 0, none⟩), .slice ao la ca] w fun e w' => e = .returned (.int .i64 (d.append nm (recL (batchL l))).2) ∧ AddEnd w lg pb nm (if (d.append nm (recL (batchL l))).2 = 0 then c + 1 else c) S (d.append nm (recL (batchL l))).1 w' := by
  have hb1 := fbatch_yes ao la ca l w hl hm
  have hput := fun (V : World) (bo : Option Addr) (lb cb : Nat) (t : Tx V bo lb cb (batchL l)) => fput_far none bo 0 0 lb cb [] (batchL l) V (Tx.nil V) t (by omega) (by have := t.len_eq; omega)
  simp only [List.nil_append] at hput
  have happ : ∀ (V : World) (co : Option Addr) (lc cc : Nat), Below w.heap.size w V → Tx V co lc cc (recL (batchL l)) → (∀ ad, co = some ad → 0 < lc → w.heap.size ≤ ad.block) →
      Calls Try.prog 41 #[.pointer (some ⟨pb, 0, none⟩), .string nm, .slice co lc cc] V.drew fun e w' => e = .returned (.int .i64 (d.append nm (recL (batchL l))).2) ∧ Lg w' lg pb nm c ∧ ∃ fv' vs' S', Dk w' pb (d.append nm (recL (batchL l))).1 fv' vs' S' ∧ lg ∉ S' ∧ Step S S' w w' := by
    intro V co lc cc b t fc
    have bd : Below w.heap.size w V.drew := b.drew
    have hlc := t.len_eq
    have hlr := length_recL (batchL l)
    refine (append_any pb d fv vs S nm co lc cc (recL (batchL l)) V.drew (h.later bd) hn (t.later ((Below.refl _ _).drew)) (by omega) (fun ad ha h0 hk => by have := h.lt _ hk; have := fc ad ha h0; omega)).mono ?_
    rintro e w' ⟨rfl, fv', vs', S', K', st⟩
    exact ⟨rfl, (g.later bd).off st.off hg, fv', vs', S', K', ((Step.of_below bd).trans st).out hg g.lt, (Step.of_below bd).trans st⟩
  have hgl := g.lt
  clear h hl hsz
  generalize (d.append nm (recL (batchL l))) = P at happ ⊢
  generalize recL (batchL l) = RR at happ hput
  generalize batchL l = BB at hb1 hput
  by_cases hr : P.2 = 0
  · rw [if_pos hr]
    simp only [hr] at happ ⊢
    go_enter Try.func18, Try.ntmps18
    go_wp2_with (first
      | (go_at_call 39; with_reducible refine hb1.mono ?_; rintro e w1 ⟨bo, lb, cb, rfl, t1, b1⟩)
      | (go_at_call 40; with_reducible refine (hput w1 bo lb cb t1).mono ?_; rintro e w2 ⟨co, lc, cc, rfl, t2, f2, b2⟩; have b3 := Below.trans b1 (b2.mono b1.size); have hap := happ w2 co lc cc b3 t2 (fun ad ha h0 => Nat.le_trans b1.size (f2 ad ha h0)); have g2 := g.later b3; have c0 := g2.c0; have c1 := g2.c1))
    clear g2
    go_region_with (go_at_call 41; with_reducible refine hap.mono ?_; rintro e w3 ⟨rfl, g3, fin3⟩)
    all_goals
      have c2 := g3.c2
      have z2 := g3.z 2
      go_wp2
      go_ret
      obtain ⟨fv', vs', S', K', ho, st⟩ := fin3
      refine ⟨rfl, fv', vs', S', K'.keep ((Off.refl [lg] w3).setCell (p := ⟨lg, 2, none⟩) (by simp) _) (fun k hk => by simp; rintro rfl; exact ho hk), g3.inc _ _ (by go_num), ho, (st.cons lg).trans ⟨(Off.refl _ _).setCell (p := ⟨lg, 2, none⟩) (by simp) _, fun k hk => .inl hk⟩⟩
  · rw [if_neg hr]
    obtain ⟨D, r⟩ := P
    simp only at hr happ ⊢
    have hr' : (r == 0) = false := by simp [hr]
    go_enter Try.func18, Try.ntmps18
    go_wp2_with (first
      | (go_at_call 39; with_reducible refine hb1.mono ?_; rintro e w1 ⟨bo, lb, cb, rfl, t1, b1⟩)
      | (go_at_call 40; with_reducible refine (hput w1 bo lb cb t1).mono ?_; rintro e w2 ⟨co, lc, cc, rfl, t2, f2, b2⟩; have b3 := Below.trans b1 (b2.mono b1.size); have hap := happ w2 co lc cc b3 t2 (fun ad ha h0 => Nat.le_trans b1.size (f2 ad ha h0)); have g2 := g.later b3; have c0 := g2.c0; have c1 := g2.c1))
    clear g2
    go_region_with (go_at_call 41; with_reducible refine hap.mono ?_; rintro e w3 ⟨rfl, g3, fin3⟩)
    all_goals
      go_wp2
      go_ret
      obtain ⟨fv', vs', S', K', ho, st⟩ := fin3
      exact ⟨rfl, fv', vs', S', K', g3, ho, st.cons lg⟩

theorem add_no (lg : Nat) (ao : Option Addr) (la ca : Nat) (l : List Ent) (w : World) (hl : Lx 3 RE w ao la ca l) (hm : mayL l = false) :
    Calls Try.prog 18 #[.pointer (some ⟨lg, 0, none⟩), .slice ao la ca] w fun e w' => e = .returned (.int .i64 3) ∧ Below w.heap.size w w' := by
  have hb1 := fbatch_no ao la ca l w hl hm
  go_enter Try.func18, Try.ntmps18
  go_wp2_with (go_at_call 39; with_reducible refine hb1.mono ?_; rintro e w1 ⟨rfl, b1⟩)
  go_ret
  exact ⟨rfl, b1⟩

end Go.Proofs.Ytkbhhidmndhnoaa
