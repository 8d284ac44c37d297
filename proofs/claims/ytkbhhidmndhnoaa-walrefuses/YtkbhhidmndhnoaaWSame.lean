/- Open of a log that is whole: nothing that was there turns. -/
import Derived.Test.YtkbhhidmndhnoaaWLawB
namespace Go.Proofs.Ytkbhhidmndhnoaa
open Go.RowKit Go.Sort

theorem load_same (pb : Nat) (d : Dm) (fv : Value) (vs : List Value) (S : List Nat) (nm : ByteArray) (w : World) (h : Dk w pb d fv vs S) (hn : d.files.length ≤ 1000000) (f : Fl) (hg : get d.files nm = some f) (recs : List (List Int)) (hA : allL f.data = (recs, f.data.length, true)) :
    Calls Try.prog 33 #[.pointer (some ⟨pb, 0, none⟩), .string nm] w fun e w' => ∃ bo lb cb, e = .returned (.tuple #[.slice bo lb cb, .int .i64 0]) ∧ Below w.heap.size w w' ∧ Lx 1 RB w' bo lb cb recs := by
  have hr := read_any pb d fv vs S nm w h hn
  have e1 : (get d.files nm).isSome = true := by rw [hg]; rfl
  have e2 : rd d.files nm = f.data := by simp [rd, hg]
  rw [e1, e2] at hr
  have hlen : f.data.length ≤ 16777216 := Nat.le_trans (used_mem (get_mem hg)) (Nat.le_trans h.ok.room h.ok.lim)
  have hall := fun (bo : Option Addr) (cb : Nat) (V : World) (t : Tx V bo f.data.length cb f.data) => fall_any bo f.data.length cb f.data V t (by omega)
  rw [hA] at hall
  simp only [if_true] at hall
  generalize f.data = xs at hr hlen hall
  go_enter Try.func33, Try.ntmps33
  go_wp2_with (first
    | (go_at_call 26; with_reducible refine hr.mono ?_; rintro e w1 ⟨bo, cb, rfl, t1, b1⟩)
    | (go_at_call 51; with_reducible refine (hall bo cb w1 t1).mono ?_; rintro e w2 ⟨ro, lr, cr, rfl, l2, b2⟩; have b3 := Below.trans b1 (b2.mono b1.size)))
  go_ret2
  exact ⟨ro, lr, cr, rfl, b3, l2⟩

theorem open_same {B : Nat} {w : World} {pb : Nat} {d : Dm} (h : Dl B w pb d) (nm : ByteArray) (hn : d.files.length ≤ 1000000) (hs : nm.size ≤ 281474976710656) (f : Fl) (hg : get d.files nm = some f) (recs : List (List Int)) (hA : allL f.data = (recs, f.data.length, true)) (ess : List (List Ent)) (hD : decL recs = some ess) (n : Nat) (hln : ess.length = n) :
    Calls Try.prog 11 #[.pointer (some ⟨pb, 0, none⟩), .string nm] w fun e w' => ∃ lg bo cb, e = .returned (.tuple #[.pointer (some ⟨lg, 0, none⟩), .slice bo n cb, .int .i64 0]) ∧ Wl B w' lg pb nm n d bo n cb ess ∧ Below w.heap.size w w' := by
  obtain ⟨fv, vs, S, K, hS, hB⟩ := h
  have hload := load_same pb d fv vs S nm w K hn f hg recs hA
  have hlen : f.data.length ≤ 16777216 := Nat.le_trans (used_mem (get_mem hg)) (Nat.le_trans K.ok.room K.ok.lim)
  obtain ⟨s1, s2, _⟩ := allL_small _ f.data (Nat.le_refl _)
  rw [hA] at s1 s2
  simp only at s1 s2
  have hyes : ∀ (V : World) (ao : Option Addr) (la ca : Nat), Lx 1 RB V ao la ca recs → Calls Try.prog 34 #[.slice ao la ca] V fun e w' => ∃ qo lq cq, e = .returned (.tuple #[.slice qo lq cq, .int .i64 0]) ∧ Lv 1 RL (List.range V.heap.size) w' qo lq cq ess ∧ Below V.heap.size V w' := fun V ao la ca l => (decode_any ao la ca recs V l (fun x hx => by have := s1 x hx; omega) (by have := l.len_eq; omega)).mono fun e w' hh => by
    rcases hh with ⟨es', qo, lq, cq, h1, he, hx, hb⟩ | ⟨h1, _⟩
    · rw [hD] at h1; cases h1; exact ⟨qo, lq, cq, he, hx, hb⟩
    · rw [hD] at h1; cases h1
  have hlt := K.lt
  go_enter Try.func11, Try.ntmps11
  go_wp2_with (first
    | (go_at_call 33; with_reducible refine hload.mono ?_; rintro e w1 ⟨bo, lb, cb, rfl, b1, l1⟩)
    | (go_at_call 34; with_reducible refine (hyes w1 bo lb cb l1).mono ?_; rintro e w2 ⟨qo, lq, cq, rfl, l2, b2⟩)
    | (go_at_call 35; with_reducible refine (sclone_any nm w2 hs).mono ?_; rintro e w3 ⟨rfl, b3⟩))
  go_ret3
  have hql := l2.lx.len_eq
  obtain rfl : lq = n := by omega
  have s01 := b1.size
  have s12 := b2.size
  have s23 := b3.size
  have b13 := b2.trans (b3.mono s12)
  have b03 := b1.trans (b13.mono s01)
  have bA : Below w3.heap.size w3 (w3.alloc (.cells #[.pointer (some ⟨pb, 0, none⟩), .string nm, .int .i64 lq] 70)) := (Below.refl _ _).alloc (Nat.le_refl _) _
  have bF := b03.trans (bA.mono (by omega))
  refine ⟨w3.heap.size, qo, cq, rfl, ⟨fv, vs, S, K.later bF, Lg.new w3 pb nm lq, fun hk => by have := hlt _ hk; omega, fun k hk => ?_, Nat.le_trans hB bF.size, ?_⟩, bF⟩
  · rcases List.mem_cons.1 hk with rfl | hk
    · omega
    · exact hS k hk
  · refine ((l2.later RL.stable b3).mono (X' := w3.heap.size :: S) RL.stable RL.plain (by omega) (fun k hk => ?_)).later RL.stable bA
    rcases List.mem_cons.1 hk with rfl | hk
    · exact .inr (Nat.le_refl _)
    · exact .inl (by have := hlt k hk; simp; omega)

theorem all_rowB (l : List (List Ent)) (hl : Fine l) : allL (rowB l) = (l.map batchL, (rowB l).length, true) := allL_row _ (fun x hx => by
  obtain ⟨es, he, rfl⟩ := List.mem_map.1 hx
  have := (hl es he).2; omega)

/-- The same of a log's own bytes. -/
theorem open_rowB {B : Nat} {w : World} {pb : Nat} (lim : Nat) (nm : ByteArray) (l : List (List Ent)) (s : Nat) (left : Int) (dn : Bool) (h : Dl B w pb (one lim nm (rowB l) s left dn)) (hl : Fine l) (hs : nm.size ≤ 281474976710656) (n : Nat) (hln : l.length = n) :
    Calls Try.prog 11 #[.pointer (some ⟨pb, 0, none⟩), .string nm] w fun e w' => ∃ lg bo cb, e = .returned (.tuple #[.pointer (some ⟨lg, 0, none⟩), .slice bo n cb, .int .i64 0]) ∧ Wl B w' lg pb nm n (one lim nm (rowB l) s left dn) bo n cb (normB l) ∧ Below w.heap.size w w' :=
  open_same h nm (by simp [one]) hs ⟨nm, rowB l, s⟩ (get_one nm _ _) (l.map batchL) (all_rowB l hl) (normB l) (decL_batches l hl) n (by rw [normB_len]; exact hln)

end Go.Proofs.Ytkbhhidmndhnoaa
