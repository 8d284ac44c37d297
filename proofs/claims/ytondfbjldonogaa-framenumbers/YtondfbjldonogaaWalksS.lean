/- What holds in the document's Entries. -/
import Derived.Test.YtondfbjldonogaaWalksR
namespace Go.Proofs.Ytondfbjldonogaa
open Go.RowKit Go.Sort

/-- What the document's Entries answers. -/
def REnts (w : World) (xs : List Int) (e : Ending) (w' : World) : Prop :=
  (∃ es bo lb cb, entriesL xs = some es ∧ e = .returned (.tuple #[.slice bo lb cb, .bool true]) ∧ Lx 3 RE w' bo lb cb es ∧ Below w.heap.size w w') ∨ (entriesL xs = none ∧ e = .returned (.tuple #[.slice none 0 0, .bool false]) ∧ Below w.heap.size w w')
theorem rents_no {w V : World} {xs : List Int} (hp : entriesL xs = none) (hb : Below w.heap.size w V) : REnts w xs (.returned (.tuple #[.slice none 0 0, .bool false])) V := .inr ⟨hp, rfl, hb⟩

theorem Rf.new (w : World) (ao : Option Addr) (la ca : Nat) (xs : List Int) (ha : Tx w ao la ca xs) : Rf w (w.alloc (.cells #[.slice ao la ca, .bool false] 75)) w.heap.size ao la ca false xs := by
  have h : ∀ j u, [.slice ao la ca, .bool false][j]? = some u → (w.alloc (.cells #[.slice ao la ca, .bool false] 75)).cell? ⟨w.heap.size, j, none⟩ = some u := fun j u hu => by
    rw [cell_of_row _ w.heap.size j _ 75 (0, 0) (heap_alloc_new w _)]
    simpa using hu
  exact ⟨h 0 _ rfl, h 1 _ rfl, fun j => frozen_of_row _ w.heap.size j _ 75 (heap_alloc_new w _), ha, (Below.refl _ _).alloc (Nat.le_refl _) _, Nat.le_refl _⟩

/-- What holds at each round's head of the document's loop: all is well, or bytes lacked. -/
structure RRel (w V : World) (N : Nat) (r0 : List Int) (i : Nat) (bo : Option Addr) (m cb : Nat) (es : List Ent) : Prop where
  ls : Ls 28 3 (REx [w.heap.size]) V (w.heap.size + 1) (.slice bo m cb) es
  len : es.length = i
  bel : Below w.heap.size w V
  size : w.heap.size + 1 ≤ V.heap.size
  rd : (∃ b o rl rc r, Rf w V w.heap.size (some ⟨b, o, none⟩) rl rc false r ∧ rl ≤ 900000000 ∧ Came N r0 i es r) ∨ (Rf w V w.heap.size none 0 0 true [] ∧ parseN N r0 = none)

theorem r_over {w wr w2 : World} {v : Value} {es : List Ent} (ls : Ls 28 3 (REx [w.heap.size]) wr (w.heap.size + 1) v es) (O2 : Off [w.heap.size] wr w2) : Ls 28 3 (REx [w.heap.size]) w2 (w.heap.size + 1) v es :=
  ls.offX O2 (fun k hk => by have := (ls.lt k hk).2; simp; omega)
theorem r_below {w w2 w5 : World} {v : Value} {es : List Ent} {o : Obj} (L : Ls 28 3 (REx [w.heap.size]) w2 (w.heap.size + 1) v es) (hb : Below w.heap.size w w2) (ho : Off (own v) (w2.alloc o) w5) : Below w.heap.size w w5 :=
  (hb.alloc hb.size o).trans (ho.below (fun k hk => by have := (L.lt k hk).2; omega) (by have := hb.size; simp; omega))
theorem rf_over {w w2 w5 : World} {v : Value} {es : List Ent} {o : Obj} {ro : Option Addr} {rl rc : Nat} {bad : Bool} {r : List Int} (L : Ls 28 3 (REx [w.heap.size]) w2 (w.heap.size + 1) v es) (ho : Off (own v) (w2.alloc o) w5) (h : Rf w w2 w.heap.size ro rl rc bad r) : Rf w w5 w.heap.size ro rl rc bad r :=
  (h.later ((Below.refl _ _).alloc (Nat.le_refl _) o)).off ho (fun hk => by have := (L.lt _ hk).2; omega) (fun k hk => by have := (L.lt k hk).2; omega)

/-- An entry more, all well. -/
theorem r_good {w wr w2 w5 : World} {N k m cb n5 c5 b o rl rc : Nat} {bo ao5 : Option Addr} {r0 r r' : List Int} {es : List Ent} {en : Ent} {ob : Obj} (hE : RRel w wr N r0 k bo m cb es) (hk : k < N) (hcame : Came N r0 k es r) (hpe : parseE r = some (en, r')) (L3 : Ls 28 3 (REx [w.heap.size]) w2 (w.heap.size + 1) (.slice bo m cb) es) (hls5 : Ls 28 3 (REx [w.heap.size]) w5 (w.heap.size + 1) (.slice ao5 n5 c5) (es ++ [en])) (ho : Off (own (.slice bo m cb)) (w2.alloc ob) w5) (h9 : Rf w w2 w.heap.size (some ⟨b, o, none⟩) rl rc false r') (s9 : rl ≤ 900000000) : RRel w w5 N r0 (k + 1) ao5 n5 c5 (es ++ [en]) := by
  have hb := r_below L3 h9.bel ho
  have h5 := rf_over L3 ho h9
  exact ⟨hls5, by simp [hE.len], hb, h5.lt, .inl ⟨b, o, rl, rc, r', h5, s9, hcame.step hk hpe⟩⟩
/-- An entry more, and bytes lacked. -/
theorem r_bad {w wr w2 w5 : World} {N k m cb n5 c5 : Nat} {bo ao5 : Option Addr} {r0 r : List Int} {es : List Ent} {en : Ent} {ob : Obj} (hE : RRel w wr N r0 k bo m cb es) (hk : k < N) (hcame : Came N r0 k es r) (hpe : parseE r = none) (L3 : Ls 28 3 (REx [w.heap.size]) w2 (w.heap.size + 1) (.slice bo m cb) es) (hls5 : Ls 28 3 (REx [w.heap.size]) w5 (w.heap.size + 1) (.slice ao5 n5 c5) (es ++ [en])) (ho : Off (own (.slice bo m cb)) (w2.alloc ob) w5) (h9 : Rf w w2 w.heap.size none 0 0 true []) : RRel w w5 N r0 (k + 1) ao5 n5 c5 (es ++ [en]) := by
  have hb := r_below L3 h9.bel ho
  have h5 := rf_over L3 ho h9
  exact ⟨hls5, by simp [hE.len], hb, h5.lt, .inr ⟨h5, hcame.no hk hpe⟩⟩

theorem parse_no1 {r : List Int} (h : r.length < 1) : parseE r = none := by
  have : takeN 1 num1 0 1 r = none := by rw [takeN, if_pos (.inl h)]
  simp only [parseE, this]
theorem parse_no1b {r : List Int} (h : 1 < num1 r) : parseE r = none := by
  have : takeN 1 num1 0 1 r = none := by rw [takeN, if_pos (.inr (.inr h))]
  simp only [parseE, this]
theorem parse_no2 {r : List Int} (h : (r.drop 1).length < 1 ∨ num1 (r.drop 1) < 1) : parseE r = none := by
  cases h1 : takeN 1 num1 0 1 r with
  | none => simp only [parseE, h1]
  | some p =>
    obtain ⟨v, q⟩ := p
    have e : q = r.drop 1 := by
      unfold takeN at h1
      split at h1
      · cases h1
      · cases h1; rfl
    subst e
    have h2 : takeN 1 num1 1 255 (r.drop 1) = none := by rw [takeN, if_pos (by omega)]
    simp only [parseE, h1, h2]

end Go.Proofs.Ytondfbjldonogaa
