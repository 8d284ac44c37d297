/- Two files, as DiskLimits has them; a list of rows of bytes that came in. -/
import Derived.Test.YtadnbdkbjajgdaaNames
import Derived.Deep.Slices
namespace Go.Proofs.Ytadnbdkbjajgdaa
open Go.ChangeShapes Go.WideShapes Go.ChangeAt Go.RowKit Go.Sort Go.Deep

def nB : ByteArray := ⟨#[98]⟩
theorem nAB : nlt nA nB = true := (nlt_iff _ _).2 (by rw [ByteArray.toList_eq, ByteArray.toList_eq]; decide)
theorem nBA : nlt nB nA = false := nlt_asymm nAB
theorem nAne : ¬ nA = nB := nlt_ne nAB
theorem nBne : ¬ nB = nA := fun e => nAne e.symm

/-- Two files a and b. -/
def LD (n : Nat) (da db : List Int) : Dm := ⟨n, [⟨nA, da, 0⟩, ⟨nB, db, 0⟩], 0, false⟩

theorem LD_rise (n : Nat) (da db : List Int) : Rising (LD n da db).files := by simp [LD, Rising, nAB]
theorem LD_put_a (n : Nat) (da db x : List Int) (s : Nat) : put (LD n da db).files ⟨nA, x, s⟩ = [⟨nA, x, s⟩, ⟨nB, db, 0⟩] := by simp [LD, put, lo, hi, nlt_irrefl, nAB, nBA]
theorem LD_put_b (n : Nat) (da db x : List Int) (s : Nat) : put (LD n da db).files ⟨nB, x, s⟩ = [⟨nA, da, 0⟩, ⟨nB, x, s⟩] := by simp [LD, put, lo, hi, nlt_irrefl, nAB, nBA]
theorem LD_get_a (n : Nat) (da db : List Int) : get (LD n da db).files nA = some ⟨nA, da, 0⟩ := by simp [LD, get]
theorem LD_get_b (n : Nat) (da db : List Int) : get (LD n da db).files nB = some ⟨nB, db, 0⟩ := by simp [LD, get, nAne]
theorem LD_used (n : Nat) (da db : List Int) : used (LD n da db).files = da.length + db.length := by simp [LD, used]
theorem LD_len (n : Nat) (da db : List Int) : (LD n da db).files.length = 2 := rfl
theorem LD_start (n : Nat) : (⟨n, [], 0, false⟩ : Dm).create nA = (⟨n, [⟨nA, [], 0⟩], 0, false⟩, 0) := by rw [create_calm rfl rfl rfl]; simp [put, lo, hi]
theorem LD_start2 (n : Nat) : (⟨n, [⟨nA, [], 0⟩], 0, false⟩ : Dm).create nB = (LD n [] [], 0) := by rw [create_calm rfl rfl rfl]; simp [put, lo, hi, LD, nAB, nBA]
theorem LD_create (n : Nat) (da db : List Int) : (LD n da db).create nA = (LD n [] db, 0) := by rw [create_calm rfl rfl rfl, LD_put_a]; rfl
theorem LD_app_a (n : Nat) (da db x : List Int) (h : x.length + (da.length + db.length) ≤ n) : (LD n da db).append nA x = (LD n (da ++ x) db, 0) := by
  rw [append_calm rfl rfl (LD_get_a n da db) x (by rw [LD_used]; exact h), LD_put_a]; rfl
theorem LD_app_b (n : Nat) (da db x : List Int) (h : x.length + (da.length + db.length) ≤ n) : (LD n da db).append nB x = (LD n da (db ++ x), 0) := by
  rw [append_calm rfl rfl (LD_get_b n da db) x (by rw [LD_used]; exact h), LD_put_b]; rfl
theorem LD_full_a (n : Nat) (da db x : List Int) (h : n < x.length + (da.length + db.length)) : (LD n da db).append nA x = (LD n da db, 13) := append_full rfl (LD_get_a n da db) x (by rw [LD_used]; exact h)
theorem LD_full_b (n : Nat) (da db x : List Int) (h : n < x.length + (da.length + db.length)) : (LD n da db).append nB x = (LD n da db, 13) := append_full rfl (LD_get_b n da db) x (by rw [LD_used]; exact h)
theorem LD_cut (n : Nat) (da db : List Int) : (LD n da db).cut nB 0 = (LD n da [], 0) := by
  have := cut_calm (d := LD n da db) rfl rfl (LD_get_b n da db) 0 (Nat.zero_le _)
  rw [LD_put_b] at this
  exact this
theorem LD_grow_no (n : Nat) (da db : List Int) : (LD n da db).grow (((da.length + db.length : Nat) : Int) - 1) = (LD n da db, false) := by
  unfold Dm.grow
  rw [if_pos (.inl (by rw [LD_used]; omega))]
theorem LD_grow (n : Nat) (da db : List Int) (h : da.length + db.length ≤ 1000) : (LD n da db).grow ((da.length + db.length : Nat) : Int) = (LD (da.length + db.length) da db, true) := by
  unfold Dm.grow
  rw [if_neg (by rw [LD_used]; omega)]
  simp [LD]; omega

theorem Try.cells31 : Try.prog.cellsOf 31 = 1 := by kernel_rfl
theorem Try.readable56 : Try.prog.readableRec 56 = true := by kernel_rfl
theorem Try.row56 : 56 < Try.prog.types.size := of_decide_eq_true (by kernel_rfl)

/-- A list of rows of bytes. -/
structure Bx (w : World) (ao : Option Addr) (len cap : Nat) (xs : Nat → List Int) : Prop where
  le : len ≤ cap
  top : cap ≤ maxLen
  bare : ao = none → len = 0 ∧ cap = 0
  cell : ∀ ad, ao = some ad → ∀ j, j < len → ∃ eo el ec, w.cell? (ad.add j) = some (.slice eo el ec) ∧ Tx w eo el ec (xs j)

theorem Bx.head {w : World} {ao : Option Addr} {len cap : Nat} {xs : Nat → List Int} (h : Bx w ao len cap xs) (h0 : 0 < len) :
    ∃ b off, ao = some ⟨b, off, none⟩ ∧ ∀ j, j < len → ∃ eo el ec, w.cell? ⟨b, off + j, none⟩ = some (.slice eo el ec) ∧ Tx w eo el ec (xs j) := by
  cases ao with
  | none => have := h.bare rfl; omega
  | some a =>
    obtain ⟨b, off, spot⟩ := a
    obtain ⟨eo, el, ec, hc, _⟩ := h.cell _ rfl 0 h0
    have hspot : spot = none := by simpa [Addr.add] using World.cell?_spot hc
    subst hspot
    refine ⟨b, off, rfl, fun j hj => ?_⟩
    obtain ⟨eo, el, ec, hc, t⟩ := h.cell _ rfl j hj
    rw [Addr.add_lit] at hc
    exact ⟨eo, el, ec, hc, t⟩

theorem tx_of_trod {H : Type} {enc : TypeId × Value → H} {W : World} {fuel : Nat} {v : Value} {x : DataW H × List MemPlace} (hf : DataW.trod enc Try.prog W 0 (fun _ => true) true fuel 31 [v] = some x) :
    ∃ ao la ca xs, v = .slice ao la ca ∧ Tx W ao la ca xs := by
  rcases open_ints Try.underlying31 Try.underlying5 Try.cells5 hf with ⟨hcs, _⟩ | ⟨a, len', cap', zs, hcs, _, hl, hm, hz, _, hcell, hwz⟩
  · simp at hcs
    subst hcs
    exact ⟨none, 0, 0, [], rfl, Tx.nil W⟩
  · simp at hcs
    subst hcs
    simp only [if_true] at hz
    refine ⟨some a, len', cap', zs.take len', rfl, ⟨by simp; omega, hl, hm, fun h => (by cases h), fun ad ha j hj => ?_, fun n hn => ?_⟩⟩
    · cases ha
      rw [hcell j (by omega)]
      simp [List.getD, hj]
    · have := hwz n (List.mem_of_mem_take hn)
      simp [Lit.wf] at this
      have e1 : IntKind.u8.min = 0 := by decide
      have e2 : IntKind.u8.max = 255 := by decide
      omega

theorem open_bx {H : Type} {enc : TypeId × Value → H} {W : World} {base : Nat} {v : Value} {d : DataW H} {p : List MemPlace} (hval : Value.okWide Try.prog W .any base 56 v) (h : DataW.Trod enc Try.prog W 0 (fun _ => true) true 56 v d p) :
    ∃ ao la ca xs, v = .slice ao la ca ∧ Bx W ao la ca xs := by
  obtain ⟨a1, len, cap, rfl⟩ := okWide_slice Try.underlying56 hval
  obtain ⟨fuel, hf⟩ := h
  rcases open_slice1 Try.underlying56 Try.cells31 hf with ⟨hcs, _⟩ | ⟨a, len', cap', m, n, V, D, Pl, hcs, _, hl, hm, hmm, _, hx⟩
  · simp [Value.cells] at hcs
    obtain ⟨rfl, rfl, rfl⟩ := hcs
    exact ⟨none, 0, 0, fun _ => [], rfl, ⟨Nat.le_refl _, by unfold maxLen; omega, fun _ => ⟨rfl, rfl⟩, fun _ h => (by cases h)⟩⟩
  · simp [Value.cells] at hcs
    obtain ⟨rfl, rfl, rfl⟩ := hcs
    simp only [if_true] at hmm
    have hall : ∀ i, ∃ xs : List Int, i < len → ∃ eo el ec, W.cell? (a.add i) = some (.slice eo el ec) ∧ Tx W eo el ec xs := by
      intro i
      by_cases hi : i < len
      · obtain ⟨hc, ht⟩ := hx i (by omega)
        obtain ⟨eo, el, ec, xs, hv, t⟩ := tx_of_trod ht
        exact ⟨xs, fun _ => ⟨eo, el, ec, by rw [hc, hv], t⟩⟩
      · exact ⟨[], fun h => absurd h hi⟩
    refine ⟨some a, len, cap, fun i => (hall i).choose, rfl, ⟨hl, hm, fun h => (by cases h), fun ad ha j hj => ?_⟩⟩
    cases ha
    exact (hall j).choose_spec hj

end Go.Proofs.Ytadnbdkbjajgdaa
