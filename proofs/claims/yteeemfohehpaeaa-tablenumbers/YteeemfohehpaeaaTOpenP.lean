/- What Open reads is what Build lays: the other way round; and as the document's own Open goes. Plain facts. -/
import Derived.Test.YteeemfohehpaeaaTPlain
import Derived.Test.YteeemfohehpaeaaPC
namespace Go.Proofs.Yteeemfohehpaeaa
set_option maxRecDepth 100000
open Go.RowKit

theorem low4 (n : Int) : low 4 n = [n / 16777216 % 256, n / 65536 % 256, n / 256 % 256, n % 256] := by simp [low]
theorem low4_get (xs : List Int) (hb : Bytes xs) (h : 4 ≤ xs.length) : low 4 (getN xs 4) = xs.take 4 ∧ getN xs 4 < 4294967296 := by
  match xs, h, hb with
  | a :: b :: c :: d :: r, _, hb =>
    have ha := hb.head
    have hb1 := hb.tail.head
    have hc := hb.tail.tail.head
    have hd := hb.tail.tail.tail.head
    have hok : okG (a :: b :: c :: d :: r) 4 = true := by simp [okG]; omega
    have hv : getN (a :: b :: c :: d :: r) 4 = ((a * 256 + b) * 256 + c) * 256 + d := by
      rw [getN, if_pos hok]
      show joinB (joinB (joinB (joinB 0 a) b) c) d = _
      rw [joinB_eq 0 a (by omega) (by omega) (by omega) (by omega), joinB_eq _ b (by omega) (by omega) (by omega) (by omega), joinB_eq _ c (by omega) (by omega) (by omega) (by omega), joinB_eq _ d (by omega) (by omega) (by omega) (by omega)]
      omega
    rw [hv, low4]
    refine ⟨?_, by omega⟩
    simp only [List.take_succ_cons, List.take_zero]
    congr 1
    · omega
    congr 1
    · omega
    congr 1
    · omega
    congr 1
    omega
theorem low2_get (xs : List Int) (hb : Bytes xs) (h : 2 ≤ xs.length) : low 2 (getN xs 2) = xs.take 2 ∧ getN xs 2 ≤ 65535 := by
  match xs, h, hb with
  | a :: b :: r, _, hb =>
    have ha := hb.head
    have hb1 := hb.tail.head
    have hok : okG (a :: b :: r) 2 = true := by simp [okG]; omega
    have hv : getN (a :: b :: r) 2 = a * 256 + b := by
      rw [getN, if_pos hok]
      show joinB (joinB 0 a) b = _
      rw [joinB_eq 0 a (by omega) (by omega) (by omega) (by omega), joinB_eq _ b (by omega) (by omega) (by omega) (by omega)]
      omega
    rw [hv, low2]
    refine ⟨?_, by omega⟩
    simp only [List.take_succ_cons, List.take_zero]
    congr 1
    · omega
    congr 1
    omega
theorem parts_inv (xs X Y : List Int) (hb : Bytes xs) (h : partsT xs = some (X, Y)) : ∃ nb : Nat, 1 ≤ nb ∧ nb ≤ 65535 ∧ Y.length = 4 * nb ∧ X.length < 4294967296 ∧ xs = X ++ (low 2 (nb : Int) ++ (Y ++ (low 4 (X.length : Int) ++ mariL))) := by
  unfold partsT at h
  split at h
  · cases h
  rename_i h8
  split at h
  · cases h
  rename_i hma
  split at h
  · cases h
  rename_i hg
  have hma : xs.drop (xs.length - 4) = mariL := by simpa using hma
  obtain ⟨g4, g5⟩ := low4_get (xs.drop (xs.length - 8)) (hb.drop _) (by simp; omega)
  have gnn := getN_nn (xs.drop (xs.length - 8)) 4
  generalize getN (xs.drop (xs.length - 8)) 4 = G at h hg g4 g5 gnn
  obtain ⟨g, rfl⟩ : ∃ g : Nat, G = (g : Int) := ⟨G.toNat, by omega⟩
  simp only [Int.toNat_natCast] at h
  have hil : ((xs.drop g).take (xs.length - 8 - g)).length = xs.length - 8 - g := by rw [List.length_take, List.length_drop]; omega
  have hxs : xs = xs.take g ++ ((xs.drop g).take (xs.length - 8 - g) ++ ((xs.drop (xs.length - 8)).take 4 ++ xs.drop (xs.length - 4))) := by
    have e1 : (xs.drop (xs.length - 8)).drop 4 = xs.drop (xs.length - 4) := by rw [List.drop_drop]; congr 1; omega
    have e2 : (xs.drop g).drop (xs.length - 8 - g) = xs.drop (xs.length - 8) := by rw [List.drop_drop]; congr 1; omega
    rw [← e1, List.take_append_drop, ← e2, List.take_append_drop, List.take_append_drop]
  have hbi : Bytes ((xs.drop g).take (xs.length - 8 - g)) := (hb.drop _).take _
  generalize (xs.drop g).take (xs.length - 8 - g) = i at h hil hxs hbi
  split at h
  · cases h
  rename_i hi
  simp only [not_or, Decidable.not_not] at hi
  obtain ⟨hi1, hi2⟩ := hi
  simp only [Option.some.injEq, Prod.mk.injEq] at h
  obtain ⟨rfl, rfl⟩ := h
  obtain ⟨l2, l3⟩ := low2_get i hbi (by omega)
  obtain ⟨nb, hnb⟩ : ∃ nb : Nat, getN i 2 = (nb : Int) := ⟨(getN i 2).toNat, by omega⟩
  rw [hnb] at l2 l3 hi1 hi2
  have hXl : (xs.take g).length = g := by rw [List.length_take]; omega
  refine ⟨nb, by omega, by omega, by rw [List.length_drop, hi2]; simp; omega, by omega, ?_⟩
  rw [hXl, l2, g4, ← hma, ← List.append_assoc (i.take 2), List.take_append_drop]
  exact hxs

theorem cut_inv : ∀ (c : Nat) (bl ls : List Int) (ts : List (List Int)), Bytes ls → ls.length = 4 * c → cutT c bl ls = some ts → bl = ts.flatten ∧ ls = (ts.map fun t => low 4 (t.length : Int)).flatten ∧ ts.length = c ∧ ∀ t ∈ ts, t.length < 4294967296
  | 0, bl, ls, ts, _, hl, h => by
    unfold cutT at h
    split at h
    · rename_i h0
      cases h
      exact ⟨List.eq_nil_of_length_eq_zero h0, List.eq_nil_of_length_eq_zero (by omega), rfl, by simp⟩
    · cases h
  | c + 1, bl, ls, ts, hb, hl, h => by
    unfold cutT at h
    split at h
    · cases h
    rename_i hk
    obtain ⟨l4, l5⟩ := low4_get ls hb (by omega)
    have hnn := getN_nn ls 4
    generalize getN ls 4 = K at h hk l4 l5 hnn
    obtain ⟨k, rfl⟩ : ∃ k : Nat, K = (k : Int) := ⟨K.toNat, by omega⟩
    simp only [Int.toNat_natCast] at h
    cases hc : cutT c (bl.drop k) (ls.drop 4) with
    | none => rw [hc] at h; cases h
    | some r =>
      rw [hc] at h
      simp only [Option.map_some, Option.some.injEq] at h
      subst h
      obtain ⟨h1, h2, h3, h4⟩ := cut_inv c (bl.drop k) (ls.drop 4) r (hb.drop 4) (by rw [List.length_drop]; omega) hc
      have hkl : (bl.take k).length = k := by rw [List.length_take]; omega
      refine ⟨?_, ?_, by simp [h3], fun t ht => ?_⟩
      · rw [List.flatten_cons, ← h1, List.take_append_drop]
      · rw [List.map_cons, List.flatten_cons, ← h2, hkl, l4, List.take_append_drop]
      · rcases List.mem_cons.1 ht with rfl | ht
        · omega
        · exact h4 t ht

theorem add_inv {c : Nat} {a t : List Int} {l : List Ent} (h : addT c a t = some l) : allB t = some l ∧ t = blockL l ∧ (∀ e ∈ l, norm e = e) ∧ 1 ≤ l.length ∧ l.length ≤ 8 ∧ c % 8 = 0 ∧ c + l.length ≤ 65535 ∧ okL a l = true := by
  unfold addT at h
  split at h
  · cases h
  · rename_i l' hl
    split at h
    · rename_i h2
      cases h
      obtain ⟨v, hn⟩ := (allB_iff t l).1 hl
      obtain ⟨m1, _, hx⟩ := (validB_iff l t).1 v
      have hm := (mayB_iff 255 l).1 m1
      refine ⟨hl, hx.symm, fun e he => ?_, hm.1, h2.1, h2.2.1, h2.2.2.1, h2.2.2.2⟩
      obtain ⟨i, hi, rfl⟩ := List.getElem_of_mem he
      have : (l.map norm)[i]? = l[i]? := by rw [hn]
      simpa [hi] using this
    · cases h
theorem adds_inv : ∀ (ts : List (List Int)) (c : Nat) (a : List Int) (m : List Ent), addsT c a ts = some m → okL a m = true ∧ (∀ e ∈ m, norm e = e) ∧ ts = (List.range ts.length).map (fun i => blockL ((m.drop (8 * i)).take 8)) ∧ ts.length = (m.length + 7) / 8 ∧ (ts ≠ [] → c % 8 = 0 ∧ c + m.length ≤ 65535)
  | [], c, a, m, h => by
    simp only [addsT, Option.some.injEq] at h
    subst h
    exact ⟨rfl, by simp, rfl, rfl, fun h => absurd rfl h⟩
  | t :: r, c, a, m, h => by
    unfold addsT at h
    split at h
    · cases h
    rename_i l hl
    obtain ⟨h1, h2, h3, h4, h5, h6, h7, h8⟩ := add_inv hl
    cases hr : addsT (c + l.length) (lastK a l) r with
    | none => rw [hr] at h; cases h
    | some m' =>
      rw [hr] at h
      simp only [Option.map_some, Option.some.injEq] at h
      subst h
      obtain ⟨i1, i2, i3, i4, i5⟩ := adds_inv r _ _ m' hr
      have hok : okL a (l ++ m') = true := by rw [okL_app, h8, i1]; rfl
      have hnm : ∀ e ∈ l ++ m', norm e = e := fun e he => (List.mem_append.1 he).elim (h3 e) (i2 e)
      by_cases hre : r = []
      · subst hre
        simp only [List.length_nil] at i4
        have hm0 : m' = [] := List.eq_nil_of_length_eq_zero (by omega)
        subst hm0
        refine ⟨hok, hnm, ?_, by simp; omega, fun _ => ⟨h6, by simp; omega⟩⟩
        simp [List.range_succ, List.take_of_length_le h5, h2]
      · obtain ⟨j1, j2⟩ := i5 hre
        have hl8 : l.length = 8 := by omega
        refine ⟨hok, hnm, ?_, by simp only [List.length_cons, List.length_append]; omega, fun _ => ⟨h6, by rw [List.length_append]; omega⟩⟩
        rw [List.length_cons, List.range_succ_eq_map, List.map_cons, List.map_map]
        congr 1
        · rw [Nat.mul_zero, List.drop_zero, List.take_append_of_le_length (by omega), List.take_of_length_le (by omega), h2]
        · refine i3.trans (List.map_congr_left fun i _ => ?_)
          show blockL _ = blockL _
          rw [show 8 * (i + 1) = l.length + 8 * i by omega, List.drop_length_add_append]
/-- What Open opens is a table of it. -/
theorem open_inv (xs : List Int) (m : List Ent) (hb : Bytes xs) (h : openT xs = some m) : mayB 65535 m = true ∧ tableL m = xs ∧ m.map norm = m := by
  unfold openT at h
  split at h
  · cases h
  rename_i X Y hp
  split at h
  · cases h
  rename_i ts hc
  obtain ⟨nb, n1, n2, hY, hX, hxs⟩ := parts_inv xs X Y hb hp
  have hbY : Bytes Y := fun n hn => hb n (by rw [hxs]; simp [hn])
  obtain ⟨c1, c2, c3, c4⟩ := cut_inv (Y.length / 4) X Y ts hbY (by omega) hc
  obtain ⟨a1, a2, a3, a4, a5⟩ := adds_inv ts 0 [] m h
  have htl : ts.length = nb := by omega
  have hne : ts ≠ [] := fun h => by rw [h] at htl; simp at htl; omega
  obtain ⟨_, a7⟩ := a5 hne
  have hnbl : nbl m = ts.length := a4.symm
  have hm1 : 1 ≤ m.length := by omega
  refine ⟨(mayB_iff 65535 m).2 ⟨hm1, by omega, a1⟩, ?_, ?_⟩
  · have hbody : bodyT m (List.range (nbl m)) = X := by
      rw [c1, hnbl]; conv => rhs; rw [a3]
      rfl
    have hlens : lensT m (List.range (nbl m)) = Y := by
      rw [c2, hnbl]; conv => rhs; rw [a3]
      rw [List.map_map]
      rfl
    unfold tableL tailT
    rw [hbody, hlens, List.length_range, hnbl, htl]
    exact hxs.symm
  · have : m.map norm = m.map id := List.map_congr_left (fun e he => a2 e he)
    rw [this, List.map_id]

/-- As the document's own Open goes: block by block. -/
def readT : Nat → List Int → List Int → Option (List Ent)
  | 0, _, _ => some []
  | n + 1, r, bl => if r.length < 4 then none else if (bl.length : Int) < getN r 4 then none else
    match allB (bl.take (getN r 4).toNat) with
    | none => none
    | some l => (readT n (r.drop 4) (bl.drop (getN r 4).toNat)).map (l ++ ·)
def refT (xs : List Int) : Option (List Ent) :=
  if xs.length < 10 then none
  else if ((xs.length - 10 : Nat) : Int) < getN (xs.drop (xs.length - 8)) 4 then none
  else
    let g := (getN (xs.drop (xs.length - 8)) 4).toNat
    let i := (xs.drop g).take (xs.length - 8 - g)
    match readT (getN i 2).toNat (i.drop 2) (xs.take g) with
    | none => none
    | some m => if mayB 65535 m = true ∧ tableL m = xs then some m else none
theorem readT_adds : ∀ (ts : List (List Int)) (c : Nat) (a : List Int) (m : List Ent), (∀ t ∈ ts, t.length < 4294967296) → addsT c a ts = some m → readT ts.length ((ts.map fun t => low 4 (t.length : Int)).flatten) ts.flatten = some m
  | [], c, a, m, _, h => by simp only [addsT, Option.some.injEq] at h; subst h; rfl
  | t :: r, c, a, m, hs, h => by
    unfold addsT at h
    split at h
    · cases h
    rename_i l hl
    obtain ⟨h1, _⟩ := add_inv hl
    cases hr : addsT (c + l.length) (lastK a l) r with
    | none => rw [hr] at h; cases h
    | some m' =>
      rw [hr] at h
      simp only [Option.map_some, Option.some.injEq] at h
      subst h
      have ih := readT_adds r _ _ m' (fun t ht => hs t (by simp [ht])) hr
      have ht := hs t (by simp)
      have g4 := (getN_low 4 (t.length : Int) (by omega) ((r.map fun t => low 4 (t.length : Int)).flatten)).2
      rw [show ((4 : Nat) : Int) = 4 from rfl, show (256 : Int) ^ 4 = 4294967296 by decide, Int.emod_eq_of_lt (by omega) (by omega)] at g4
      rw [List.map_cons, List.flatten_cons, List.flatten_cons, List.length_cons, readT, if_neg (by simp [length_low]), g4, if_neg (by simp; omega)]
      simp only [Int.toNat_natCast]
      rw [List.take_left' rfl, List.drop_left' rfl, List.drop_left' (length_low _ _), h1]
      simp only
      rw [ih]; rfl
theorem readT_norm : ∀ (n : Nat) (r bl : List Int) (m : List Ent), readT n r bl = some m → ∀ e ∈ m, norm e = e
  | 0, r, bl, m, h => by simp only [readT, Option.some.injEq] at h; subst h; simp
  | n + 1, r, bl, m, h => by
    unfold readT at h
    split at h
    · cases h
    split at h
    · cases h
    split at h
    · cases h
    rename_i l hl
    cases hr : readT n (r.drop 4) (bl.drop (getN r 4).toNat) with
    | none => rw [hr] at h; cases h
    | some m' =>
      rw [hr] at h
      simp only [Option.map_some, Option.some.injEq] at h
      subst h
      intro e he
      rcases List.mem_append.1 he with he | he
      · obtain ⟨_, hn⟩ := (allB_iff _ l).1 hl
        obtain ⟨i, hi, rfl⟩ := List.getElem_of_mem he
        have : (l.map norm)[i]? = l[i]? := by rw [hn]
        simpa [hi] using this
      · exact readT_norm n _ _ m' hr e he
theorem refT_eq (xs : List Int) (hb : Bytes xs) : refT xs = openT xs := by
  have hto : ∀ m, refT xs = some m → openT xs = some m := by
    intro m h
    unfold refT at h
    split at h
    · cases h
    split at h
    · cases h
    simp only at h
    split at h
    · cases h
    rename_i m' hm
    split at h
    · rename_i h2
      cases h
      obtain ⟨h3, h4⟩ := h2
      obtain ⟨k1, k2, k3⟩ := (mayB_iff 65535 m).1 h3
      have hn : m.map norm = m := by
        have : m.map norm = m.map id := List.map_congr_left (fun e he => readT_norm _ _ _ m hm e he)
        rw [this, List.map_id]
      rw [← h4]; exact openT_table m k1 k2 k3 hn
    · cases h
  have hfrom : ∀ m, openT xs = some m → refT xs = some m := by
    intro m h
    obtain ⟨o1, o2, _⟩ := open_inv xs m hb h
    have h' := h
    unfold openT at h
    split at h
    · cases h
    rename_i X Y hp
    split at h
    · cases h
    rename_i ts hc
    obtain ⟨nb, n1, n2, hY, hX, hxs⟩ := parts_inv xs X Y hb hp
    have hbY : Bytes Y := fun n hn => hb n (by rw [hxs]; simp [hn])
    obtain ⟨c1, c2, c3, c4⟩ := cut_inv (Y.length / 4) X Y ts hbY (by omega) hc
    have hrd := readT_adds ts 0 [] m c4 h
    rw [← c1, ← c2, c3, show Y.length / 4 = nb by omega] at hrd
    have hxl : xs.length = X.length + 2 + Y.length + 8 := by rw [hxs]; simp [length_low, mariL]; omega
    have d2 : xs.drop (xs.length - 8) = low 4 (X.length : Int) ++ mariL := by
      have e2 : xs = (X ++ low 2 (nb : Int) ++ Y) ++ (low 4 (X.length : Int) ++ mariL) := by rw [hxs]; simp
      rw [show xs.length - 8 = (X ++ low 2 (nb : Int) ++ Y).length by simp [length_low]; omega]
      conv => lhs; rw [e2]
      exact List.drop_left' rfl
    have g4 := (getN_low 4 (X.length : Int) (by omega) mariL).2
    rw [show ((4 : Nat) : Int) = 4 from rfl, show (256 : Int) ^ 4 = 4294967296 by decide, Int.emod_eq_of_lt (by omega) (by omega)] at g4
    have e3 : xs.drop X.length = low 2 (nb : Int) ++ (Y ++ (low 4 (X.length : Int) ++ mariL)) := by
      conv => lhs; rw [hxs]
      exact List.drop_left' rfl
    have d3 : (xs.drop X.length).take (xs.length - 8 - X.length) = low 2 (nb : Int) ++ Y := by
      rw [e3, ← List.append_assoc]
      exact List.take_left' (by rw [List.length_append, length_low]; omega)
    have g2 := (getN_low 2 (nb : Int) (by omega) Y).2
    rw [show ((2 : Nat) : Int) = 2 from rfl, show (256 : Int) ^ 2 = 65536 by decide, Int.emod_eq_of_lt (by omega) (by omega)] at g2
    have d4 : xs.take X.length = X := by
      conv => lhs; rw [hxs]
      exact List.take_left' rfl
    unfold refT
    rw [if_neg (by omega), d2, g4, if_neg (by omega)]
    simp only [Int.toNat_natCast, d3, g2, d4]
    rw [List.drop_left' (length_low _ _), hrd]
    simp only
    rw [if_pos ⟨o1, o2⟩]
  cases h : refT xs with
  | some m => exact (hto m h).symm
  | none =>
    cases h2 : openT xs with
    | none => rfl
    | some m => rw [hfrom m h2] at h; cases h
end Go.Proofs.Yteeemfohehpaeaa
