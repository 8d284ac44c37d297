/- The walk of frame's reader's entry. -/
import Derived.Test.YtondfbjldonogaaWalksL
namespace Go.Proofs.Ytondfbjldonogaa
open Go.RowKit

theorem Boxf.new' (w : World) (k v : Value) (g : Bool) : Boxf (w.alloc (.cells #[k, v, .bool g] 28)) w.heap.size k v g :=
  ⟨(Box.new w k v g).c0, (Box.new w k v g).c1, (Box.new w k v g).c2, fun j => frozen_of_row (w.alloc (.cells #[k, v, .bool g] 28)) w.heap.size j _ 28 (heap_alloc_new w _)⟩

theorem num1_get (xs : List Int) (hb : Bytes xs) (h : ¬ xs.length < 1) : getN xs 1 = num1 xs := by
  match xs, h, hb with
  | [], h, _ => exact absurd (by simp) h
  | a :: r, _, hb =>
    have ha := hb.head
    have hok : okG (a :: r) 1 = true := by simp [okG]; omega
    rw [getN, if_pos hok]
    show joinB 0 a = _
    rw [joinB_eq 0 a (by omega) (by omega) (by omega) (by omega)]
    simp [num1]
theorem num2_get (xs : List Int) (hb : Bytes xs) (h : ¬ xs.length < 2) : getN xs 2 = num2 xs := by
  match xs, h, hb with
  | [], h, _ => exact absurd (by simp) h
  | [_], h, _ => exact absurd (by simp) h
  | a :: b :: r, _, hb =>
    have ha := hb.head
    have hb1 := hb.tail.head
    have hok : okG (a :: b :: r) 2 = true := by simp [okG]; omega
    rw [getN, if_pos hok]
    show joinB (joinB 0 a) b = _
    rw [joinB_eq 0 a (by omega) (by omega) (by omega) (by omega), joinB_eq _ b (by omega) (by omega) (by omega) (by omega)]
    simp [num2]
theorem getD_byte {xs : List Int} (h : Bytes xs) (j : Nat) : 0 ≤ xs.getD j 0 ∧ xs.getD j 0 ≤ 255 := by
  by_cases hj : j < xs.length
  · have e : xs.getD j 0 = xs[j] := by simp [List.getD, hj]
    rw [e]; exact h _ (List.getElem_mem hj)
  · simp [List.getD, hj]
theorem num1_rng {xs : List Int} (h : Bytes xs) : 0 ≤ num1 xs ∧ num1 xs ≤ 255 := getD_byte h 0
theorem num2_rng {xs : List Int} (h : Bytes xs) : 0 ≤ num2 xs ∧ num2 xs ≤ 65535 := by
  have := getD_byte h 0; have := getD_byte h 1
  unfold num2; omega

/-- A number of the reader's, by what takeN says. -/
theorem number_any (W : World) (rb : Nat) (ro : Option Addr) (rl rc : Nat) (xs : List Int) (K : Int) (k : Nat) (hK : K = (k : Int)) (hk0 : 0 < k) (hk : k ≤ 8) (lo hi : Int) (f : List Int → Int) (hf : Bytes xs → ¬ xs.length < k → getN xs k = f xs) (f0 : Bytes xs → 0 ≤ f xs ∧ f xs ≤ 65535) (w : World) (h : Rd W w rb ro rl rc xs) (sr : rl ≤ 900000000) :
    Calls Try.prog 41 #[.pointer (some ⟨rb, 0, none⟩), .int .i64 K, .int .i64 lo, .int .i64 hi] w fun e w' =>
      (∃ v r b o rl' rc', takeN k f lo hi xs = some (v, r) ∧ 0 ≤ v ∧ v ≤ 65535 ∧ lo ≤ v ∧ v ≤ hi ∧ e = .returned (.int .i64 v) ∧ Rd W w' rb (some ⟨b, o, none⟩) rl' rc' r ∧ rl' ≤ 900000000 ∧ Off [rb] w w') ∨ (takeN k f lo hi xs = none ∧ e = .panicked formE ∧ Off [rb] w w') := by
  have hl := h.tx.len_eq
  have hb : Bytes xs := h.tx.rng
  obtain ⟨g1, g2⟩ := f0 hb
  by_cases hno : rl < k ∨ f xs < lo ∨ hi < f xs
  · refine (num_no W rb ro rl rc xs K k hK hk lo hi (f xs) (fun h => hf hb (by omega)) g1 (by omega) w h sr hno).mono ?_
    rintro e w' ⟨rfl, rfl⟩
    exact .inr ⟨by rw [takeN, if_pos (by omega)], rfl, .refl _ _⟩
  · refine (num_yes W rb ro rl rc xs K k hK hk0 hk lo hi (f xs) (fun h => hf hb (by omega)) g1 (by omega) w h sr (by omega) (by omega) (by omega)).mono ?_
    rintro e w' ⟨b, o, rl', rc', rfl, hR, ho⟩
    exact .inl ⟨f xs, xs.drop k, b, o, rl', rc', by rw [takeN, if_neg (by omega)], g1, by omega, by omega, by omega, rfl, hR, by have := hR.tx.len_eq; simp at this; omega, ho⟩

theorem text_any (W : World) (rb : Nat) (b off : Nat) (rl rc : Nat) (xs : List Int) (M : Int) (h0 : 0 ≤ M) (h9 : M ≤ 65535) (w : World) (h : Rd W w rb (some ⟨b, off, none⟩) rl rc xs) (sr : rl ≤ 900000000) :
    Calls Try.prog 48 #[.pointer (some ⟨rb, 0, none⟩), .int .i64 M] w fun e w' =>
      (∃ x r ko kl kc b' o' rl' rc', takeT M.toNat xs = some (x, r) ∧ e = .returned (.slice ko kl kc) ∧ Tx w' ko kl kc x ∧ (∀ ad, ko = some ad → w.heap.size ≤ ad.block) ∧ Rd W w' rb (some ⟨b', o', none⟩) rl' rc' r ∧ rl' ≤ 900000000 ∧ Off [rb] w w') ∨ (takeT M.toNat xs = none ∧ e = .panicked formE ∧ Off [rb] w w') := by
  have hl := h.tx.len_eq
  by_cases hno : rl < M.toNat
  · refine (text_no W rb _ rl rc xs M M.toNat (by omega) w h hno).mono ?_
    rintro e w' ⟨rfl, rfl⟩
    exact .inr ⟨by rw [takeT, if_pos (by omega)], rfl, .refl _ _⟩
  · refine (text_yes W rb b off rl rc xs M M.toNat (by omega) w h hno (by omega)).mono ?_
    rintro e w' ⟨ko, kc, b', o', rl', rc', rfl, tk, fk, hR, ho⟩
    exact .inl ⟨_, _, ko, _, kc, b', o', rl', rc', by rw [takeT, if_neg (by omega)], rfl, tk, fk, hR, by have := hR.tx.len_eq; simp at this; omega, ho⟩

/-- What one entry's reading leaves. -/
def EntPost (W w : World) (rb : Nat) (xs : List Int) (e : Ending) (w' : World) : Prop :=
  (∃ en r ko kl kc vo vl vc b o rl rc, parseE xs = some (en, r) ∧ e = .returned (.agg #[.slice ko kl kc, .slice vo vl vc, .bool en.g]) ∧ Tx w' ko kl kc en.k ∧ Tx w' vo vl vc en.v ∧ (∀ ad, ko = some ad → w.heap.size ≤ ad.block) ∧ (∀ ad, vo = some ad → w.heap.size ≤ ad.block) ∧ Rd W w' rb (some ⟨b, o, none⟩) rl rc r ∧ rl ≤ 900000000 ∧ Off [rb] w w') ∨ (parseE xs = none ∧ e = .panicked formE ∧ Off [rb] w w')

theorem Off.setNew {S : List Nat} {a w : World} (h : Off S a w) {p : Addr} (hp : a.heap.size ≤ p.block) (u : Value) : Off S a (w.setCell p u) :=
  ⟨h.os, h.tape, h.output, Nat.le_trans h.size (by simp [World.setCell]), fun k hk hn => (Below.heap_setCell _ _ _ _ (fun e => by omega)).trans (h.block k hk hn)⟩
theorem Boxf.off {S : List Nat} {w w' : World} {bx : Nat} {k v : Value} {g : Bool} (h : Boxf w bx k v g) (ho : Off S w w') (hn : bx ∉ S) : Boxf w' bx k v g :=
  ⟨ho.cell h.c0 hn, ho.cell h.c1 hn, ho.cell h.c2 hn, fun j => by rw [World.frozen?_of_block (w := w) (ho.block bx (World.block_lt_of_cell? _ _ h.c0) hn)]; exact h.z j⟩
/-- The box is written whole. -/
theorem box_set (w : World) (bx : Nat) (k v a b : Value) (h : Boxf w bx a b false) (c : Value) :
    (((w.setCell ⟨bx, 0, none⟩ k).setCell ⟨bx, 1, none⟩ v).setCell ⟨bx, 2, none⟩ c).cell? ⟨bx, 0, none⟩ = some k ∧ (((w.setCell ⟨bx, 0, none⟩ k).setCell ⟨bx, 1, none⟩ v).setCell ⟨bx, 2, none⟩ c).cell? ⟨bx, 1, none⟩ = some v ∧ (((w.setCell ⟨bx, 0, none⟩ k).setCell ⟨bx, 1, none⟩ v).setCell ⟨bx, 2, none⟩ c).cell? ⟨bx, 2, none⟩ = some c := by
  have e0 : (w.setCell ⟨bx, 0, none⟩ k).cell? ⟨bx, 0, none⟩ = some k := World.cell?_setCell_same _ _ _ h.c0
  have e1 : (w.setCell ⟨bx, 0, none⟩ k).cell? ⟨bx, 1, none⟩ = some b := by rw [World.cell?_setCell_other _ _ _ _ (by simp)]; exact h.c1
  have e2 : (w.setCell ⟨bx, 0, none⟩ k).cell? ⟨bx, 2, none⟩ = some (.bool false) := by rw [World.cell?_setCell_other _ _ _ _ (by simp)]; exact h.c2
  have f0 : ((w.setCell ⟨bx, 0, none⟩ k).setCell ⟨bx, 1, none⟩ v).cell? ⟨bx, 0, none⟩ = some k := by rw [World.cell?_setCell_other _ _ _ _ (by simp)]; exact e0
  have f1 : ((w.setCell ⟨bx, 0, none⟩ k).setCell ⟨bx, 1, none⟩ v).cell? ⟨bx, 1, none⟩ = some v := World.cell?_setCell_same _ _ _ e1
  have f2 : ((w.setCell ⟨bx, 0, none⟩ k).setCell ⟨bx, 1, none⟩ v).cell? ⟨bx, 2, none⟩ = some (.bool false) := by rw [World.cell?_setCell_other _ _ _ _ (by simp)]; exact e2
  exact ⟨by rw [World.cell?_setCell_other _ _ _ _ (by simp)]; exact f0, by rw [World.cell?_setCell_other _ _ _ _ (by simp)]; exact f1, World.cell?_setCell_same _ _ _ f2⟩

/-- The end of an entry's reading: the box is written and handed back. -/
theorem ent_end {W w V : World} {rb : Nat} {xs r : List Int} {en : Ent} {ko vo : Option Addr} {kl kc vl vc b o rl rc : Nat} (hp : parseE xs = some (en, r)) (tk : Tx V ko kl kc en.k) (tv : Tx V vo vl vc en.v) (fk : ∀ ad, ko = some ad → w.heap.size < ad.block) (fv : ∀ ad, vo = some ad → w.heap.size < ad.block) (hR : Rd W V rb (some ⟨b, o, none⟩) rl rc r) (hrb : rb < w.heap.size) (hW : W.heap.size ≤ w.heap.size) (hl : rl ≤ 900000000) (ho : Off [rb] w V) (c : Value) (hc : c = .bool en.g) :
    EntPost W w rb xs (.returned (.agg #[.slice ko kl kc, .slice vo vl vc, c])) (((V.setCell ⟨w.heap.size, 0, none⟩ (.slice ko kl kc)).setCell ⟨w.heap.size, 1, none⟩ (.slice vo vl vc)).setCell ⟨w.heap.size, 2, none⟩ c) := by
  subst hc
  have hne : ∀ (o1 : Option Addr) (l : Nat), (∀ ad, o1 = some ad → w.heap.size < ad.block) → ∀ ad, o1 = some ad → 0 < l → ad.block ≠ w.heap.size := fun o1 l f ad ha _ => by have := f ad ha; omega
  have O3 : Off [w.heap.size] V (((V.setCell ⟨w.heap.size, 0, none⟩ (.slice ko kl kc)).setCell ⟨w.heap.size, 1, none⟩ (.slice vo vl vc)).setCell ⟨w.heap.size, 2, none⟩ (.bool en.g)) :=
    (((Off.refl [w.heap.size] V).setCell (p := ⟨w.heap.size, 0, none⟩) (by simp) _).setCell (p := ⟨w.heap.size, 1, none⟩) (by simp) _).setCell (p := ⟨w.heap.size, 2, none⟩) (by simp) _
  refine .inl ⟨en, r, ko, kl, kc, vo, vl, vc, b, o, rl, rc, hp, rfl, ?_, ?_, fun ad ha => Nat.le_of_lt (fk ad ha), fun ad ha => Nat.le_of_lt (fv ad ha), ?_, hl, ?_⟩
  · exact tk.off O3 (fun ad ha h0 hk => by simp at hk; exact hne ko kl fk ad ha h0 hk)
  · exact tv.off O3 (fun ad ha h0 hk => by simp at hk; exact hne vo vl fv ad ha h0 hk)
  · exact hR.off O3 (by simp; omega) (by simpa using hW)
  · exact ((ho.setNew (p := ⟨w.heap.size, 0, none⟩) (Nat.le_refl _) _).setNew (p := ⟨w.heap.size, 1, none⟩) (Nat.le_refl _) _).setNew (p := ⟨w.heap.size, 2, none⟩) (Nat.le_refl _) _

set_option maxHeartbeats 4000000 in
theorem entry_any (W : World) (rb : Nat) (ro : Option Addr) (rl rc : Nat) (xs : List Int) (w : World) (h : Rd W w rb ro rl rc xs) (sr : rl ≤ 900000000) :
    Calls Try.prog 42 #[.pointer (some ⟨rb, 0, none⟩)] w fun e w' => EntPost W w rb xs e w' := by
  have hbel : Below w.heap.size w (w.alloc (.cells #[.slice none 0 0, .slice none 0 0, .bool false] 28)) := (Below.refl _ _).alloc (Nat.le_refl _) _
  have h1 := h.later hbel
  have hrb := h.lt
  have hWs := h.bel.size
  have bx0 := Boxf.new' w (.slice none 0 0) (.slice none 0 0) false
  have hsz0 : w.heap.size < (w.alloc (.cells #[.slice none 0 0, .slice none 0 0, .bool false] 28)).heap.size := by simp
  have O0 : Off [rb] w (w.alloc (.cells #[.slice none 0 0, .slice none 0 0, .bool false] 28)) := .of_below hbel
  have n1 := number_any W rb ro rl rc xs 1 1 rfl (by omega) (by omega) 0 1 num1 (num1_get xs) (fun hb => by have := num1_rng hb; omega) _ h1 sr
  have hbx : w.heap.size ∉ [rb] := by simp; omega
  go_enter Try.func42, Try.ntmps42
  go_wp2_with fail
  with_reducible refine n1.mono ?_
  clear n1
  rintro e w1 (⟨v1, r1, b1, o1, rl1, rc1, p1, v10, v19, v1l, v1h, rfl, R1, s1, O1⟩ | ⟨p1, rfl, O1⟩)
  rotate_left
  · go_wp2
    exact ⟨rfl, .inr ⟨by simp only [parseE, p1], rfl, O0.trans O1⟩⟩
  have bx1 := bx0.off O1 hbx
  replace O1 := O0.trans O1
  have hz1 := bx1.lt
  clear bx0 hbel O0 h1 hsz0
  have n2 := number_any W rb _ rl1 rc1 r1 1 1 rfl (by omega) (by omega) 1 255 num1 (num1_get r1) (fun hb => by have := num1_rng hb; omega) w1 R1 s1
  have hv1 : v1 = 0 ∨ v1 = 1 := by omega
  clear v10 v19 v1l v1h
  go_wp2_with fail
  with_reducible refine n2.mono ?_
  clear n2
  rintro e w2 (⟨v2, r2, b2, o2, rl2, rc2, p2, v20, v29, v2l, v2h, rfl, R2, s2, O2⟩ | ⟨p2, rfl, O2⟩)
  rotate_left
  · go_wp2
    exact ⟨rfl, .inr ⟨by simp only [parseE, p1, p2], rfl, O1.trans O2⟩⟩
  have bx2 := bx1.off O2 hbx
  replace O2 := O1.trans O2
  have hz2 := bx2.lt
  clear bx1 R1 O1
  have n3 := text_any W rb b2 o2 rl2 rc2 r2 v2 v20 v29 w2 R2 s2
  go_wp2_with fail
  with_reducible refine n3.mono ?_
  clear n3
  rintro e w3 (⟨x3, r3, ko, kl, kc, b3, o3, rl3, rc3, p3, rfl, tk, fk, R3, s3, O3⟩ | ⟨p3, rfl, O3⟩)
  rotate_left
  · go_wp2
    exact ⟨rfl, .inr ⟨by simp only [parseE, p1, p2, p3], rfl, O2.trans O3⟩⟩
  have bx3 := bx2.off O3 hbx
  replace O3 := O2.trans O3
  have hz3 := bx3.lt
  clear bx2 R2 O2
  have fk' : ∀ ad, ko = some ad → w.heap.size < ad.block := fun ad ha => by have := fk ad ha; omega
  clear fk
  rcases hv1 with rfl | rfl
  · have hpar : parseE xs = some (⟨x3, [], true⟩, r3) := by simp only [parseE, p1, p2, p3, if_true]
    have hend := ent_end (W := W) (w := w) (V := w3) (rb := rb) hpar tk (Tx.nil w3) fk' (fun _ h => by cases h) R3 hrb hWs s3 O3 (.bool true) rfl
    obtain ⟨x0, x1, x2, z⟩ := bx3
    have q := box_set w3 w.heap.size (.slice ko kl kc) (.slice none 0 0) _ _ ⟨x0, x1, x2, z⟩ (.bool true)
    have z0 := z 0
    have z1 := z 1
    have z2 := z 2
    go_wp2
    generalize ((w3.setCell ⟨w.heap.size, 0, none⟩ (.slice ko kl kc)).setCell ⟨w.heap.size, 1, none⟩ (.slice none 0 0)).setCell ⟨w.heap.size, 2, none⟩ (.bool true) = F at q hend ⊢
    obtain ⟨q0, q1, q2⟩ := q
    exact bodyPost_ret (v := .agg #[.slice ko kl kc, .slice none 0 0, .bool true]) (by simp [results, Try.results42, go_sem, q0, q1, q2]) rfl hend
  · have n4 := number_any W rb _ rl3 rc3 r3 2 2 rfl (by omega) (by omega) 0 4095 num2 (num2_get r3) (fun hb => num2_rng hb) w3 R3 s3
    go_wp2_with fail
    with_reducible refine n4.mono ?_
    clear n4
    rintro e w4 (⟨v4, r4, b4, o4, rl4, rc4, p4, v40, v49, v4l, v4h, rfl, R4, s4, O4⟩ | ⟨p4, rfl, O4⟩)
    rotate_left
    · go_wp2
      exact ⟨rfl, .inr ⟨by simp only [parseE, p1, p2, p3, p4, show ((1 : Int) = 0) = False by simp, if_false], rfl, O3.trans O4⟩⟩
    have bx4 := bx3.off O4 hbx
    have tk4 := tk.off O4 (fun ad ha _ hk => by have := fk' ad ha; simp at hk; omega)
    replace O4 := O3.trans O4
    have hz4 := bx4.lt
    clear bx3 R3 O3 tk
    have n5 := text_any W rb b4 o4 rl4 rc4 r4 v4 v40 v49 w4 R4 s4
    go_wp2_with fail
    with_reducible refine n5.mono ?_
    clear n5
    rintro e w5 (⟨x5, r5, vo, vl, vc, b5, o5, rl5, rc5, p5, rfl, tv, fv, R5, s5, O5⟩ | ⟨p5, rfl, O5⟩)
    rotate_left
    · go_wp2
      exact ⟨rfl, .inr ⟨by simp only [parseE, p1, p2, p3, p4, p5, show ((1 : Int) = 0) = False by simp, if_false], rfl, O4.trans O5⟩⟩
    have bx5 := bx4.off O5 hbx
    have tk5 := tk4.off O5 (fun ad ha _ hk => by have := fk' ad ha; simp at hk; omega)
    replace O5 := O4.trans O5
    clear bx4 R4 O4 tk4
    have fv' : ∀ ad, vo = some ad → w.heap.size < ad.block := fun ad ha => by have := fv ad ha; omega
    have hpar : parseE xs = some (⟨x3, x5, false⟩, r5) := by simp only [parseE, p1, p2, p3, p4, p5, show ((1 : Int) = 0) = False by simp, if_false]
    have hend := ent_end (W := W) (w := w) (V := w5) (rb := rb) hpar tk5 tv fk' fv' R5 hrb hWs s5 O5 (.bool false) rfl
    obtain ⟨x0, x1, x2, z⟩ := bx5
    have q := box_set w5 w.heap.size (.slice ko kl kc) (.slice vo vl vc) _ _ ⟨x0, x1, x2, z⟩ (.bool false)
    have z0 := z 0
    have z1 := z 1
    have z2 := z 2
    go_wp2
    generalize ((w5.setCell ⟨w.heap.size, 0, none⟩ (.slice ko kl kc)).setCell ⟨w.heap.size, 1, none⟩ (.slice vo vl vc)).setCell ⟨w.heap.size, 2, none⟩ (.bool false) = F at q hend ⊢
    obtain ⟨q0, q1, q2⟩ := q
    exact bodyPost_ret (v := .agg #[.slice ko kl kc, .slice vo vl vc, .bool false]) (by simp [results, Try.results42, go_sem, q0, q1, q2]) rfl hend

end Go.Proofs.Ytondfbjldonogaa
