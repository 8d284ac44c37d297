/- The walk of block's reader's entry. -/
import Derived.Test.YteeemfohehpaeaaBWalksD
import Derived.Test.YteeemfohehpaeaaPC
namespace Go.Proofs.Yteeemfohehpaeaa
set_option maxRecDepth 100000
open Go.RowKit

/-- A number of the reader's, by what numB says. -/
theorem bnumber_any (W : World) (rb : Nat) (ro : Option Addr) (rl rc : Nat) (xs : List Int) (K : Int) (k : Nat) (hK : K = (k : Int)) (hk0 : 0 < k) (hk : k ≤ 8) (f : List Int → Int) (top : Int) (ht : top ≤ 65535) (hf : Bytes xs → ¬ xs.length < k → getN xs k = f xs) (f0 : Bytes xs → 0 ≤ f xs ∧ f xs ≤ top) (w : World) (h : Rd W w rb ro rl rc xs) (sr : rl ≤ 900000000) :
    Calls Try.prog 75 #[.pointer (some ⟨rb, 0, none⟩), .int .i64 K] w fun e w' =>
      (∃ v r b o rl' rc', numB k f xs = some (v, r) ∧ 0 ≤ v ∧ v ≤ top ∧ e = .returned (.int .i64 v) ∧ Rd W w' rb (some ⟨b, o, none⟩) rl' rc' r ∧ rl' ≤ 900000000 ∧ Off [rb] w w') ∨ (numB k f xs = none ∧ e = .panicked formE ∧ Off [rb] w w') := by
  have hl := h.tx.len_eq
  have hb : Bytes xs := h.tx.rng
  obtain ⟨g1, g2⟩ := f0 hb
  by_cases hno : rl < k
  · refine (bnum_no W rb ro rl rc xs K k hK hk w h hno).mono ?_
    rintro e w' ⟨rfl, rfl⟩
    exact .inr ⟨by rw [numB, if_pos (by omega)], rfl, .refl _ _⟩
  · refine (bnum_yes W rb ro rl rc xs K k hK hk0 hk (f xs) (fun h => hf hb (by omega)) g1 (by omega) w h sr (by omega)).mono ?_
    rintro e w' ⟨b, o, rl', rc', rfl, hR, ho⟩
    exact .inl ⟨f xs, xs.drop k, b, o, rl', rc', by rw [numB, if_neg (by omega)], g1, g2, rfl, hR, by have := hR.tx.len_eq; simp at this; omega, ho⟩
theorem btext_any (W : World) (rb : Nat) (b off : Nat) (rl rc : Nat) (xs : List Int) (M : Int) (h0 : 0 ≤ M) (h9 : M ≤ 65535) (w : World) (h : Rd W w rb (some ⟨b, off, none⟩) rl rc xs) (sr : rl ≤ 900000000) :
    Calls Try.prog 76 #[.pointer (some ⟨rb, 0, none⟩), .int .i64 M] w fun e w' =>
      (∃ x r ko kl kc b' o' rl' rc', takeT M.toNat xs = some (x, r) ∧ e = .returned (.slice ko kl kc) ∧ Tx W ko kl kc x ∧ kl ≤ 65535 ∧ Rd W w' rb (some ⟨b', o', none⟩) rl' rc' r ∧ rl' ≤ 900000000 ∧ Off [rb] w w') ∨ (takeT M.toNat xs = none ∧ e = .panicked formE ∧ Off [rb] w w') := by
  have hl := h.tx.len_eq
  by_cases hno : rl < M.toNat
  · refine (btext_no W rb _ rl rc xs M M.toNat (by omega) w h hno).mono ?_
    rintro e w' ⟨rfl, rfl⟩
    exact .inr ⟨by rw [takeT, if_pos (by omega)], rfl, .refl _ _⟩
  · refine (btext_yes W rb b off rl rc xs M M.toNat (by omega) w h hno (by omega)).mono ?_
    rintro e w' ⟨b', o', rl', rc', rfl, tk, hR, ho⟩
    exact .inl ⟨_, _, _, _, _, b', o', rl', rc', by rw [takeT, if_neg (by omega)], rfl, tk, by omega, hR, by have := hR.tx.len_eq; simp at this; omega, ho⟩

/-- Two texts in a row of their own. -/
theorem lx_two (w : World) {A B : Value} {x y : List Int} (ha : BytesAt w [] A x) (hb : BytesAt w [] B y) : Lx 1 RB (w.alloc (.cells #[A, B] 23)) (some ⟨w.heap.size, 0, none⟩) 2 2 [x, y] := by
  have hbel : Below w.heap.size w (w.alloc (.cells #[A, B] 23)) := (Below.refl _ _).alloc (Nat.le_refl _) _
  have hcell : ∀ j v, [A, B][j]? = some v → (w.alloc (.cells #[A, B] 23)).cell? ⟨w.heap.size, j, none⟩ = some v := fun j v hv => by
    rw [cell_of_row _ w.heap.size j #[A, B] 23 (0, 0) (heap_alloc_new w _)]
    simpa using hv
  refine ⟨rfl, Nat.le_refl _, by unfold maxLen; omega, fun h => (by cases h), fun ad h j e he => ?_⟩
  cases h
  have hR : ∀ (v : Value) (xs : List Int), [A, B][j]? = some v → BytesAt w [] v xs → e = xs → ∃ u : List Value, (∀ (i : Nat) (x : Value), u[i]? = some x → (w.alloc (.cells #[A, B] 23)).cell? ((⟨w.heap.size, 0, none⟩ : Addr).add (j * 1 + i)) = some x) ∧ RB (w.alloc (.cells #[A, B] 23)) [] u e := by
    intro v xs hv hat he
    subst he
    refine ⟨[v], fun i x hx => ?_, v, rfl, hat.off (.of_below hbel) (by simp)⟩
    have hi : i = 0 := by have := (List.getElem?_eq_some_iff.1 hx).1; simp at this; omega
    subst hi
    simp at hx
    subst hx
    rw [Addr.add_lit, Nat.zero_add, Nat.mul_one, Nat.add_zero]
    exact hcell j v hv
  match j, he with
  | 0, he => exact hR A x rfl ha (by simpa using he.symm)
  | 1, he => exact hR B y rfl hb (by simpa using he.symm)
  | j + 2, he => simp at he

/-- What one entry's reading leaves. -/
def BEnt (W w : World) (rb : Nat) (p xs : List Int) (e : Ending) (w' : World) : Prop :=
  (∃ en r ko kl kc vo vl vc b o rl rc, parseB false p xs = some (en, r) ∧ e = .returned (.agg #[.slice ko kl kc, .slice vo vl vc, .bool en.g]) ∧ Tx w' ko kl kc en.k ∧ Tx w' vo vl vc en.v ∧ (∀ ad, ko = some ad → 0 < kl → w.heap.size ≤ ad.block) ∧ (∀ ad, vo = some ad → 0 < vl → w.heap.size ≤ ad.block) ∧ kl ≤ 100000 ∧ Rd W w' rb (some ⟨b, o, none⟩) rl rc r ∧ rl ≤ 900000000 ∧ Off [rb] w w') ∨ (parseB false p xs = none ∧ e = .panicked formE ∧ Off [rb] w w')

theorem bent_end {W w V : World} {rb : Nat} {p xs r : List Int} {en : Ent} {ko vo : Option Addr} {kl kc vl vc b o rl rc : Nat} (hp : parseB false p xs = some (en, r)) (tk : Tx V ko kl kc en.k) (tv : Tx V vo vl vc en.v) (fk : ∀ ad, ko = some ad → 0 < kl → w.heap.size < ad.block) (fv : ∀ ad, vo = some ad → 0 < vl → w.heap.size < ad.block) (hk : kl ≤ 100000) (hR : Rd W V rb (some ⟨b, o, none⟩) rl rc r) (hrb : rb < w.heap.size) (hW : W.heap.size ≤ w.heap.size) (hl : rl ≤ 900000000) (ho : Off [rb] w V) (c : Value) (hc : c = .bool en.g) :
    BEnt W w rb p xs (.returned (.agg #[.slice ko kl kc, .slice vo vl vc, c])) (((V.setCell ⟨w.heap.size, 0, none⟩ (.slice ko kl kc)).setCell ⟨w.heap.size, 1, none⟩ (.slice vo vl vc)).setCell ⟨w.heap.size, 2, none⟩ c) := by
  subst hc
  have hne : ∀ (o1 : Option Addr) (l : Nat), (∀ ad, o1 = some ad → 0 < l → w.heap.size < ad.block) → ∀ ad, o1 = some ad → 0 < l → ad.block ≠ w.heap.size := fun o1 l f ad ha h0 => by have := f ad ha h0; omega
  have O3 : Off [w.heap.size] V (((V.setCell ⟨w.heap.size, 0, none⟩ (.slice ko kl kc)).setCell ⟨w.heap.size, 1, none⟩ (.slice vo vl vc)).setCell ⟨w.heap.size, 2, none⟩ (.bool en.g)) :=
    (((Off.refl [w.heap.size] V).setCell (p := ⟨w.heap.size, 0, none⟩) (by simp) _).setCell (p := ⟨w.heap.size, 1, none⟩) (by simp) _).setCell (p := ⟨w.heap.size, 2, none⟩) (by simp) _
  refine .inl ⟨en, r, ko, kl, kc, vo, vl, vc, b, o, rl, rc, hp, rfl, ?_, ?_, fun ad ha h0 => Nat.le_of_lt (fk ad ha h0), fun ad ha h0 => Nat.le_of_lt (fv ad ha h0), hk, ?_, hl, ?_⟩
  · exact tk.off O3 (fun ad ha h0 hk => by simp at hk; exact hne ko kl fk ad ha h0 hk)
  · exact tv.off O3 (fun ad ha h0 hk => by simp at hk; exact hne vo vl fv ad ha h0 hk)
  · exact hR.off O3 (by simp; omega) (by simpa using hW)
  · exact ((ho.setNew (p := ⟨w.heap.size, 0, none⟩) (Nat.le_refl _) _).setNew (p := ⟨w.heap.size, 1, none⟩) (Nat.le_refl _) _).setNew (p := ⟨w.heap.size, 2, none⟩) (Nat.le_refl _) _

set_option maxHeartbeats 4000000 in
theorem bentry_any (W : World) (rb : Nat) (ro : Option Addr) (rl rc : Nat) (xs : List Int) (po : Option Addr) (pl pc : Nat) (p : List Int) (w : World) (h : Rd W w rb ro rl rc xs) (sr : rl ≤ 900000000) (tp : Tx w po pl pc p) (np : ∀ ad, po = some ad → 0 < pl → ad.block ≠ rb) :
    Calls Try.prog 74 #[.pointer (some ⟨rb, 0, none⟩), .slice po pl pc] w fun e w' => BEnt W w rb p xs e w' := by
  have hbel : Below w.heap.size w (w.alloc (.cells #[.slice none 0 0, .slice none 0 0, .bool false] 25)) := (Below.refl _ _).alloc (Nat.le_refl _) _
  have h1 := h.later hbel
  have hrb := h.lt
  have hWs := h.bel.size
  have bx0 := Boxf.new' w (.slice none 0 0) (.slice none 0 0) false
  have O0 : Off [rb] w (w.alloc (.cells #[.slice none 0 0, .slice none 0 0, .bool false] 25)) := .of_below hbel
  have n1 := bnumber_any W rb ro rl rc xs 1 1 rfl (by omega) (by omega) num1 255 (by omega) (num1_get xs) (fun hb => num1_rng hb) _ h1 sr
  have hbx : w.heap.size ∉ [rb] := by simp; omega
  have tpl := tp.len_eq
  have tple := tp.le
  have tptop := tp.top
  unfold maxLen at tptop
  have np' : ∀ ad, po = some ad → 0 < pl → ad.block ∉ [rb] := fun ad ha h0 => by simpa using np ad ha h0
  go_enter Try.func74, Try.ntmps74
  go_wp2_with fail
  with_reducible refine n1.mono ?_
  clear n1
  rintro e w1 (⟨v1, r1, b1, o1, rl1, rc1, p1, v10, v19, rfl, R1, s1, O1⟩ | ⟨p1, rfl, O1⟩)
  rotate_left
  · go_wp2
    exact ⟨rfl, .inr ⟨by simp only [parseB, p1], rfl, O0.trans O1⟩⟩
  have bx1 := bx0.off O1 hbx
  replace O1 := O0.trans O1
  have hz1 := bx1.lt
  clear bx0 hbel O0 h1
  obtain ⟨s, rfl⟩ : ∃ s : Nat, v1 = (s : Int) := ⟨v1.toNat, by omega⟩
  by_cases hps : pl < s
  · go_wp2
    exact ⟨rfl, .inr ⟨by simp only [parseB, p1]; rw [if_pos (by omega)], rfl, O1⟩⟩
  have hsp : s ≤ pc := by omega
  have hR1l := R1.tx.len_eq
  have hb1 : Bytes r1 := R1.tx.rng
  have R1d := R1.later ((Below.refl _ _).drew)
  by_cases hn2 : rl1 < 1
  · have p2 : numB 1 num1 r1 = none := by rw [numB, if_pos (by omega)]
    have n2 := bnum_no W rb _ rl1 rc1 r1 1 1 rfl (by omega) w1.drew R1d hn2
    have hfin : ∀ tm, bodyPost Try.prog Try.f74 (fun e w' => BEnt W w rb p xs e w') (Exit.panic formE) ⟨tm, []⟩ w1.drew := fun _ => ⟨rfl, .inr ⟨by simp only [parseB, p1, p2, if_neg (show ¬ (p.length : Int) < (s : Int) by omega)], rfl, O1.drew⟩⟩
    go_wp2_with fail
    refine wp_region_any (by kernel_rfl) ?_
    change wpAny _ _ _ _ _ _ _ (World.drew _)
    refine wpAny_take (i := 0) (v := ?_) rfl (by kernel_rfl) (by kernel_rfl) (by kernel_rfl) (fun _ _ _ h => h) (Or.inl ⟨by rfl, ?_⟩) ?_
    rotate_left
    · intro w; go_simp; try (with_reducible rfl)
    refine wpAny_take (i := 1) (v := ?_) rfl (by kernel_rfl) (by kernel_rfl) (by kernel_rfl) (fun _ _ _ h => h) (Or.inl ⟨by rfl, ?_⟩) ?_
    rotate_left
    · intro w; go_simp; try (with_reducible rfl)
    refine wpAny_take (i := 2) (v := ?_) rfl (by kernel_rfl) (by kernel_rfl) (by kernel_rfl) (fun _ _ _ h => h) (Or.inl ⟨by rfl, ?_⟩) ?_
    rotate_left
    · intro w; go_simp; try (with_reducible rfl)
    refine wpAny_take (i := 3) (v := ?_) rfl (by kernel_rfl) (by kernel_rfl) (by kernel_rfl) (fun _ _ _ h => h) (Or.inl ⟨by rfl, ?_⟩) ?_
    rotate_left
    · intro w; go_simp; try (with_reducible rfl)
    refine wpAny_take (i := 4) (v := ?_) rfl (by kernel_rfl) (by kernel_rfl) (by kernel_rfl) (fun _ _ _ h => h) (Or.inl ⟨by rfl, ?_⟩) ?_
    rotate_left
    · intro w; go_simp; try (with_reducible rfl)
    refine wpAny_ready (rs := [5]) (by kernel_rfl) (by simp) ?_
    refine AllReady.cons rfl (fun K hK => ?_) AllReady.nil
    go_simp
    with_reducible refine n2.mono ?_
    rintro e w2 ⟨rfl, rfl⟩
    exact hfin _
  have g2 := num1_rng hb1
  obtain ⟨m, hm⟩ : ∃ m : Nat, Hid (num1 r1 = (m : Int)) := ⟨(num1 r1).toNat, by show _ = _; omega⟩
  rw [hm.out] at g2
  have p2 : numB 1 num1 r1 = some ((m : Int), r1.drop 1) := by rw [numB, if_neg (by omega), hm.out]
  have n2 := bnum_yes W rb _ rl1 rc1 r1 1 1 rfl (by omega) (by omega) (m : Int) (fun _ => by rw [← hm.out]; exact num1_get r1 hb1 (by omega)) (by omega) (by omega) w1.drew R1d s1 hn2
  have hl2 : (r1.drop 1).length = rl1 - 1 := by simp; omega
  generalize r1.drop 1 = r2 at p2 n2 hl2
  by_cases hn3 : rl1 - 1 < m
  · have p3 : takeT m r2 = none := by rw [takeT, if_pos (by omega)]
    have hfin : ∀ V, Off [rb] w1.drew V → ∀ tm, bodyPost Try.prog Try.f74 (fun e w' => BEnt W w rb p xs e w') (Exit.panic formE) ⟨tm, []⟩ V := fun V ho _ => ⟨rfl, .inr ⟨by simp only [parseB, p1, p2, p3, if_neg (show ¬ (p.length : Int) < (s : Int) by omega), Int.toNat_natCast], rfl, O1.drew.trans ho⟩⟩
    go_wp2_with fail
    refine wp_region_any (by kernel_rfl) ?_
    change wpAny _ _ _ _ _ _ _ (World.drew _)
    refine wpAny_take (i := 0) (v := ?_) rfl (by kernel_rfl) (by kernel_rfl) (by kernel_rfl) (fun _ _ _ h => h) (Or.inl ⟨by rfl, ?_⟩) ?_
    rotate_left
    · intro w; go_simp; try (with_reducible rfl)
    refine wpAny_take (i := 1) (v := ?_) rfl (by kernel_rfl) (by kernel_rfl) (by kernel_rfl) (fun _ _ _ h => h) (Or.inl ⟨by rfl, ?_⟩) ?_
    rotate_left
    · intro w; go_simp; try (with_reducible rfl)
    refine wpAny_take (i := 2) (v := ?_) rfl (by kernel_rfl) (by kernel_rfl) (by kernel_rfl) (fun _ _ _ h => h) (Or.inl ⟨by rfl, ?_⟩) ?_
    rotate_left
    · intro w; go_simp; try (with_reducible rfl)
    refine wpAny_take (i := 3) (v := ?_) rfl (by kernel_rfl) (by kernel_rfl) (by kernel_rfl) (fun _ _ _ h => h) (Or.inl ⟨by rfl, ?_⟩) ?_
    rotate_left
    · intro w; go_simp; try (with_reducible rfl)
    refine wpAny_take (i := 4) (v := ?_) rfl (by kernel_rfl) (by kernel_rfl) (by kernel_rfl) (fun _ _ _ h => h) (Or.inl ⟨by rfl, ?_⟩) ?_
    rotate_left
    · intro w; go_simp; try (with_reducible rfl)
    refine wpAny_ready (rs := [5]) (by kernel_rfl) (by simp) ?_
    refine AllReady.cons rfl (fun K hK => ?_) AllReady.nil
    go_simp
    with_reducible refine n2.mono ?_
    rintro e w2 ⟨b2, o2, rl2, rc2, rfl, R2, O2⟩
    have hR2 := R2.tx.len_eq
    have n3 := btext_no W rb _ rl2 rc2 r2 (m : Int) m rfl w2 R2 (by omega)
    (with_reducible refine hK _ _ ?_)
    clear hK K
    refine wpAny_ready (rs := [6]) (by kernel_rfl) (by simp) ?_
    refine AllReady.cons rfl (fun K hK => ?_) AllReady.nil
    go_simp
    with_reducible refine n3.mono ?_
    rintro e w3 ⟨rfl, rfl⟩
    exact hfin _ O2 _
  have p3 : takeT m r2 = some (r2.take m, r2.drop m) := by rw [takeT, if_neg (by omega)]
  have hl3 : (r2.drop m).length ≤ 900000000 := by simp; omega
  have hcl : ∀ (w2 : World) (b2 o2 rl2 rc2 : Nat), Rd W w2 rb (some ⟨b2, o2, none⟩) rl2 rc2 r2 → Off [rb] w1.drew w2 → Calls Try.prog 76 #[.pointer (some ⟨rb, 0, none⟩), .int .i64 (m : Int)] w2 fun e w' => ∃ ko kc b' o' rl' rc', e = .returned (.slice ko m kc) ∧ BytesAt w' [] (.slice ko m kc) (r2.take m) ∧ BytesAt w' [] (.slice po s pc) (p.take s) ∧ Rd W w' rb (some ⟨b', o', none⟩) rl' rc' (r2.drop m) ∧ Off [rb] w1 w' ∧ Off [rb] w w' := by
    intro w2 b2 o2 rl2 rc2 R2 O2
    have hR2 := R2.tx.len_eq
    refine (btext_yes W rb b2 o2 rl2 rc2 r2 m m rfl w2 R2 (by omega) (by omega)).mono ?_
    rintro e w3 ⟨b3, o3, rl3, rc3, rfl, tk, R3, O3⟩
    have O13 := (O1.drew.trans O2).trans O3
    exact ⟨_, _, b3, o3, rl3, rc3, rfl, (tk.later R3.bel).at [] (by simp), ((tp.off O13 np').take s (by omega)).at [] (by simp), R3, ((Off.refl _ _).drew.trans O2).trans O3, O13⟩
  have hfl : Hid ([p.take s, r2.take m].flatten = p.take s ++ r2.take m) := by show _ = _; simp
  have hfl2 : [p.take s, r2.take m].flatten.length ≤ 900000000 := by simp; omega
  have hfl3 : (p.take s ++ r2.take m).length ≤ 100000 := by simp; omega
  have hz1' := bx1.off ((Off.refl [rb] w1).drew) hbx
  clear hm
  have hle3 : (r2.take m).length = m := by simp; omega
  generalize r2.take m = t at p3 hcl hfl hfl2 hfl3 hle3
  generalize r2.drop m = r3 at p3 hcl hl3
  obtain ⟨ps, hps3⟩ : ∃ ps, Hid (p.take s = ps) := ⟨_, rfl⟩
  rw [hps3.out] at hcl hfl hfl2 hfl3
  go_wp2_with fail
  go_region_with (first
    | (go_at_call 75; with_reducible refine n2.mono ?_; rintro e w2 ⟨b2, o2, rl2, rc2, rfl, R2, O2⟩; have n3 := hcl w2 b2 o2 rl2 rc2 R2 O2)
    | (go_at_call 76; with_reducible refine n3.mono ?_; rintro e w3 ⟨ko, kc, b3, o3, rl3, rc3, rfl, tk, tpp, R3, O13, O3⟩; have lx := lx_two w3 tpp tk)
    | (go_at_call 37; with_reducible refine (concat_far _ _ _ _ _ lx hfl2 (by omega) (by omega)).mono ?_; rintro e w4 ⟨co, lc, cc, rfl, tc, fc, b4⟩))
  have B34 : Below w3.heap.size w3 w4 := ((Below.refl _ _).alloc (Nat.le_refl _) _).trans (b4.mono (by simp))
  have R4 := R3.later B34
  have O4 : Off [rb] w w4 := O3.trans (.of_below B34)
  have s3 : rl3 ≤ 900000000 := by have := R3.tx.len_eq; omega
  have tc4 : Tx w4 co lc cc (ps ++ t) := by rw [← hfl.out]; exact tc
  have hlc : lc ≤ 100000 := by have := tc4.len_eq; omega
  have O14 : Off [rb] w1 w4 := O13.trans (.of_below B34)
  have bx4 := bx1.off O14 hbx
  have fk : ∀ ad, co = some ad → 0 < lc → w.heap.size < ad.block := fun ad ha h0 => by have h1 := fc ad ha h0; have h2 := O13.size; simp at h1; omega
  have hz4 := bx4.lt
  have hpk := hps3.out
  clear hcl n2 lx bx1 R3 R1 R1d O13 O3 O2 O1 tc hfl hfl2 b4 B34 tk tpp hps3 hz1'
  have n5 := bnumber_any W rb _ rl3 rc3 r3 1 1 rfl (by omega) (by omega) num1 255 (by omega) (num1_get r3) (fun hb => num1_rng hb) w4 R4 s3
  go_wp2_with fail
  with_reducible refine n5.mono ?_
  clear n5
  rintro e w5 (⟨v5, r5, b5, o5, rl5, rc5, p5, v50, v59, rfl, R5, s5, O5⟩ | ⟨p5, rfl, O5⟩)
  rotate_left
  · go_wp2
    exact ⟨rfl, .inr ⟨by simp only [parseB, p1, p2, p3, p5, if_neg (show ¬ (p.length : Int) < (s : Int) by omega), Int.toNat_natCast], rfl, O4.trans O5⟩⟩
  have bx5 := bx4.off O5 hbx
  have tc5 := tc4.off O5 (fun ad ha h0 hk => by have := fk ad ha h0; simp at hk; omega)
  replace O5 := O4.trans O5
  have hz5 := bx5.lt
  clear bx4 R4 O4 tc4 O14
  by_cases hv5 : v5 = 0
  · subst hv5
    have hpar : parseB false p xs = some (⟨ps ++ t, [], true⟩, r5) := by simp only [parseB, p1, p2, p3, p5, if_neg (show ¬ (p.length : Int) < (s : Int) by omega), Int.toNat_natCast, if_true, hpk]
    have hend := bent_end (W := W) (w := w) (V := w5) (rb := rb) (p := p) hpar tc5 (Tx.nil w5) fk (fun _ h => by cases h) hlc R5 hrb hWs s5 O5 (.bool true) rfl
    obtain ⟨x0, x1, x2, z⟩ := bx5
    have q := box_set w5 w.heap.size (.slice co lc cc) (.slice none 0 0) _ _ ⟨x0, x1, x2, z⟩ (.bool true)
    have z0 := z 0
    have z1 := z 1
    have z2 := z 2
    go_wp2
    generalize ((w5.setCell ⟨w.heap.size, 0, none⟩ (.slice co lc cc)).setCell ⟨w.heap.size, 1, none⟩ (.slice none 0 0)).setCell ⟨w.heap.size, 2, none⟩ (.bool true) = F at q hend ⊢
    obtain ⟨q0, q1, q2⟩ := q
    exact bodyPost_ret (v := .agg #[.slice co lc cc, .slice none 0 0, .bool true]) (by simp [results, Try.results74, go_sem, q0, q1, q2]) rfl hend
  have hv5b : (v5 == 0) = false := by simp [hv5]
  have n6 := bnumber_any W rb _ rl5 rc5 r5 2 2 rfl (by omega) (by omega) num2 65535 (by omega) (num2_get r5) (fun hb => num2_rng hb) w5 R5 s5
  go_wp2_with fail
  with_reducible refine n6.mono ?_
  clear n6
  rintro e w6 (⟨v6, r6, b6, o6, rl6, rc6, p6, v60, v69, rfl, R6, s6, O6⟩ | ⟨p6, rfl, O6⟩)
  rotate_left
  · go_wp2
    exact ⟨rfl, .inr ⟨by simp only [parseB, p1, p2, p3, p5, p6, if_neg (show ¬ (p.length : Int) < (s : Int) by omega), Int.toNat_natCast, if_neg (show ¬ v5 = 0 by omega), if_neg (show ¬ (false = true ∧ (1 : Int) < v5) by simp)], rfl, O5.trans O6⟩⟩
  have bx6 := bx5.off O6 hbx
  have tc6 := tc5.off O6 (fun ad ha h0 hk => by have := fk ad ha h0; simp at hk; omega)
  replace O6 := O5.trans O6
  have hz6 := bx6.lt
  clear bx5 R5 O5 tc5
  have n7 := btext_any W rb b6 o6 rl6 rc6 r6 v6 v60 v69 w6 R6 s6
  go_wp2_with fail
  with_reducible refine n7.mono ?_
  clear n7
  rintro e w7 (⟨x7, r7, uo, ul, uc, b7, o7, rl7, rc7, p7, rfl, tu, hul, R7, s7, O7⟩ | ⟨p7, rfl, O7⟩)
  rotate_left
  · go_wp2
    exact ⟨rfl, .inr ⟨by simp only [parseB, p1, p2, p3, p5, p6, p7, if_neg (show ¬ (p.length : Int) < (s : Int) by omega), Int.toNat_natCast, if_neg (show ¬ v5 = 0 by omega), if_neg (show ¬ (false = true ∧ (1 : Int) < v5) by simp)], rfl, O6.trans O7⟩⟩
  have bx7 := bx6.off O7 hbx
  have tc7 := tc6.off O7 (fun ad ha h0 hk => by have := fk ad ha h0; simp at hk; omega)
  replace O7 := O6.trans O7
  have hz7 := bx7.lt
  clear bx6 R6 O6 tc6
  have n8 := bclone_any uo ul uc x7 w7 (tu.later R7.bel) (by omega)
  go_wp2_with fail
  with_reducible refine n8.mono ?_
  clear n8
  rintro e w8 ⟨vo, vc, rfl, tv, fv, b8⟩
  have O8 : Off [rb] w w8 := O7.trans (.of_below b8)
  have bx8 := bx7.off (S := []) (.of_below b8) (by simp)
  have R8 := R7.later b8
  have tc8 := tc7.later b8
  have fv' : ∀ ad, vo = some ad → 0 < ul → w.heap.size < ad.block := fun ad ha _ => by have := fv ad ha; omega
  have hpar : parseB false p xs = some (⟨ps ++ t, x7, false⟩, r7) := by simp only [parseB, p1, p2, p3, p5, p6, p7, if_neg (show ¬ (p.length : Int) < (s : Int) by omega), Int.toNat_natCast, if_neg (show ¬ v5 = 0 by omega), if_neg (show ¬ (false = true ∧ (1 : Int) < v5) by simp), hpk]
  have hend := bent_end (W := W) (w := w) (V := w8) (rb := rb) (p := p) hpar tc8 tv fk fv' hlc R8 hrb hWs s7 O8 (.bool false) rfl
  obtain ⟨x0, x1, x2, z⟩ := bx8
  have q := box_set w8 w.heap.size (.slice co lc cc) (.slice vo ul vc) _ _ ⟨x0, x1, x2, z⟩ (.bool false)
  have z0 := z 0
  have z1 := z 1
  have z2 := z 2
  go_wp2
  generalize ((w8.setCell ⟨w.heap.size, 0, none⟩ (.slice co lc cc)).setCell ⟨w.heap.size, 1, none⟩ (.slice vo ul vc)).setCell ⟨w.heap.size, 2, none⟩ (.bool false) = F at q hend ⊢
  obtain ⟨q0, q1, q2⟩ := q
  exact bodyPost_ret (v := .agg #[.slice co lc cc, .slice vo ul vc, .bool false]) (by simp [results, Try.results74, go_sem, q0, q1, q2]) rfl hend

end Go.Proofs.Yteeemfohehpaeaa
