/- The walk of block.readEntries. -/
import Derived.Test.YteeemfohehpaeaaBWalksE
namespace Go.Proofs.Yteeemfohehpaeaa
set_option maxRecDepth 100000
open Go.RowKit

def sliceLen : Value → Nat
  | .slice _ n _ => n
  | _ => 0
def readL (xs : List Int) : Option (List Ent) :=
  match partsL xs with
  | none => none
  | some (a, _) => readB 255 0 [] a
theorem allB_read (xs : List Int) : allB xs = match readL xs with | none => none | some l => if validB l xs = true then some l else none := by
  unfold allB readL
  cases partsL xs with
  | none => rfl
  | some p => rfl

theorem REx.less {X Y : List Nat} (hXY : ∀ k ∈ Y, k ∈ X) {w : World} {S : List Nat} {u : List Value} {e : Ent} (h : REx X w S u e) : REx Y w S u e := by
  obtain ⟨k, v, hu, h1, h2⟩ := h
  have hs : ∀ k ∈ S ++ Y, k ∈ S ++ X ∨ w.heap.size ≤ k := fun k hk => by
    rcases List.mem_append.1 hk with hk | hk
    · exact .inl (List.mem_append_left _ hk)
    · exact .inl (List.mem_append_right _ (hXY k hk))
  exact ⟨k, v, hu, h1.off (.refl _ _) hs, h2.off (.refl _ _) hs⟩
theorem Ls.less {X Y : List Nat} (hXY : ∀ k ∈ Y, k ∈ X) {w : World} {B C : Nat} {v : Value} {es : List Ent} (h : Ls 25 3 (REx X) w B v es) (hBC : C ≤ B) : Ls 25 3 (REx Y) w C v es := by
  obtain ⟨us, h1, h2, h3⟩ := h
  refine ⟨us, h1, ⟨h2.1, ?_⟩, fun i u e hu he => (h3 i u e hu he).less hXY⟩
  rcases h2.2 with h' | ⟨g, cap', cur, e, hb, r⟩
  · exact .inl h'
  · exact .inr ⟨g, cap', cur, e, Nat.le_trans hBC hb, r⟩

/-- What holds at each round's head of readEntries. -/
structure ERel (w W V : World) (X : List Nat) (r0 : List Int) (k : Nat) (bo : Option Addr) (m cb : Nat) (po : Option Addr) (pl pc : Nat) (es : List Ent) : Prop where
  ls : Ls 25 3 (REx (W.heap.size :: X)) V (W.heap.size + 1) (.slice bo m cb) es
  len : m = k
  rd : ∃ ro rl rc r, Rd W V W.heap.size ro rl rc r ∧ rl ≤ 900000000 ∧ CameB r0 k es r
  tp : Tx V po pl pc (lastK [] es)
  np : ∀ ad, po = some ad → 0 < pl → ad.block ≠ W.heap.size
  bel : Below w.heap.size w V
  size : W.heap.size + 1 ≤ V.heap.size
  hw : w.heap.size ≤ W.heap.size

/-- What readEntries answers. -/
def ReadPost (X : List Nat) (w : World) (xs : List Int) (e : Ending) (w' : World) : Prop :=
  (∃ es bo m cb, readL xs = some es ∧ e = .returned (.slice bo m cb) ∧ Ls 25 3 (REx X) w' w.heap.size (.slice bo m cb) es ∧ Below w.heap.size w w') ∨ (readL xs = none ∧ e = .panicked formE ∧ Below w.heap.size w w')

theorem erel_step {w W V w2 w5 : World} {X : List Nat} {r0 r r' : List Int} {k : Nat} {bo : Option Addr} {m cb : Nat} {po : Option Addr} {pl pc : Nat} {es : List Ent} {en : Ent} {o o' : Obj} {ao5 : Option Addr} {n5 c5 : Nat} {ko : Option Addr} {kl kc b9 o9 rl9 rc9 : Nat}
    (hE : ERel w W V X r0 k bo m cb po pl pc es) (_hX : ∀ q ∈ X, q < w.heap.size) (hk : k < 255) (hcame : CameB r0 k es r) (hr : 0 < r.length) (hp : parseB false (pre k (lastK [] es)) r = some (en, r')) (O2 : Off [W.heap.size] V w2)
    (R9 : Rd W w2 W.heap.size (some ⟨b9, o9, none⟩) rl9 rc9 r') (s9 : rl9 ≤ 900000000) (tk : Tx w2 ko kl kc en.k) (fk : ∀ ad, ko = some ad → 0 < kl → V.heap.size ≤ ad.block)
    (hls5 : Ls 25 3 (REx (W.heap.size :: X)) w5 (W.heap.size + 1) (.slice ao5 n5 c5) (es ++ [en])) (hn5 : n5 = k + 1) (ho : Off (own (.slice bo m cb)) ((w2.alloc o).alloc o') w5) : ERel w W w5 X r0 (k + 1) ao5 n5 c5 ko kl kc (es ++ [en]) := by
  have hWV := hE.size
  have hown : ∀ q ∈ own (.slice bo m cb), q < V.heap.size ∧ W.heap.size + 1 ≤ q := fun q hq => hE.ls.lt q hq
  have B2 : Below w2.heap.size w2 ((w2.alloc o).alloc o') := ((Below.refl _ _).alloc (Nat.le_refl _) o).alloc (by simp) o'
  have R5 := (R9.later B2).off ho (fun hq => by have := (hown _ hq).2; omega) (fun q hq => by have := (hown q hq).2; omega)
  have hw := hE.hw
  have hs2 := O2.size
  have tk5 := (tk.later B2).off ho (fun ad ha h0 hq => by have := (hown _ hq).1; have := fk ad ha h0; omega)
  have hsz : w2.heap.size ≤ w5.heap.size := Nat.le_trans B2.size ho.size
  refine ⟨hls5, hn5, ⟨_, _, _, _, R5, s9, hcame.step hk hr hp⟩, by rw [lastK_snoc]; exact tk5, fun ad ha h0 => by have := fk ad ha h0; omega, ?_, by omega, hw⟩
  have b2 : Below w.heap.size w w2 := hE.bel.trans (O2.below (by simpa using hw) hE.bel.size)
  exact (b2.trans (B2.mono b2.size)).trans (ho.below (fun q hq => by have := (hown q hq).2; omega) (by have := B2.size; have := b2.size; omega))

set_option maxHeartbeats 4000000 in
theorem readents_any (X : List Nat) (ao : Option Addr) (la ca : Nat) (xs : List Int) (w : World) (ha : Tx w ao la ca xs) (sa : la ≤ 900000000) (hX : ∀ q ∈ X, q < w.heap.size) :
    Calls Try.prog 52 #[.slice ao la ca] w fun e w' => ReadPost X w xs e w' := by
  have hpa := parts_any ao la ca xs w ha sa
  go_enter Try.func52, Try.ntmps52
  go_wp2_with fail
  with_reducible refine hpa.mono ?_
  clear hpa
  rintro e W (⟨r0, st, bo, l1, c1, co, l2, c2, hp, rfl, t1, _, b1⟩ | ⟨hp, rfl, b1⟩)
  rotate_left
  · go_wp2
    exact ⟨rfl, .inr ⟨by simp only [readL, hp], rfl, b1⟩⟩
  have hrd : Hid (readL xs = readB 255 0 [] r0) := by show _ = _; simp only [readL, hp]
  have hl1 : l1 ≤ 900000000 := by
    have h1 := t1.len_eq
    have h2 := ha.len_eq
    unfold partsL at hp
    split at hp
    · cases hp
    · cases hp; rw [List.length_take] at h1; omega
  have R0 := Rd.one W bo l1 c1 r0 (t1.later b1)
  have bW : Below W.heap.size W (W.alloc (.cells #[.slice bo l1 c1] 109)) := (Below.refl _ _).alloc (Nat.le_refl _) _
  have hw := b1.size
  have hstart : ERel w W (W.alloc (.cells #[.slice bo l1 c1] 109)) X r0 0 none 0 0 none 0 0 [] := ⟨Ls.nil _ _ _ _ _, rfl, ⟨_, _, _, _, R0, hl1, CameB.start r0⟩, Tx.nil _, (fun _ h => by cases h), b1.trans (bW.mono hw), by simp, hw⟩
  clear hp t1
  go_wp2
  go_loopw [6, 7] (fun s6 s7 V => ∃ (k m : Nat) (bo : Option Addr) (cb : Nat) (po : Option Addr) (pl pc : Nat) (es : List Ent), s6 = .slice bo m cb ∧ s7 = .slice po pl pc ∧ ERel w W V X r0 k bo m cb po pl pc es) (fun s6 _ _ => 256 - sliceLen s6)
  case atStart => exact ⟨0, 0, none, 0, none, 0, 0, [], rfl, rfl, hstart⟩
  case round =>
    obtain ⟨k, m, bo, cb, po, pl, pc, es, rfl, rfl, hE⟩ := hrel
    obtain ⟨ro, rl, rc, r, Rk, sk, hcame⟩ := hE.rd
    have hlr := Rk.tx.len_eq
    have cc := Rk.cell
    obtain rfl : m = k := hE.len
    have hk9 := hcame.1
    have hes := hcame.2.1
    have hbel := hE.bel
    by_cases h0 : rl = 0
    · have hdone : Hid (readL xs = some es) := by show _ = _; rw [hrd.out]; exact hcame.done (by omega)
      have hls := hE.ls.less (Y := X) (C := w.heap.size) (by simp; intro a h; exact .inr h) (by have := hE.hw; omega)
      subst h0
      go_wp2
      go_ret
      exact .inl ⟨es, bo, m, cb, hdone.out, rfl, hls, hbel⟩
    · have hr0 : 0 < r.length := by omega
      by_cases h255 : m = 255
      · have hno : Hid (readL xs = none) := by show _ = _; rw [hrd.out]; exact (h255 ▸ hcame).full hr0
        subst h255
        clear hk9 hes
        go_wp2
        exact ⟨rfl, .inr ⟨hno.out, rfl, hbel⟩⟩
      · have hmne : ((m : Int) == 255) = false := by simp; omega
        have hmne2 : ¬ (m : Int) = 255 := by omega
        have hfin : ∀ (po' : Option Addr) (pl' pc' : Nat), Tx wr po' pl' pc' (pre m (lastK [] es)) → (∀ ad, po' = some ad → 0 < pl' → ad.block ≠ W.heap.size) → Calls Try.prog 74 #[.pointer (some ⟨W.heap.size, 0, none⟩), .slice po' pl' pc'] wr fun e w' => BEnt W wr W.heap.size (pre m (lastK [] es)) r e w' := fun po' pl' pc' t n => bentry_any W W.heap.size ro rl rc r po' pl' pc' _ wr Rk sk t n
        have hent : ∃ (po' : Option Addr) (pl' pc' : Nat), Hid ((m % 4 = 0 → po' = none ∧ pl' = 0 ∧ pc' = 0) ∧ (¬ m % 4 = 0 → po' = po ∧ pl' = pl ∧ pc' = pc)) ∧ Calls Try.prog 74 #[.pointer (some ⟨W.heap.size, 0, none⟩), .slice po' pl' pc'] wr fun e w' => BEnt W wr W.heap.size (pre m (lastK [] es)) r e w' := by
          by_cases h4 : m % 4 = 0
          · exact ⟨none, 0, 0, ⟨fun _ => ⟨rfl, rfl, rfl⟩, fun h => absurd h4 h⟩, hfin none 0 0 (by rw [pre, if_pos h4]; exact Tx.nil _) (fun _ h => by cases h)⟩
          · exact ⟨po, pl, pc, ⟨fun h => absurd h h4, fun _ => ⟨rfl, rfl, rfl⟩⟩, hfin po pl pc (by rw [pre, if_neg h4]; exact hE.tp) hE.np⟩
        clear hfin
        obtain ⟨po', pl', pc', hpp, hent⟩ := hent
        have hXs : ∀ q ∈ W.heap.size :: X, q < wr.heap.size := by
          intro q hq
          have := hE.size
          have := hE.hw
          rcases List.mem_cons.1 hq with rfl | hq
          · omega
          · have := hX q hq; omega
        have hmm : Hid (m = es.length) := by show _ = _; omega
        have hwz := hE.size
        have hcs : (m % 4 = 0 ∧ po' = none ∧ pl' = 0 ∧ pc' = 0) ∨ (¬ m % 4 = 0 ∧ po' = po ∧ pl' = pl ∧ pc' = pc) := by
          by_cases h4 : m % 4 = 0
          · exact .inl ⟨h4, hpp.out.1 h4⟩
          · exact .inr ⟨h4, hpp.out.2 h4⟩
        clear hpp
        have hpv : ∃ p0, Hid (pre m (lastK [] es) = p0) := ⟨_, rfl⟩
        obtain ⟨p0, hp0⟩ := hpv
        rw [hp0.out] at hent
        rcases hcs with ⟨h4, rfl, rfl, rfl⟩ | ⟨h4, rfl, rfl, rfl⟩
        all_goals
          have t4 : ((m : Int).tmod 4 == 0) = decide (m % 4 = 0) := by rw [Int.tmod_eq_emod_of_nonneg (by omega)]; by_cases h : m % 4 = 0 <;> simp [h] <;> omega
          have t5 : ((m : Int).tmod 4 = 0) = (m % 4 = 0) := by rw [Int.tmod_eq_emod_of_nonneg (by omega)]; apply propext; omega
          simp only [h4, decide_true, decide_false] at t4 t5
          go_wp2_with fail
          with_reducible refine hent.mono ?_
          rintro e w2 (⟨en, r', ko, kl, kc, vo, vl, vc, b9, o9, rl9, rc9, hpe, rfl, tk, tv, fk, fv, hkl, R9, s9, O2⟩ | ⟨hpe, rfl, O2⟩)
          rotate_left
          · have hno : readL xs = none := by rw [hrd.out]; exact hcame.no (by omega) hr0 (by rw [hp0.out]; exact hpe)
            have hB2 : Below w.heap.size w w2 := hbel.trans (O2.below (by simpa using hE.hw) hbel.size)
            go_wp2
            exact ⟨rfl, .inr ⟨hno, rfl, hB2⟩⟩
          have L3 : Ls 25 3 (REx (W.heap.size :: X)) w2 (W.heap.size + 1) (.slice bo m cb) es := hE.ls.offX (O2.mono (by simp)) (fun q hq => by
            have h1 := (hE.ls.lt q hq).2
            have h2 := hE.hw
            simp only [List.mem_cons, not_or]
            exact ⟨by omega, fun h => by have := hX q h; omega⟩)
          have HL := L3.later (REx.st _) (((Below.refl w2.heap.size w2).alloc (Nat.le_refl _) (.cells #[.slice ko kl kc, .slice vo vl vc, .bool en.g] 25)).alloc (by simp) (.cells #[.slice ko kl kc, .slice vo vl vc, .bool en.g] 25))
          have hnX : ∀ q, wr.heap.size ≤ q → q ∉ own (.slice bo m cb) ++ (W.heap.size :: X) := fun q hq hk => by
            rcases List.mem_append.1 hk with hk | hk
            · have := (hE.ls.lt q hk).1; omega
            · have := hXs q hk; omega
          have HR : REx (W.heap.size :: X) ((w2.alloc (.cells #[.slice ko kl kc, .slice vo vl vc, .bool en.g] 25)).alloc (.cells #[.slice ko kl kc, .slice vo vl vc, .bool en.g] 25)) (own (.slice bo m cb)) [.slice ko kl kc, .slice vo vl vc, .bool en.g] en :=
            ⟨_, _, rfl, ((tk.alloc _).alloc _).at _ (fun ad ha h0 => hnX _ (fk ad ha h0)), ((tv.alloc _).alloc _).at _ (fun ad ha h0 => hnX _ (fv ad ha h0))⟩
          have bx := Box.new w2 (.slice ko kl kc) (.slice vo vl vc) en.g
          have hstep := fun (w5 : World) (ao5 : Option Addr) (n5 c5 : Nat) => erel_step (w5 := w5) (ao5 := ao5) (n5 := n5) (c5 := c5) (o := .cells #[.slice ko kl kc, .slice vo vl vc, .bool en.g] 25) (o' := .cells #[.slice ko kl kc, .slice vo vl vc, .bool en.g] 25) hE hX (by omega) hcame hr0 (by rw [hp0.out]; exact hpe) O2 R9 s9 tk fk
          have q0 := bx.c0
          have q1 := bx.c1
          have q2 := bx.c2
          have hs2 : w.heap.size ≤ w2.heap.size := by have := O2.size; have := hbel.size; omega
          have hsW : W.heap.size + 1 ≤ w2.heap.size := by have := O2.size; omega
          have nbx : w2.heap.size ∉ own (.slice bo m cb) := fun hq => by have := (hE.ls.lt _ hq).1; have := O2.size; omega
          have q0b : ((w2.alloc (.cells #[.slice ko kl kc, .slice vo vl vc, .bool en.g] 25)).alloc (.cells #[.slice ko kl kc, .slice vo vl vc, .bool en.g] 25)).cell? ⟨w2.heap.size, 0, none⟩ = some (.slice ko kl kc) := cell_later ((Below.refl _ _).alloc (Nat.le_refl _) _) q0
          generalize en.g = G at bx HL HR hstep q0 q1 q2 q0b
          go_wp2_with (with_reducible show wpList _ _ _ (⟨some 37, _, _, _, _, _⟩ :: _) _ _; refine wpList_one (REx.st _) (REx.pl _) Try.underlying22 Try.info25 rfl (by omega) (by omega) rfl _ _ rfl (W.heap.size + 1) (.slice bo m cb) es rfl HL ⟨w2.heap.size + 1, 0, none⟩ 1 [.slice ko kl kc, .slice vo vl vc, .bool G] en rfl (cells3_at (w2.alloc (.cells #[.slice ko kl kc, .slice vo vl vc, .bool G] 25)) (w2.heap.size + 1) (by simp) _ _ _) HR (by have := hmm.out; omega) (by simp; omega) ?_; intro ao5 n5 c5 w5 hn5 hls5 hof5 hsub5; have hn6 : n5 = m + 1 := (by have := hmm.out; omega); clear hn5; have hst5 := hstep w5 ao5 n5 c5 hls5 hn6 hof5; subst hn6; have q5 := hof5.cell (q0b) nbx)
          go_roundw
          case rel => exact ⟨m + 1, m + 1, ao5, c5, ko, kl, kc, es ++ [en], rfl, rfl, hst5⟩
          case measure => simp [sliceLen]; omega

end Go.Proofs.Yteeemfohehpaeaa
