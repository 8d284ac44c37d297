/- The walks of table's last and add. -/
import Derived.Test.YteeemfohehpaeaaTTab
import Derived.Test.YteeemfohehpaeaaTBuild
import Derived.Deep.RegionLaw
namespace Go.Proofs.Yteeemfohehpaeaa
set_option maxRecDepth 100000
open Go.RowKit Go.Sort

theorem Ls.offR {α : Type} {T c : Nat} {R : Reads α} {X : List Nat} (hst : Stable R) {w w' : World} {B : Nat} {v : Value} {es : List α} (h : Ls T c (Rx X R) w B v es) (ho : Off X w w') (hd : ∀ k ∈ own v, k ∉ X) : Ls T c (Rx X R) w' B v es := by
  obtain ⟨us, h1, h2, h3⟩ := h
  exact ⟨us, h1, rows_offB h2 ho hd, fun i u e hu he => hst _ _ _ _ _ _ (h3 i u e hu he) (ho.mono (fun k hk => List.mem_append_right _ hk)) (fun k hk => .inl hk)⟩
theorem cells2_new (w : World) (a b : Value) (t : TypeId) (j : Nat) (x : Value) (h : [a, b][j]? = some x) : (w.alloc (.cells #[a, b] t)).cell? ((⟨w.heap.size, 0, none⟩ : Addr).add j) = some x := by
  rw [Addr.add_lit, Nat.zero_add, cell_of_row _ w.heap.size _ _ t (0, 0) (heap_alloc_new w _)]
  simpa using h
/-- The table that is made: its block and its row are the call's own. -/
structure Tg (w : World) (B pb : Nat) (ps : List Pk) (c : Nat) (ro : Option Addr) (rl rc : Nat) : Prop where
  c0 : w.cell? ⟨pb, 0, none⟩ = some (.slice ro rl rc)
  c1 : w.cell? ⟨pb, 1, none⟩ = some (.int .i64 c)
  z : ∀ j, w.frozen? ⟨pb, j, none⟩ = false
  row : Ls 77 2 (Rx [pb] RP) w B (.slice ro rl rc) ps
  out : pb ∉ own (.slice ro rl rc)
  low : B ≤ pb
  hB : B ≤ w.heap.size
  len : rl = ps.length
theorem Tg.lt {w : World} {B pb : Nat} {ps : List Pk} {c : Nat} {ro : Option Addr} {rl rc : Nat} (h : Tg w B pb ps c ro rl rc) : pb < w.heap.size := World.block_lt_of_cell? _ _ h.c0
theorem frozen_below {w w' : World} {a : Addr} {v : Value} (hb : Below w.heap.size w w') (hc : w.cell? a = some v) : w'.frozen? a = w.frozen? a := World.frozen?_of_block (hb.block a.block (World.block_lt_of_cell? _ _ hc))
theorem frozen_belowB {w w' : World} {b : Nat} (hb : Below w.heap.size w w') (hlt : b < w.heap.size) (j : Nat) : w'.frozen? ⟨b, j, none⟩ = w.frozen? ⟨b, j, none⟩ := World.frozen?_of_block (hb.block b hlt)
theorem Tg.later {w w' : World} {B pb : Nat} {ps : List Pk} {c : Nat} {ro : Option Addr} {rl rc : Nat} (h : Tg w B pb ps c ro rl rc) (hb : Below w.heap.size w w') : Tg w' B pb ps c ro rl rc :=
  ⟨cell_later hb h.c0, cell_later hb h.c1, fun j => (frozen_belowB hb h.lt j).trans (h.z j), h.row.later (Rx.st _ RP.st) hb, h.out, h.low, Nat.le_trans h.hB hb.size, h.len⟩
theorem Tg.tab {w : World} {B pb : Nat} {ps : List Pk} {c : Nat} {ro : Option Addr} {rl rc : Nat} (h : Tg w B pb ps c ro rl rc) : Tt w pb ps c ro rl rc := by
  obtain ⟨ao9, cap9, e9, hx9⟩ := h.row.read (Rx.st _ RP.st) (Rx.pl _ RP.pl)
  simp only [Value.slice.injEq] at e9
  obtain ⟨rfl, e10, rfl⟩ := e9
  rw [← e10] at hx9
  exact ⟨h.c0, h.c1, hx9.weak RP.st⟩

set_option maxHeartbeats 1000000 in
theorem tlast_any (pb : Nat) (ps : List Pk) (c : Nat) (ro : Option Addr) (rl rc : Nat) (w : World) (h : Tt w pb ps c ro rl rc) :
    Calls Try.prog 69 #[.pointer (some ⟨pb, 0, none⟩)] w fun e w' => ∃ lo ll lc, e = .returned (.slice lo ll lc) ∧ Tx w lo ll lc ((ps.getLast?.map (·.2)).getD []) ∧ Below w.heap.size w w' := by
  have hl := h.row.len_eq
  have c0 := h.c0
  by_cases h0 : rl = 0
  · subst h0
    have hp : ps = [] := List.eq_nil_of_length_eq_zero hl
    subst hp
    go_enter Try.func69, Try.ntmps69
    go_wp2
    go_ret
    exact ⟨none, 0, 0, rfl, Tx.nil _, Below.refl _ _⟩
  · obtain ⟨b, off, rfl, hc⟩ := h.row.headP (by omega)
    obtain ⟨r, rfl⟩ : ∃ r, rl = r + 1 := ⟨rl - 1, by omega⟩
    have hx : ps[r]? = some (ps[r]'(by omega)) := by simp
    obtain ⟨to, tl, tc, lo, ll, lc, d0, d1, tt, tL⟩ := hc r _ hx
    have hg : (ps.getLast?.map (·.2)).getD [] = (ps[r]'(by omega)).2 := by
      have hq : ps.getLast? = some (ps[r]'(by omega)) := by
        rw [List.getLast?_eq_getElem?, ← hx]; congr 1; omega
      rw [hq]; rfl
    rw [hg]
    generalize ps[r]'(by omega) = p at tL
    clear hx hg
    have htop := h.row.top
    have hle := h.row.le
    unfold maxLen at htop
    have hwr : IntKind.i64.wrap (r : Int) = r := by rw [IntKind.wrap_i64]; omega
    go_enter Try.func69, Try.ntmps69
    go_wp2_with fail
    go_region
    all_goals
      go_wp2
      go_ret
      exact ⟨lo, ll, lc, rfl, tL, (Below.refl _ _).drew⟩

theorem all_len2 {xs : List Int} {es : List Ent} (h : allB xs = some es) : 1 ≤ es.length ∧ es.length ≤ 255 ∧ okL [] es = true := by
  obtain ⟨h1, _⟩ := (allB_iff xs es).1 h
  obtain ⟨m1, _⟩ := (validB_iff es xs).1 h1
  exact (mayB_iff 255 es).1 m1
theorem addT_no {c : Nat} {a xs : List Int} (h : allB xs = none) : addT c a xs = none := by unfold addT; rw [h]
theorem addT_yes {c : Nat} {a xs : List Int} {l : List Ent} (h : allB xs = some l) : addT c a xs = if l.length ≤ 8 ∧ c % 8 = 0 ∧ c + l.length ≤ 65535 ∧ okL a l = true then some l else none := by unfold addT; rw [h]

/-- What add leaves. -/
def AddPost (B pb : Nat) (ps : List Pk) (c : Nat) (a xs : List Int) (w : World) (e : Ending) (w' : World) : Prop :=
  ((∃ l ro rl rc, addT c a xs = some l ∧ e = .returned (.bool true) ∧ Tg w' B pb (ps ++ [(xs, lastK [] l)]) (c + l.length) ro rl rc) ∨ (addT c a xs = none ∧ e = .returned (.bool false))) ∧ Below B w w'

set_option maxHeartbeats 60000000 in
theorem tadd_any (B pb : Nat) (ps : List Pk) (c : Nat) (ro : Option Addr) (rl rc : Nat) (to : Option Addr) (tl tc : Nat) (xs : List Int) (w : World) (h : Tg w B pb ps c ro rl rc) (ht : Tx w to tl tc xs) (hlow : ∀ ad, to = some ad → 0 < tl → ad.block < B) (st : tl ≤ 900000000) (hc9 : c ≤ 65535) (hp9 : ps.length ≤ 65535)
    (a : List Int) (ha : (ps.getLast?.map (·.2)).getD [] = a) (ha9 : a.length ≤ 1000000) :
    Calls Try.prog 44 #[.pointer (some ⟨pb, 0, none⟩), .slice to tl tc] w fun e w' => AddPost B pb ps c a xs w e w' := by
  have bA : Below w.heap.size w (w.alloc (.cells #[.slice to tl tc, .slice none 0 0] 77)) := (Below.refl _ _).alloc (Nat.le_refl _) _
  have x0 : (w.alloc (.cells #[.slice to tl tc, .slice none 0 0] 77)).cell? ⟨w.heap.size, 0, none⟩ = some (.slice to tl tc) := by rw [cell_of_row _ w.heap.size _ _ 77 (0, 0) (heap_alloc_new w _)]; rfl
  have x1 : (w.alloc (.cells #[.slice to tl tc, .slice none 0 0] 77)).cell? ⟨w.heap.size, 1, none⟩ = some (.slice none 0 0) := by rw [cell_of_row _ w.heap.size _ _ 77 (0, 0) (heap_alloc_new w _)]; rfl
  have xz : ∀ j, (w.alloc (.cells #[.slice to tl tc, .slice none 0 0] 77)).frozen? ⟨w.heap.size, j, none⟩ = false := fun j => frozen_of_row _ w.heap.size j _ 77 (heap_alloc_new w _)
  have g1 := h.later bA
  have t1 := ht.later bA
  have hwB : B ≤ w.heap.size := h.hB
  have hpw := h.lt
  have hownw : ∀ q ∈ own (.slice ro rl rc), q < w.heap.size ∧ B ≤ q := h.row.lt
  have hsz1 : (w.alloc (.cells #[.slice to tl tc, .slice none 0 0] 77)).heap.size = w.heap.size + 1 := by simp
  go_enter Try.func44, Try.ntmps44
  go_wp2_with fail
  generalize w.alloc (.cells #[.slice to tl tc, .slice none 0 0] 77) = W1 at bA x0 x1 xz g1 t1 hsz1 ⊢
  have hent := pentries_any (pb :: w.heap.size :: own (.slice ro rl rc)) to tl tc none 0 0 xs W1 t1 st (fun q hq => by
    simp only [List.mem_cons] at hq
    rcases hq with rfl | rfl | hq
    · omega
    · omega
    · have := (hownw q hq).1; omega)
  with_reducible refine hent.mono ?_
  clear hent
  rintro e W2 ⟨eo, el, ec, rfl, xE, b2⟩
  have g2 := g1.later b2
  have y0 := cell_later b2 x0
  have y1 := cell_later b2 x1
  have yz := fun j => (frozen_belowB b2 (b := w.heap.size) (by omega) j).trans (xz j)
  have B2 : Below w.heap.size w W2 := bA.trans (b2.mono bA.size)
  have BB2 : Below B w W2 := B2.mono hwB
  have hel := xE.len_eq
  have gc1 := g2.c1
  have hsz2 : w.heap.size < W2.heap.size := by have := b2.size; omega
  clear hsz1 bA x0 x1 xz g1 b2 t1
  cases hx : allB xs with
  | none =>
    have he : entsOf xs = [] := by unfold entsOf; rw [hx]; rfl
    rw [he] at hel
    have hno : Hid (addT c a xs = none) := addT_no hx
    have hz : el = 0 := by simpa using hel.symm
    subst hz
    clear hel he
    go_wp2
    go_ret
    exact ⟨.inr ⟨hno.out, rfl⟩, BB2⟩
  | some es =>
    have he : entsOf xs = es := by unfold entsOf; rw [hx]; rfl
    obtain ⟨l1, l255, hok⟩ := all_len2 hx
    have hadd := addT_yes (c := c) (a := a) hx
    rw [he] at xE hel
    rw [hel] at hadd l1 l255
    have hnoF : (¬ (el ≤ 8 ∧ c % 8 = 0 ∧ c + el ≤ 65535)) → Hid (addT c a xs = none) := fun hn => by show _ = _; rw [hadd, if_neg (fun hh => hn ⟨hh.1, hh.2.1, hh.2.2.1⟩)]
    have e0 : ¬ (el : Int) < 1 := by omega
    have htm : (c : Int).tmod 8 = ((c % 8 : Nat) : Int) := by rw [Int.tmod_eq_emod_of_nonneg (by omega)]; omega
    by_cases h1 : el ≤ 8
    · have i1 : ¬ (8 : Int) < el := by omega
      by_cases h2 : c % 8 = 0
      · rw [h2] at htm
        by_cases h3 : c + el ≤ 65535
        · have i3 : ¬ (65535 : Int) < (c : Int) + el := by omega
          obtain ⟨eb, eof, rfl, hcE⟩ := xE.headX (by omega)
          have hx0 : es[0]? = some (es[0]'(by omega)) := by simp
          obtain ⟨ko, kl, kc, _, _, _, k0, -, -, tk, -, nk, -⟩ := hcE 0 _ hx0
          have hoks : okL a es = lessB a (es[0]'(by omega)).k := by
            obtain ⟨e0', r', hr'⟩ : ∃ e0' r', es = e0' :: r' := by
              cases hes : es with
              | nil => rw [hes] at hel; simp at hel; omega
              | cons x y => exact ⟨x, y, rfl⟩
            subst hr'
            rw [okL_cons, hok, Bool.true_and]; rfl
          have hk255 := ((fitsE_iff _).1 ((okL_fits es [] hok) _ (List.getElem_mem (l := es) (n := 0) (by omega)))).2.1
          obtain ⟨q, hq⟩ : ∃ q, el = q + 1 := ⟨el - 1, by omega⟩
          have hxq : es[q]? = some (es[q]'(by omega)) := by simp
          obtain ⟨lo2, ll2, lc2, _, _, _, m0, -, -, tm, -, nm, -⟩ := hcE q _ hxq
          have hlastE : lastK [] es = (es[q]'(by omega)).k := lastK_of es [] _ (by rw [show es.length - 1 = q by omega]; exact hxq)
          generalize (es[0]'(by omega)).k = key0 at tk hoks hk255
          generalize (es[q]'(by omega)).k = keyq at tm hlastE
          rw [tk.len_eq] at hk255
          rw [Nat.zero_mul, Nat.add_zero] at k0
          have hlast := tlast_any pb ps c ro rl rc W2.drew (g2.later (Below.refl _ _).drew).tab
          rw [ha] at hlast
          have hless := fun (V : World) (lo : Option Addr) (ll lc : Nat) (tl : Tx V lo ll lc a) (hV : Below W2.heap.size W2 V) => less_any lo ko ll lc kl kc a key0 V tl (tk.later hV) (by have := tl.len_eq; omega) (by omega)
          have k0d : W2.drew.cell? ⟨eb, eof, none⟩ = some (.slice ko kl kc) := k0
          have elq : ((el : Nat) : Int) - 1 = (q : Int) := by omega
          have hel1 : (0 : Int) < el := by omega
          have hqel : (q : Int) < el := by omega
          have hqH : Hid (el = q + 1) := hq
          have helH : Hid (es.length = el) := hel
          have hi3 := i3
          cases hF : lessB a key0 with
          | false =>
            have hno : Hid (addT c a xs = none) := by show _ = _; rw [hadd, if_neg (fun hh => by have := hh.2.2.2; rw [hoks, hF] at this; cases this)]
            rw [hF] at hless
            clear hadd hnoF hq hel hx0 hxq hoks hlastE
            go_wp2_with fail
            go_region_with (first
              | (go_at_call 69; refine hlast.mono ?_; rintro e V ⟨lo, ll, lc, rfl, tL, bV⟩; have bV2 : Below W2.heap.size W2 V := ((Below.refl _ _).drew).trans bV; have k0v := cell_later bV2 k0; have hl2 := hless V lo ll lc (tL.later bV) bV2)
              | (go_at_call 35; refine hl2.mono ?_; rintro e V2 ⟨rfl, bV3⟩))
            all_goals
              go_wp2
              go_ret
              exact ⟨.inr ⟨hno.out, rfl⟩, BB2.trans ((bV2.trans (bV3.mono bV2.size)).mono (Nat.le_trans hwB (Nat.le_of_lt hsz2)))⟩
          | true =>
            have hyes : Hid (addT c a xs = some es) := by show _ = _; rw [hadd, if_pos ⟨h1, h2, h3, by rw [hoks, hF]⟩]
            rw [hF] at hless
            clear hadd hnoF hq hel hx0 hxq hoks
            have hlastE : Hid (lastK [] es = keyq) := hlastE
            go_wp2_with fail
            go_region_with (first
              | (go_at_call 69; refine hlast.mono ?_; rintro e V ⟨lo, ll, lc, rfl, tL, bV⟩; have bV2 : Below W2.heap.size W2 V := ((Below.refl _ _).drew).trans bV; have k0v := cell_later bV2 k0; have hl2 := hless V lo ll lc (tL.later bV) bV2)
              | (go_at_call 35; refine hl2.mono ?_; rintro e V2 ⟨rfl, bV3⟩))
            all_goals
              have bW : Below W2.heap.size W2 V2 := bV2.trans (bV3.mono bV2.size)
              have g3 := g2.later bW
              have z0 := cell_later bW y0
              have z1 := cell_later bW y1
              have zz := fun j => (frozen_belowB bW (b := w.heap.size) hsz2 j).trans (yz j)
              have m0v := cell_later bW m0
              have tmv := tm.later bW
              have ttv := (ht.later B2).later bW
              clear hless hlast k0d k0v hl2 tL bV2 bV3 bV k0 tk
              have zz1 := zz 1
              have BW : Below w.heap.size w V2 := B2.trans (bW.mono B2.size)
              go_wp2_with fail
              have BW3 : Below w.heap.size w (V2.setCell ⟨w.heap.size, 1, none⟩ (.slice lo2 ll2 lc2)) := BW.setCell (p := ⟨w.heap.size, 1, none⟩) (Nat.le_refl _) _
              have O3 : Off [w.heap.size] V2 (V2.setCell ⟨w.heap.size, 1, none⟩ (.slice lo2 ll2 lc2)) := (Off.refl _ _).setCell (p := ⟨w.heap.size, 1, none⟩) (by simp) _
              have u0 : (V2.setCell ⟨w.heap.size, 1, none⟩ (.slice lo2 ll2 lc2)).cell? ⟨w.heap.size, 0, none⟩ = some (.slice to tl tc) := by rw [World.cell?_setCell_other _ _ _ _ (by simp)]; exact z0
              have u1 : (V2.setCell ⟨w.heap.size, 1, none⟩ (.slice lo2 ll2 lc2)).cell? ⟨w.heap.size, 1, none⟩ = some (.slice lo2 ll2 lc2) := World.cell?_setCell_same _ _ _ z1
              have tm3 := tmv.off O3 (fun ad hd0 hp0 hk => by
                have h6 := nm ad hd0 (by assumption)
                simp at hk
                simp [hk] at h6)
              generalize V2.setCell ⟨w.heap.size, 1, none⟩ (.slice lo2 ll2 lc2) = W3 at BW3 u0 u1 tm3 ⊢
              have g4 := h.later BW3
              have tt3 := ht.later BW3
              have v0 := g4.c0
              clear g3 z0 z1 zz zz1 m0v tmv ttv m0 O3
              have bB : Below W3.heap.size W3 (W3.alloc (.cells #[.slice to tl tc, .slice lo2 ll2 lc2] 77)).drew := ((Below.refl _ _).alloc (Nat.le_refl _) _).drew
              have HLA := g4.row.later (Rx.st _ RP.st) bB
              have HBA : B ≤ (W3.alloc (.cells #[.slice to tl tc, .slice lo2 ll2 lc2] 77)).drew.heap.size := Nat.le_trans g4.hB bB.size
              have v0A : (W3.alloc (.cells #[.slice to tl tc, .slice lo2 ll2 lc2] 77)).drew.cell? ⟨pb, 0, none⟩ = some (.slice ro rl rc) := cell_later bB v0
              have HRA : Rx [pb] RP (W3.alloc (.cells #[.slice to tl tc, .slice lo2 ll2 lc2] 77)).drew (own (.slice ro rl rc)) [.slice to tl tc, .slice lo2 ll2 lc2] (xs, keyq) :=
                ⟨_, _, rfl, (tt3.later bB).at _ (fun ad hd0 hp0 hk => by
                  have h5 := hlow ad hd0 hp0
                  simp only [List.mem_append, List.mem_singleton] at hk
                  rcases hk with hk | hk
                  · have := (hownw _ hk).2; omega
                  · have := h.low; omega), (tm3.later bB).at _ (fun ad hd0 hp0 hk => by
                  have h5 := nm ad hd0 hp0
                  simp only [List.mem_cons, List.mem_append, not_or] at h5 hk
                  rcases hk with hk | hk
                  · exact h5.2.2 hk
                  · exact h5.1 (by simpa using hk))⟩
              have hnpb : pb ∉ own (.slice ro rl rc) := h.out
              have cnA := cells2_new W3 (.slice to tl tc) (.slice lo2 ll2 lc2) 77
              have zpb := g4.z
              have hps9 : Hid (ps.length ≤ 1000000000) := by show _ ≤ _; omega
              go_region_law (refine step_one (Rx.st _ RP.st) (Rx.pl _ RP.pl) Try.underlying71 Try.info77 rfl (by omega) (by omega) rfl (.tmp 57) (.tmp 59) rfl B (.slice ro rl rc) ps (by simp [Act.eval]) HLA ⟨W3.heap.size, 0, none⟩ 1 [.slice to tl tc, .slice lo2 ll2 lc2] (xs, keyq) (by simp [Act.eval]) cnA HRA hps9.out HBA ?_; intro ao5 n5 c5 w5 hn5 hls5 hof5 hsub5; have hn5H : Hid (n5 = ps.length + 1) := hn5; clear hn5; have p0 := hof5.cell (a := ⟨pb, 0, none⟩) v0A hnpb; have p0z := (frozen_off hof5 v0A hnpb).trans ((frozen_below bB v0).trans (zpb 0)))
              all_goals
                have BW5 : Below B w w5 := ((BW3.mono hwB).trans (bB.mono g4.hB)).trans (hof5.below (fun k hk => (hownw k hk).2) HBA)
                have p1 := hof5.cell (a := ⟨pb, 1, none⟩) (cell_later bB g4.c1) hnpb
                have p1z := (frozen_off hof5 (cell_later bB g4.c1) hnpb).trans ((frozen_below bB g4.c1).trans (zpb 1))
                have hfz : ∀ j, w5.frozen? ⟨pb, j, none⟩ = false := fun j => (World.frozen?_of_block (hof5.block pb (by have := World.block_lt_of_cell? _ _ v0A; simpa using this) hnpb)).trans ((frozen_belowB bB (b := pb) (by have := World.block_lt_of_cell? _ _ v0; simpa using this) j).trans (zpb j))
                have p1b : (w5.setCell ⟨pb, 0, none⟩ (.slice ao5 n5 c5)).cell? ⟨pb, 1, none⟩ = some (.int .i64 c) := by rw [World.cell?_setCell_other _ _ _ _ (by simp)]; exact p1
                have p1zb : (w5.setCell ⟨pb, 0, none⟩ (.slice ao5 n5 c5)).frozen? ⟨pb, 1, none⟩ = false := by rw [World.frozen?_setCell]; exact p1z
                have hne : pb ∉ own (.slice ao5 n5 c5) := fun hk => by
                  rcases hsub5 pb hk with h6 | h6
                  · exact hnpb h6
                  · have := World.block_lt_of_cell? _ _ v0A; simp only at this; omega
                have O6 : Off [pb] w5 ((w5.setCell ⟨pb, 0, none⟩ (.slice ao5 n5 c5)).setCell ⟨pb, 1, none⟩ (.int .i64 ((c : Int) + el))) := Off.setCell (Off.setCell (Off.refl _ _) (p := ⟨pb, 0, none⟩) (by simp) _) (p := ⟨pb, 1, none⟩) (by simp) _
                have hend : Tg ((w5.setCell ⟨pb, 0, none⟩ (.slice ao5 n5 c5)).setCell ⟨pb, 1, none⟩ (.int .i64 ((c : Int) + el))) B pb (ps ++ [(xs, lastK [] es)]) (c + es.length) ao5 n5 c5 :=
                  ⟨by rw [World.cell?_setCell_other _ _ _ _ (by simp)]; exact World.cell?_setCell_same _ _ _ p0,
                   by rw [helH.out]; exact World.cell?_setCell_same _ _ _ p1b,
                   fun j => by rw [World.frozen?_setCell, World.frozen?_setCell]; exact hfz j,
                   by rw [hlastE.out]; exact Ls.offR RP.st hls5 O6 (fun k hk hk2 => by simp at hk2; subst hk2; exact hne hk),
                   hne, h.low, Nat.le_trans BW5.size (by simp [World.setCell]) |> Nat.le_trans h.hB, by rw [hn5H.out]; simp⟩
                have hbel : Below B w ((w5.setCell ⟨pb, 0, none⟩ (.slice ao5 n5 c5)).setCell ⟨pb, 1, none⟩ (.int .i64 ((c : Int) + el))) := BW5.trans (O6.below (fun k hk => by simp at hk; subst hk; exact h.low) (Nat.le_trans h.hB BW5.size))
                have hH : Hid (Tg ((w5.setCell ⟨pb, 0, none⟩ (.slice ao5 n5 c5)).setCell ⟨pb, 1, none⟩ (.int .i64 ((c : Int) + el))) B pb (ps ++ [(xs, lastK [] es)]) (c + es.length) ao5 n5 c5) := hend
                clear hend hls5 hsub5 HLA HRA cnA p1
                go_wp2
                go_ret
                exact ⟨.inl ⟨es, _, _, _, hyes.out, rfl, hH.out⟩, hbel⟩
        · have hno := hnoF (by omega)
          have i3 : (65535 : Int) < (c : Int) + el := by omega
          clear hadd hnoF
          go_wp2
          go_ret
          exact ⟨.inr ⟨hno.out, rfl⟩, BB2⟩
      · have hno := hnoF (by omega)
        have i2 : (0 : Int) < ((c % 8 : Nat) : Int) := by omega
        clear hadd hnoF
        go_wp2
        all_goals go_ret
        all_goals exact ⟨.inr ⟨hno.out, rfl⟩, BB2⟩
    · have hno := hnoF (by omega)
      have i1 : (8 : Int) < el := by omega
      clear hadd hnoF
      go_wp2
      all_goals go_ret
      all_goals exact ⟨.inr ⟨hno.out, rfl⟩, BB2⟩
end Go.Proofs.Yteeemfohehpaeaa
