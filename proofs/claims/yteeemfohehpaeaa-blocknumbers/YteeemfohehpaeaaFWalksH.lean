/- The walk of marigraphkeep.Entries. -/
import Derived.Test.YteeemfohehpaeaaPC
namespace Go.Proofs.Yteeemfohehpaeaa
set_option maxRecDepth 100000
open Go.RowKit

/-- No more bytes than these; none without a key. -/
def cutE (k v : Nat) (e : Ent) : Ent := ⟨if (e.k.take k).length = 0 then [107] else e.k.take k, if e.g = true then [] else e.v.take v, e.g⟩
def keepL (n k v : Nat) (l : List Ent) : List Ent := (l.take n).map (cutE k v)

theorem cut_at (ao : Option Addr) (la ca : Nat) (N : Int) (n : Nat) (xs : List Int) (w : World) (hN : N = (n : Int)) (ha : Tx w ao la ca xs) (hn : n ≤ 1000) :
    Calls Try.prog 15 #[.slice ao la ca, .int .i64 N] w fun e w' => ∃ l, e = .returned (.slice ao l ca) ∧ l ≤ n ∧ Tx w ao l ca (xs.take n) ∧ w = w' := by
  subst hN
  refine (cut_any ao la ca n xs w ha (by omega)).mono ?_
  rintro e w' ⟨l, he, hl, ht, hw⟩
  exact ⟨l, he, hl, ht, hw.symm⟩

theorem held2 {wr V : World} {p q : Addr} {x y : Value} (c0 : wr.cell? p = some x) (c2 : wr.cell? q = some y) (hb : Below wr.heap.size wr V) : V.cell? p = some x ∧ V.cell? q = some y ∧ Below wr.heap.size wr V := ⟨cell_later hb c0, cell_later hb c2, hb⟩

/-- A box that may be written. -/
structure Boxf (w : World) (bx : Nat) (k v : Value) (g : Bool) : Prop where
  c0 : w.cell? ⟨bx, 0, none⟩ = some k
  c1 : w.cell? ⟨bx, 1, none⟩ = some v
  c2 : w.cell? ⟨bx, 2, none⟩ = some (.bool g)
  z : ∀ j, w.frozen? ⟨bx, j, none⟩ = false
theorem Boxf.new (w : World) (k v : Value) (g : Bool) : Boxf (w.alloc (.cells #[k, v, .bool g] 25)).drew w.heap.size k v g :=
  ⟨(Box.new w k v g).c0, (Box.new w k v g).c1, (Box.new w k v g).c2, fun j => frozen_of_row (w.alloc (.cells #[k, v, .bool g] 25)) w.heap.size j _ 25 (heap_alloc_new w _)⟩
theorem Boxf.lt {w : World} {bx : Nat} {k v : Value} {g : Bool} (h : Boxf w bx k v g) : bx < w.heap.size := World.block_lt_of_cell? _ _ h.c0

theorem keep_drew {w : World} {ao : Option Addr} {l c : Nat} {xs : List Int} (h : Tx w.drew ao l c xs) : Tx w ao l c xs := ⟨h.len_eq, h.le, h.top, h.bare, h.cell, h.rng⟩
theorem cut_w {w : World} {ao : Option Addr} {l c : Nat} {xs : List Int} (h : Tx w ao l c xs) (n l2 : Nat) (h2 : l2 = (xs.take n).length) : Tx w ao l2 c (xs.take n) := by
  subst h2
  have hl := h.len_eq
  by_cases hn : n ≤ l
  · have := h.take n hn
    rwa [show (xs.take n).length = n by simp; omega]
  · rw [List.take_of_length_le (by omega), hl]; exact h
theorem keepL_succ (l : List Ent) (j k v : Nat) (e : Ent) (h : l[j]? = some e) : keepL (j + 1) k v l = keepL j k v l ++ [cutE k v e] := by
  obtain ⟨hk, rfl⟩ := List.getElem?_eq_some_iff.1 h
  rw [keepL, keepL, List.take_succ_eq_append_getElem hk, List.map_append]; rfl
theorem keepL_len (l : List Ent) (j k v : Nat) (h : j ≤ l.length) : (keepL j k v l).length = j := by simp [keepL]; omega

theorem ls_ent {X wr : World} {v : Value} {B : Nat} {es : List Ent} (hls : Ls 25 3 RE wr B v es) (hb : Below wr.heap.size wr X) (o : Obj) : Ls 25 3 RE (X.alloc o) B v es := hls.later RE.stable (hb.alloc hb.size o)
theorem re_ent {X wr : World} {v : Value} {B : Nat} {es : List Ent} (hls : Ls 25 3 RE wr B v es) {ao bo : Option Addr} {la ca lb cb : Nat} {e : Ent} {G : Bool} (hG : G = e.g) (ta : Tx X ao la ca e.k) (tb : Tx X bo lb cb e.v)
    (fa : ∀ ad, ao = some ad → 0 < la → ad.block < B ∨ wr.heap.size ≤ ad.block) (fb : ∀ ad, bo = some ad → 0 < lb → ad.block < B ∨ wr.heap.size ≤ ad.block) (o : Obj) : RE (X.alloc o) (own v) [.slice ao la ca, .slice bo lb cb, .bool G] e :=
  ⟨_, _, by rw [hG], (ta.alloc o).at _ (fun ad ha h0 hk => by have := hls.lt _ hk; have := fa ad ha h0; omega), (tb.alloc o).at _ (fun ad ha h0 hk => by have := hls.lt _ hk; have := fb ad ha h0; omega)⟩
theorem cells3_new (X : World) (a b c : Value) : ∀ j x, [a, b, c][j]? = some x → (X.alloc (.cells #[a, b, c] 25)).cell? ((⟨X.heap.size, 0, none⟩ : Addr).add j) = some x := fun j x hx => by
  rw [Addr.add_lit, Nat.zero_add, cell_of_row _ X.heap.size j _ 25 (0, 0) (heap_alloc_new X _)]
  simpa using hx
theorem cells3_at (X : World) (g : Nat) (hg : g = X.heap.size) (a b c : Value) : ∀ j x, [a, b, c][j]? = some x → (X.alloc (.cells #[a, b, c] 25)).cell? ((⟨g, 0, none⟩ : Addr).add j) = some x := by subst hg; exact cells3_new X a b c
theorem tx_one_at (Z : World) (g : Nat) (hg : g = Z.heap.size) (x : Int) (h : 0 ≤ x ∧ x ≤ 255) : Tx (Z.alloc (.cells #[.int .u8 x] 5)) (some ⟨g, 0, none⟩) 1 1 [x] := by subst hg; exact tx_one Z x h
theorem tx_beside {X : World} {ao : Option Addr} {l c bx i : Nat} {xs : List Int} (t : Tx X ao l c xs) (hne : ∀ ad, ao = some ad → 0 < l → ad.block ≠ bx) (u : Value) : Tx (X.setCell ⟨bx, i, none⟩ u) ao l c xs :=
  t.off ((Off.refl [bx] X).setCell (p := ⟨bx, i, none⟩) (by simp) u) (fun ad ha h0 hk => by simp at hk; exact hne ad ha h0 hk)
theorem below_ent {w wr X w5 : World} {v : Value} {es : List Ent} {o : Obj} (hls : Ls 25 3 RE wr w.heap.size v es) (hb : Below w.heap.size w wr) (hX : Below wr.heap.size wr X) (ho : Off (own v) (X.alloc o) w5) : Below w.heap.size w w5 :=
  (hb.trans ((hX.alloc hX.size o).mono hb.size)).trans (ho.below (fun k hk => (hls.lt k hk).2) (by have := hb.size; have := hX.size; simp; omega))
theorem size_ent {w wr X : World} (o : Obj) (hb : Below w.heap.size w wr) (hX : Below wr.heap.size wr X) : w.heap.size ≤ (X.alloc o).heap.size := by have := hb.size; have := hX.size; simp; omega

set_option maxHeartbeats 4000000 in
theorem keep_any (ao : Option Addr) (len cap : Nat) (l : List Ent) (N K V : Int) (n k v : Nat) (hN : N = (n : Int)) (hK : K = (k : Int)) (hV : V = (v : Int)) (hn : n ≤ 1000) (hk : k ≤ 1000) (hv : v ≤ 1000) (w : World) (h : Lx 3 RE w ao len cap l) :
    Calls Try.prog 14 #[.slice ao len cap, .int .i64 N, .int .i64 K, .int .i64 V] w fun e w' => ∃ bo lb cb, e = .returned (.slice bo lb cb) ∧ Lx 3 RE w' bo lb cb (keepL n k v l) ∧ Below w.heap.size w w' := by
  subst hN hK hV
  have hl := h.len_eq
  have hle := h.le
  have htop := h.top
  unfold maxLen at htop
  go_enter Try.func14, Try.ntmps14
  go_wp2
  go_loopw [9, 10] (fun o i wr => ∃ (j m : Nat) (bo : Option Addr) (cb : Nat), j ≤ len ∧ j ≤ n ∧ i = .int .i64 j ∧ o = .slice bo m cb ∧ Hid (m = j) ∧ Ls 25 3 RE wr w.heap.size (.slice bo m cb) (keepL j k v l) ∧ Below w.heap.size w wr) (fun _ i _ => len - (intOf i).toNat)
  case atStart => exact ⟨0, 0, none, 0, by omega, by omega, rfl, rfl, rfl, Ls.nil _ _ _ _ _, Below.refl _ _⟩
  case round =>
    obtain ⟨j, m, bo, cb, hjl, hjn, rfl, rfl, hm, hls, hb⟩ := hrel
    by_cases hj : j < len ∧ j < n
    · obtain ⟨b, off, rfl, hc⟩ := h.headE (by omega)
      obtain ⟨ko, kl, kc, vo, vl, vc, c0, c1, c2, tk, tv⟩ := hc j (l[j]'(by omega)) (by simp)
      have c0 := cell_later hb c0
      have c1 := cell_later hb c1
      have c2 := cell_later hb c2
      have lowk := tk.low.low
      have lowv := tv.low.low
      have tk := tk.later hb
      have tv := tv.later hb
      have j1 : (j : Int) < len := by omega
      have j2 : (j : Int) < n := by omega
      have hsuc : Hid (keepL (j + 1) k v l = keepL j k v l ++ [cutE k v (l[j]'(by omega))]) := keepL_succ l j k v _ (by simp)
      have hlen1 : Hid ((keepL j k v l).length + 1 = m + 1) := by show _ = _; rw [keepL_len l j k v (by omega), hm.out]
      have hkl9 : Hid ((keepL j k v l).length ≤ 1000000000) := by show _ ≤ _; rw [keepL_len l j k v (by omega)]; omega
      generalize l[j]'(by omega) = e at c2 tk tv hsuc
      have hbz := hb.size
      have hcut := fun (V : World) (hV : Below wr.heap.size wr V) => cut_at ko kl kc k k e.k V rfl (tk.later hV) hk
      obtain ⟨G, hGe⟩ : ∃ G, Hid (e.g = G) := ⟨_, rfl⟩
      rw [hGe.out] at c2
      have cutw := fun (l2 : Nat) (h : l2 = (e.v.take v).length) => cut_w tv v l2 h
      have lowv2 : ∀ (l2 : Nat), Tx wr vo l2 vc (e.v.take v) → ∀ ad, vo = some ad → 0 < l2 → ad.block < w.heap.size ∨ wr.heap.size ≤ ad.block := fun l2 t ad ha h0 => .inl (lowv ad ha (by have h1 := t.len_eq; have h2 := tv.len_eq; rw [List.length_take] at h1; omega))
      go_wp2_with fail
      go_region_held (fun w' => w'.cell? ⟨b, off + j * 3, none⟩ = some (.slice ko kl kc) ∧ w'.cell? ⟨b, off + j * 3 + 2, none⟩ = some (.bool G) ∧ Below wr.heap.size wr w') (first | assumption | exact held2 c0 c2 (by repeat (first | exact Below.refl _ _ | assumption | exact And.right (And.right (by assumption)) | refine Below.drew ?_ | refine below_drewN ?_ _ | refine Below.alloc ?_ (by simp) _ | refine Below.setCell ?_ (by simp) _))) (first | (go_at_call 15; with_reducible refine (hcut _ ?_).mono ?_; (exact (And.right (And.right (by assumption)))); rintro r w1 ⟨l1, rfl, hl1, t1, rfl⟩))
      all_goals
        have hB0 : Below wr.heap.size wr (wr.alloc (.cells #[.slice ko l1 kc, .slice none 0 0, .bool G] 25)).drew := ((Below.refl _ _).alloc (Nat.le_refl _) _).drew
        have bx := Boxf.new wr (.slice ko l1 kc) (.slice none 0 0) G
        have hsz : wr.heap.size < (wr.alloc (.cells #[.slice ko l1 kc, .slice none 0 0, .bool G] 25)).drew.heap.size := bx.lt
        have tkw : Tx wr ko l1 kc (e.k.take k) := cut_w tk k l1 t1.len_eq.symm
        have c10 : (wr.alloc (.cells #[.slice ko l1 kc, .slice none 0 0, .bool G] 25)).drew.cell? ⟨b, off + j * 3 + 1, none⟩ = some (.slice vo vl vc) := cell_later hB0 c1
        clear t1
        generalize (wr.alloc (.cells #[.slice ko l1 kc, .slice none 0 0, .bool G] 25)).drew = V at hB0 bx c10 hsz ⊢
        obtain ⟨x0, x1, x2, z⟩ := bx
        have z0 := z 0
        have z1 := z 1
        have hl1e := tkw.len_eq
        have hkle := tk.len_eq
        have lowk1 : ∀ ad, ko = some ad → 0 < l1 → ad.block < w.heap.size ∨ wr.heap.size ≤ ad.block := fun ad ha h0 => .inl (lowk ad ha (by rw [List.length_take] at hl1e; omega))
        have tkV := tkw.later hB0
        have tvV := tv.later hB0
        by_cases hl0 : l1 = 0
        · have hX4 : Below wr.heap.size wr ((V.setCell ⟨wr.heap.size, 0, none⟩ (.slice (some ⟨V.heap.size, 0, none⟩) 1 1)).alloc (.cells #[.int .u8 107] 5)) := (hB0.setCell (p := ⟨wr.heap.size, 0, none⟩) (Nat.le_refl _) _).alloc (by simp [World.setCell]; omega) _
          have hkey : (cutE k v e).k = [107] := by simp only [cutE]; rw [if_pos (by omega)]
          have tnew : Tx ((V.setCell ⟨wr.heap.size, 0, none⟩ (.slice (some ⟨V.heap.size, 0, none⟩) 1 1)).alloc (.cells #[.int .u8 107] 5)) (some ⟨V.heap.size, 0, none⟩) 1 1 [107] := tx_one_at _ _ (by simp [World.setCell]) 107 (by omega)
          have fnew : ∀ ad, (some (⟨V.heap.size, 0, none⟩ : Addr)) = some ad → 0 < 1 → ad.block < w.heap.size ∨ wr.heap.size ≤ ad.block := fun ad ha _ => .inr (by cases ha; simp; omega)
          have tv4 := tv.later hX4
          have hX3 : ∀ l2, Below wr.heap.size wr (((V.setCell ⟨wr.heap.size, 0, none⟩ (.slice (some ⟨V.heap.size, 0, none⟩) 1 1)).setCell ⟨wr.heap.size, 1, none⟩ (.slice vo l2 vc)).alloc (.cells #[.int .u8 107] 5)) := fun l2 => ((hB0.setCell (p := ⟨wr.heap.size, 0, none⟩) (Nat.le_refl _) _).setCell (p := ⟨wr.heap.size, 1, none⟩) (Nat.le_refl _) _).alloc (by simp [World.setCell]; omega) _
          have hbne : ¬ b = wr.heap.size := by have := World.block_lt_of_cell? _ _ c1; simp at this; omega
          have hbne2 : ¬ b = V.heap.size := by have := World.block_lt_of_cell? _ _ c1; simp at this; omega
          have c14 := cell_later hX4 c1
          cases G with
          | false =>
            have hval : (cutE k v e).v = e.v.take v := by simp [cutE, hGe.out]
            have hHR := fun (l2 : Nat) (t2 : Tx wr vo l2 vc (e.v.take v)) (HX : Below wr.heap.size wr (((V.setCell ⟨wr.heap.size, 0, none⟩ (.slice (some ⟨V.heap.size, 0, none⟩) 1 1)).setCell ⟨wr.heap.size, 1, none⟩ (.slice vo l2 vc)).alloc (.cells #[.int .u8 107] 5))) => re_ent (e := cutE k v e) (G := false) (X := (((V.setCell ⟨wr.heap.size, 0, none⟩ (.slice (some ⟨V.heap.size, 0, none⟩) 1 1)).setCell ⟨wr.heap.size, 1, none⟩ (.slice vo l2 vc)).alloc (.cells #[.int .u8 107] 5))) hls hGe.out.symm (by rw [hkey]; exact tx_one_at _ _ (by simp [World.setCell]) 107 (by omega)) (by rw [hval]; exact t2.later HX) fnew (lowv2 l2 t2) (.cells #[.slice (some ⟨V.heap.size, 0, none⟩) 1 1, .slice vo l2 vc, .bool false] 25)
            go_wp2_with (first | (go_at_call 15; with_reducible refine (cut_at vo vl vc v v e.v _ rfl tv4 hv).mono ?_; rintro r w1 ⟨l2, rfl, hl2, t2, rfl⟩; have t2w := cutw l2 t2.len_eq.symm; have HX := hX3 l2; have HL := ls_ent hls HX (.cells #[.slice (some ⟨V.heap.size, 0, none⟩) 1 1, .slice vo l2 vc, .bool false] 25); have HB := size_ent (.cells #[.slice (some ⟨V.heap.size, 0, none⟩) 1 1, .slice vo l2 vc, .bool false] 25) hb HX; have HR := hHR l2 t2w HX) | (with_reducible show wpList _ _ _ (⟨some 56, _, _, _, _, _⟩ :: _) _ _; refine wpList_one RE.stable RE.plain Try.underlying22 Try.info25 rfl (by omega) (by omega) rfl _ _ rfl w.heap.size (.slice bo m cb) (keepL j k v l) rfl HL ⟨V.heap.size + 1, 0, none⟩ 1 [.slice (some ⟨V.heap.size, 0, none⟩) 1 1, .slice vo l2 vc, .bool false] (cutE k v e) rfl (cells3_at (((V.setCell ⟨wr.heap.size, 0, none⟩ (.slice (some ⟨V.heap.size, 0, none⟩) 1 1)).setCell ⟨wr.heap.size, 1, none⟩ (.slice vo l2 vc)).alloc (.cells #[.int .u8 107] 5)) (V.heap.size + 1) (by simp [World.setCell]) _ _ _) HR hkl9.out HB ?_; intro ao5 n5 c5 w5 hn5 hls5 hof5 hsub5; have hn6 := hn5.trans hlen1.out; clear hn5; subst hn6))
            go_roundw
            case rel => exact ⟨j + 1, m + 1, ao5, c5, by omega, by omega, by go_num, rfl, by show _ = _; rw [hm.out], by rw [hsuc.out]; exact hls5, below_ent hls hb HX hof5⟩
            case measure => simp [intOf]; omega
          | true =>
            have hval : (cutE k v e).v = [] := by simp [cutE, hGe.out]
            have HX := hX4
            have HL := ls_ent hls HX (.cells #[.slice (some ⟨V.heap.size, 0, none⟩) 1 1, .slice none 0 0, .bool true] 25)
            have HB := size_ent (.cells #[.slice (some ⟨V.heap.size, 0, none⟩) 1 1, .slice none 0 0, .bool true] 25) hb HX
            have HR := re_ent (e := cutE k v e) (G := true) (X := ((V.setCell ⟨wr.heap.size, 0, none⟩ (.slice (some ⟨V.heap.size, 0, none⟩) 1 1)).alloc (.cells #[.int .u8 107] 5))) hls hGe.out.symm (by rw [hkey]; exact tnew) (by rw [hval]; exact Tx.nil _) fnew (fun _ h => by cases h) (.cells #[.slice (some ⟨V.heap.size, 0, none⟩) 1 1, .slice none 0 0, .bool true] 25)
            go_wp2_with (with_reducible show wpList _ _ _ (⟨some 56, _, _, _, _, _⟩ :: _) _ _; refine wpList_one RE.stable RE.plain Try.underlying22 Try.info25 rfl (by omega) (by omega) rfl _ _ rfl w.heap.size (.slice bo m cb) (keepL j k v l) rfl HL ⟨V.heap.size + 1, 0, none⟩ 1 [.slice (some ⟨V.heap.size, 0, none⟩) 1 1, .slice none 0 0, .bool true] (cutE k v e) rfl (cells3_at ((V.setCell ⟨wr.heap.size, 0, none⟩ (.slice (some ⟨V.heap.size, 0, none⟩) 1 1)).alloc (.cells #[.int .u8 107] 5)) (V.heap.size + 1) (by simp [World.setCell]) _ _ _) HR hkl9.out HB ?_; intro ao5 n5 c5 w5 hn5 hls5 hof5 hsub5; have hn6 := hn5.trans hlen1.out; clear hn5; subst hn6)
            go_roundw
            case rel => exact ⟨j + 1, m + 1, ao5, c5, by omega, by omega, by go_num, rfl, by show _ = _; rw [hm.out], by rw [hsuc.out]; exact hls5, below_ent hls hb HX hof5⟩
            case measure => simp [intOf]; omega
        · have hl0' : ((l1 : Int) == 0) = false := by simp [hl0]
          have hkey : (cutE k v e).k = e.k.take k := by simp only [cutE]; rw [if_neg (by omega)]
          cases G with
          | false =>
            have hval : (cutE k v e).v = e.v.take v := by simp [cutE, hGe.out]
            have hHR := fun (l2 : Nat) (t2 : Tx wr vo l2 vc (e.v.take v)) (HX : Below wr.heap.size wr (V.setCell ⟨wr.heap.size, 1, none⟩ (.slice vo l2 vc))) => re_ent (e := cutE k v e) (G := false) (X := (V.setCell ⟨wr.heap.size, 1, none⟩ (.slice vo l2 vc))) hls hGe.out.symm (by rw [hkey]; exact tkw.later HX) (by rw [hval]; exact t2.later HX) lowk1 (lowv2 l2 t2) (.cells #[.slice ko l1 kc, .slice vo l2 vc, .bool false] 25)
            go_wp2_with (first | (go_at_call 15; with_reducible refine (cut_at vo vl vc v v e.v _ rfl tvV hv).mono ?_; rintro r w1 ⟨l2, rfl, hl2, t2, rfl⟩; have t2w := cutw l2 t2.len_eq.symm; have HX : Below wr.heap.size wr (V.setCell ⟨wr.heap.size, 1, none⟩ (.slice vo l2 vc)) := hB0.setCell (p := ⟨wr.heap.size, 1, none⟩) (Nat.le_refl _) _; have HL := ls_ent hls HX (.cells #[.slice ko l1 kc, .slice vo l2 vc, .bool false] 25); have HB := size_ent (.cells #[.slice ko l1 kc, .slice vo l2 vc, .bool false] 25) hb HX; have HR := hHR l2 t2w HX) | (with_reducible show wpList _ _ _ (⟨some 56, _, _, _, _, _⟩ :: _) _ _; refine wpList_one RE.stable RE.plain Try.underlying22 Try.info25 rfl (by omega) (by omega) rfl _ _ rfl w.heap.size (.slice bo m cb) (keepL j k v l) rfl HL ⟨V.heap.size, 0, none⟩ 1 [.slice ko l1 kc, .slice vo l2 vc, .bool false] (cutE k v e) rfl (cells3_at (V.setCell ⟨wr.heap.size, 1, none⟩ (.slice vo l2 vc)) (V.heap.size) (by simp [World.setCell]) _ _ _) HR hkl9.out HB ?_; intro ao5 n5 c5 w5 hn5 hls5 hof5 hsub5; have hn6 := hn5.trans hlen1.out; clear hn5; subst hn6))
            go_roundw
            case rel => exact ⟨j + 1, m + 1, ao5, c5, by omega, by omega, by go_num, rfl, by show _ = _; rw [hm.out], by rw [hsuc.out]; exact hls5, below_ent hls hb HX hof5⟩
            case measure => simp [intOf]; omega
          | true =>
            have hval : (cutE k v e).v = [] := by simp [cutE, hGe.out]
            have HX := hB0
            have HL := ls_ent hls HX (.cells #[.slice ko l1 kc, .slice none 0 0, .bool true] 25)
            have HB := size_ent (.cells #[.slice ko l1 kc, .slice none 0 0, .bool true] 25) hb HX
            have HR := re_ent (e := cutE k v e) (G := true) (X := V) hls hGe.out.symm (by rw [hkey]; exact tkw.later HX) (by rw [hval]; exact Tx.nil _) lowk1 (fun _ h => by cases h) (.cells #[.slice ko l1 kc, .slice none 0 0, .bool true] 25)
            go_wp2_with (with_reducible show wpList _ _ _ (⟨some 56, _, _, _, _, _⟩ :: _) _ _; refine wpList_one RE.stable RE.plain Try.underlying22 Try.info25 rfl (by omega) (by omega) rfl _ _ rfl w.heap.size (.slice bo m cb) (keepL j k v l) rfl HL ⟨V.heap.size, 0, none⟩ 1 [.slice ko l1 kc, .slice none 0 0, .bool true] (cutE k v e) rfl (cells3_new V _ _ _) HR hkl9.out HB ?_; intro ao5 n5 c5 w5 hn5 hls5 hof5 hsub5; have hn6 := hn5.trans hlen1.out; clear hn5; subst hn6)
            go_roundw
            case rel => exact ⟨j + 1, m + 1, ao5, c5, by omega, by omega, by go_num, rfl, by show _ = _; rw [hm.out], by rw [hsuc.out]; exact hls5, below_ent hls hb HX hof5⟩
            case measure => simp [intOf]; omega
    · have hq : (j : Int) < (len : Int) → ¬ (j : Int) < (n : Int) := by omega
      have hend : keepL j k v l = keepL n k v l := by
        rw [keepL, keepL]
        congr 1
        by_cases hjn2 : j = n
        · rw [hjn2]
        · rw [List.take_of_length_le (by omega), List.take_of_length_le (by omega)]
      obtain ⟨ao9, cap9, e9, hx9⟩ := hls.read RE.stable RE.plain
      simp only [Value.slice.injEq] at e9
      obtain ⟨rfl, e10, rfl⟩ := e9
      rw [← e10, hend] at hx9
      clear hls hend e10
      go_wp2
      all_goals go_ret
      all_goals exact ⟨bo, m, cb, rfl, hx9, hb⟩

end Go.Proofs.Yteeemfohehpaeaa
