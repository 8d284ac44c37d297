/- The walk of block.Seek. -/
import Derived.Test.YtdlkakkoaelemaaBWalksG
import Derived.Test.YtdlkakkoaelemaaBMod2
namespace Go.Proofs.Ytdlkakkoaelemaa
open Go.RowKit

/-- What Seek answers. -/
def SeekPost (w : World) (xs ks : List Int) (e : Ending) (w' : World) : Prop :=
  ((∃ en ko kl kc vo vl vc, seekL (entsOf xs) ks = some en ∧ e = .returned (.tuple #[.agg #[.slice ko kl kc, .slice vo vl vc, .bool en.g], .bool true]) ∧ Tx w' ko kl kc en.k ∧ Tx w' vo vl vc en.v) ∨ (seekL (entsOf xs) ks = none ∧ e = .returned (.tuple #[.agg #[.slice none 0 0, .slice none 0 0, .bool false], .bool false]))) ∧ Below w.heap.size w w'

theorem ents_len (xs : List Int) : ∀ e ∈ entsOf xs, e.k.length ≤ 255 := by
  intro e he
  unfold entsOf at he
  cases h : allB xs with
  | none => rw [h] at he; simp at he
  | some l =>
    rw [h] at he
    obtain ⟨h1, _⟩ := (allB_iff xs l).1 h
    obtain ⟨m1, _⟩ := (validB_iff l xs).1 h1
    obtain ⟨_, _, n3⟩ := (mayB_iff 255 l).1 m1
    exact ((fitsE_iff e).1 (okL_fits l [] n3 e (by simpa using he))).2.1

theorem seek_hit {w V : World} {xs ks : List Int} {en : Ent} {ko vo : Option Addr} {kl kc vl vc : Nat} {G : Bool} (hG : en.g = G) (h : seekL (entsOf xs) ks = some en) (hlt : ∀ ad, ko = some ad → 0 < kl → ad.block ≠ w.heap.size) (hlt2 : ∀ ad, vo = some ad → 0 < vl → ad.block ≠ w.heap.size) (tk : Tx V ko kl kc en.k) (tv : Tx V vo vl vc en.v) (hb : Below w.heap.size w V) :
    SeekPost w xs ks (.returned (.tuple #[.agg #[.slice ko kl kc, .slice vo vl vc, .bool G], .bool true])) (((V.setCell ⟨w.heap.size, 0, none⟩ (.slice ko kl kc)).setCell ⟨w.heap.size, 1, none⟩ (.slice vo vl vc)).setCell ⟨w.heap.size, 2, none⟩ (.bool G)) := by
  subst hG
  have O3 : Off [w.heap.size] V (((V.setCell ⟨w.heap.size, 0, none⟩ (.slice ko kl kc)).setCell ⟨w.heap.size, 1, none⟩ (.slice vo vl vc)).setCell ⟨w.heap.size, 2, none⟩ (.bool en.g)) :=
    (((Off.refl [w.heap.size] V).setCell (p := ⟨w.heap.size, 0, none⟩) (by simp) _).setCell (p := ⟨w.heap.size, 1, none⟩) (by simp) _).setCell (p := ⟨w.heap.size, 2, none⟩) (by simp) _
  exact ⟨.inl ⟨en, ko, kl, kc, vo, vl, vc, h, rfl, tk.off O3 (fun ad ha h0 hk => by simp at hk; exact hlt ad ha h0 hk), tv.off O3 (fun ad ha h0 hk => by simp at hk; exact hlt2 ad ha h0 hk)⟩, hb.trans (O3.below (by simp) hb.size)⟩
theorem seek_miss {w V : World} {xs ks : List Int} (h : seekL (entsOf xs) ks = none) (hb : Below w.heap.size w V) :
    SeekPost w xs ks (.returned (.tuple #[.agg #[.slice none 0 0, .slice none 0 0, .bool false], .bool false])) (((V.setCell ⟨w.heap.size, 0, none⟩ (.slice none 0 0)).setCell ⟨w.heap.size, 1, none⟩ (.slice none 0 0)).setCell ⟨w.heap.size, 2, none⟩ (.bool false)) := by
  have O3 : Off [w.heap.size] V (((V.setCell ⟨w.heap.size, 0, none⟩ (.slice none 0 0)).setCell ⟨w.heap.size, 1, none⟩ (.slice none 0 0)).setCell ⟨w.heap.size, 2, none⟩ (.bool false)) :=
    (((Off.refl [w.heap.size] V).setCell (p := ⟨w.heap.size, 0, none⟩) (by simp) _).setCell (p := ⟨w.heap.size, 1, none⟩) (by simp) _).setCell (p := ⟨w.heap.size, 2, none⟩) (by simp) _
  exact ⟨.inr ⟨h, rfl⟩, hb.trans (O3.below (by simp) hb.size)⟩

set_option maxHeartbeats 4000000 in
theorem seek_any (ao : Option Addr) (la ca : Nat) (xs : List Int) (bo : Option Addr) (lb cb : Nat) (ks : List Int) (w : World) (ha : Tx w ao la ca xs) (hk : Tx w bo lb cb ks) (sa : la ≤ 900000000) (sk : lb ≤ 900000000) :
    Calls Try.prog 17 #[.slice ao la ca, .slice bo lb cb] w fun e w' => SeekPost w xs ks e w' := by
  have b0 : Below w.heap.size w (w.alloc (.cells #[.slice none 0 0, .slice none 0 0, .bool false] 25)) := (Below.refl _ _).alloc (Nat.le_refl _) _
  have bx0 := Boxf.new' w (.slice none 0 0) (.slice none 0 0) false
  go_enter Try.func17, Try.ntmps17
  go_wp2_with fail
  generalize w.alloc (.cells #[.slice none 0 0, .slice none 0 0, .bool false] 25) = V0 at b0 bx0 ⊢
  have hall := all_any [w.heap.size] ao la ca xs V0 (ha.later b0) sa (by simpa using bx0.lt)
  with_reducible refine hall.mono ?_
  clear hall
  intro e V1 hpost
  have hcase : ∃ (co : Option Addr) (lc cc : Nat) (z : Int), e = .returned (.tuple #[.slice co lc cc, .int .i64 z]) ∧ Lx 3 (REx [w.heap.size]) V1 co lc cc (entsOf xs) ∧ Below V0.heap.size V0 V1 := by
    rcases hpost with ⟨es, co, lc, cc, h1, rfl, hl, hb⟩ | ⟨h1, rfl, hb⟩
    · exact ⟨co, lc, cc, 0, rfl, by unfold entsOf; rw [h1]; exact hl, hb⟩
    · exact ⟨none, 0, 0, 12, rfl, by unfold entsOf; rw [h1]; exact Lx.nil _ _ _, hb⟩
  clear hpost
  obtain ⟨co, lc, cc, z, rfl, hl, b1⟩ := hcase
  have hkl := ents_len xs
  have hseek := fun k e => seek_at (entsOf xs) ks k e
  have hnone := seek_none (entsOf xs) ks
  have hlen := hl.len_eq
  have hle := hl.le
  have htop := hl.top
  unfold maxLen at htop
  have bw1 : Below w.heap.size w V1 := b0.trans (b1.mono b0.size)
  have bx1 := bx0.off (S := []) (.of_below b1) (by simp)
  have hz1 := bx1.lt
  by_cases h0 : 0 < lc
  · obtain ⟨b, off, rfl, hc⟩ := hl.headX h0
    go_wp2
    go_loopw [17] (fun i wr => ∃ k : Nat, k ≤ lc ∧ i = .int .i64 k ∧ Hid (∀ (j : Nat) (y : Ent), j < k → (entsOf xs)[j]? = some y → lessB y.k ks = true) ∧ Below V1.heap.size V1 wr) (fun i _ => lc - (intOf i).toNat)
    case atStart => exact ⟨0, by omega, rfl, fun j y hj => (by omega), Below.refl _ _⟩
    case round =>
      obtain ⟨k, hk2, rfl, hbef, hb⟩ := hrel
      have bxr := bx1.off (S := []) (.of_below hb) (by simp)
      have bwr : Below w.heap.size w wr := bw1.trans (hb.mono bw1.size)
      by_cases hk3 : k < lc
      · have hx : (entsOf xs)[k]? = some ((entsOf xs)[k]'(by omega)) := by simp
        obtain ⟨ko, kl, kc, vo, vl, vc, c0, c1, c2, tk, tv, nk, nv⟩ := hc k _ hx
        have hkle := hkl _ (List.getElem_mem (l := entsOf xs) (n := k) (by omega))
        generalize (entsOf xs)[k]'(by omega) = en at hx c2 tk tv hkle
        rw [tk.len_eq] at hkle
        have hX : Hid ((entsOf xs)[k]? = some en) := hx
        clear hx
        have c0 := cell_later hb c0
        have c1 := cell_later hb c1
        have c2 := cell_later hb c2
        obtain ⟨G, hG⟩ : ∃ G, Hid (en.g = G) := ⟨_, rfl⟩
        rw [hG.out] at c2
        have bx := Box.new wr (.slice ko kl kc) (.slice vo vl vc) G
        have hB := fun (o : Obj) => (hb.alloc hb.size o : Below V1.heap.size V1 (wr.alloc o))
        have hBw := fun (o : Obj) => (bwr.alloc bwr.size o : Below w.heap.size w (wr.alloc o))
        have hless := fun (o : Obj) => less_any ko bo kl kc lb cb en.k ks (wr.alloc o) (tk.later (hB o)) (hk.later (hBw o)) (by omega) (by omega)
        obtain ⟨F, hF⟩ : ∃ F, Hid (lessB en.k ks = F) := ⟨_, rfl⟩
        rw [hF.out] at hless
        cases F with
        | true =>
          have hnx : Hid (∀ (j : Nat) (y : Ent), j < k + 1 → (entsOf xs)[j]? = some y → lessB y.k ks = true) := fun j y hj hy => by
            by_cases hjk : j = k
            · subst hjk
              rw [hX.out] at hy
              cases hy
              exact hF.out
            · exact hbef.out j y (by omega) hy
          go_wp2_with (go_at_call 30; with_reducible refine (hless _).mono ?_; rintro r w1 ⟨rfl, b2⟩)
          go_roundw
          case rel => exact ⟨k + 1, by omega, by go_num, hnx, (hb.alloc hb.size _).trans (b2.mono (by have := hb.size; simp; omega))⟩
          case measure => simp [intOf]; omega
        | false =>
          have hfound : Hid (seekL (entsOf xs) ks = some en) := hseek k en hX.out hbef.out hF.out
          clear hseek hnone
          have nk' : ∀ ad, ko = some ad → 0 < kl → ad.block ≠ w.heap.size := fun ad h h0 => by simpa using nk ad h h0
          have nv' : ∀ ad, vo = some ad → 0 < vl → ad.block ≠ w.heap.size := fun ad h h0 => by simpa using nv ad h h0
          have hfin : ∀ (w1 : World), Below wr.heap.size wr w1 → Boxf w1 w.heap.size (.slice none 0 0) (.slice none 0 0) false ∧ SeekPost w xs ks (.returned (.tuple #[.agg #[.slice ko kl kc, .slice vo vl vc, .bool G], .bool true])) (((w1.setCell ⟨w.heap.size, 0, none⟩ (.slice ko kl kc)).setCell ⟨w.heap.size, 1, none⟩ (.slice vo vl vc)).setCell ⟨w.heap.size, 2, none⟩ (.bool G)) := fun w1 b =>
            ⟨bxr.off (S := []) (.of_below b) (by simp), seek_hit hG.out hfound.out nk' nv' (tk.later (hb.trans (b.mono hb.size))) (tv.later (hb.trans (b.mono hb.size))) (bwr.trans (b.mono bwr.size))⟩
          have bA : Below wr.heap.size wr (wr.alloc (.cells #[.slice ko kl kc, .slice vo vl vc, .bool G] 25)) := (Below.refl _ _).alloc (Nat.le_refl _) _
          go_wp2_with (go_at_call 30; with_reducible refine (hless _).mono ?_; rintro r w1 ⟨rfl, b2⟩; have bx2 := bx.later b2; have y0 := bx2.c0; have y1 := bx2.c1; have y2 := bx2.c2; have hf := hfin w1 (bA.trans (b2.mono bA.size)); have x0 := hf.1.c0; have x1 := hf.1.c1; have x2 := hf.1.c2; have z0 := hf.1.z 0; have z1 := hf.1.z 1; have z2 := hf.1.z 2)
          have q := box_set w1 w.heap.size (.slice ko kl kc) (.slice vo vl vc) _ _ hf.1 (.bool G)
          have hend := hf.2
          generalize ((w1.setCell ⟨w.heap.size, 0, none⟩ (.slice ko kl kc)).setCell ⟨w.heap.size, 1, none⟩ (.slice vo vl vc)).setCell ⟨w.heap.size, 2, none⟩ (.bool G) = F at q hend ⊢
          obtain ⟨q0, q1, q2⟩ := q
          exact bodyPost_ret (v := .tuple #[.agg #[.slice ko kl kc, .slice vo vl vc, .bool G], .bool true]) (by simp [results, Try.results17, go_sem, q0, q1, q2]) rfl hend
      · have hno : Hid (seekL (entsOf xs) ks = none) := hnone (fun j y hj hy => hbef.out j y (by omega) hy)
        obtain ⟨x0, x1, x2, zz⟩ := bxr
        have q := box_set wr w.heap.size (.slice none 0 0) (.slice none 0 0) _ _ ⟨x0, x1, x2, zz⟩ (.bool false)
        have z0 := zz 0
        have z1 := zz 1
        have z2 := zz 2
        have hend := seek_miss (w := w) (V := wr) hno.out bwr
        go_wp2
        generalize ((wr.setCell ⟨w.heap.size, 0, none⟩ (.slice none 0 0)).setCell ⟨w.heap.size, 1, none⟩ (.slice none 0 0)).setCell ⟨w.heap.size, 2, none⟩ (.bool false) = F at q hend ⊢
        obtain ⟨q0, q1, q2⟩ := q
        exact bodyPost_ret (v := .tuple #[.agg #[.slice none 0 0, .slice none 0 0, .bool false], .bool false]) (by simp [results, Try.results17, go_sem, q0, q1, q2]) rfl hend
  · obtain rfl : lc = 0 := by omega
    have hno : Hid (seekL (entsOf xs) ks = none) := hnone (fun j y hj hy => by omega)
    obtain ⟨x0, x1, x2, zz⟩ := bx1
    have q := box_set V1 w.heap.size (.slice none 0 0) (.slice none 0 0) _ _ ⟨x0, x1, x2, zz⟩ (.bool false)
    have z0 := zz 0
    have z1 := zz 1
    have z2 := zz 2
    have hend := seek_miss (w := w) (V := V1) hno.out bw1
    go_wp2
    refine wp_loop_rounds 1 ?_
    rw [rounds_succ]
    go_wp2
    generalize ((V1.setCell ⟨w.heap.size, 0, none⟩ (.slice none 0 0)).setCell ⟨w.heap.size, 1, none⟩ (.slice none 0 0)).setCell ⟨w.heap.size, 2, none⟩ (.bool false) = F at q hend ⊢
    obtain ⟨q0, q1, q2⟩ := q
    exact bodyPost_ret (v := .tuple #[.agg #[.slice none 0 0, .slice none 0 0, .bool false], .bool false]) (by simp [results, Try.results17, go_sem, q0, q1, q2]) rfl hend

end Go.Proofs.Ytdlkakkoaelemaa
