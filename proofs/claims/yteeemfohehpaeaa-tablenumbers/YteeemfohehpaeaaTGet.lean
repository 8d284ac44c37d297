/- The walk of table.Get. -/
import Derived.Test.YteeemfohehpaeaaTGetM
import Derived.Test.YteeemfohehpaeaaPD
import Derived.Test.YteeemfohehpaeaaBBack
namespace Go.Proofs.Yteeemfohehpaeaa
set_option maxRecDepth 100000
open Go.RowKit Go.Sort

def GetPost (w : World) (m : List Ent) (ks : List Int) (e : Ending) (w' : World) : Prop :=
  ((∃ en ko kl kc vo vl vc, getL m ks = some en ∧ e = .returned (.tuple #[.agg #[.slice ko kl kc, .slice vo vl vc, .bool en.g], .bool true]) ∧ Tx w' ko kl kc en.k ∧ Tx w' vo vl vc en.v) ∨ (getL m ks = none ∧ e = .returned (.tuple #[.agg #[.slice none 0 0, .slice none 0 0, .bool false], .bool false]))) ∧ Below w.heap.size w w'

theorem seek_mem {l : List Ent} {ks : List Int} (ho : okL [] l = true) {e : Ent} (he : e ∈ l) (hk : e.k = ks) : seekL l ks = some e := by
  obtain ⟨i, hi, rfl⟩ := List.getElem_of_mem he
  rw [← hk]
  exact seek_self ho i _ (by simp)
theorem get_hit {w V : World} {m : List Ent} {ks : List Int} {en : Ent} {ko vo : Option Addr} {kl kc vl vc : Nat} {G : Bool} (hG : en.g = G) (h : getL m ks = some en) (hlt : ∀ ad, ko = some ad → 0 < kl → ad.block ≠ w.heap.size) (hlt2 : ∀ ad, vo = some ad → 0 < vl → ad.block ≠ w.heap.size) (tk : Tx V ko kl kc en.k) (tv : Tx V vo vl vc en.v) (hb : Below w.heap.size w V) :
    GetPost w m ks (.returned (.tuple #[.agg #[.slice ko kl kc, .slice vo vl vc, .bool G], .bool true])) (((V.setCell ⟨w.heap.size, 0, none⟩ (.slice ko kl kc)).setCell ⟨w.heap.size, 1, none⟩ (.slice vo vl vc)).setCell ⟨w.heap.size, 2, none⟩ (.bool G)) := by
  subst hG
  have O3 : Off [w.heap.size] V (((V.setCell ⟨w.heap.size, 0, none⟩ (.slice ko kl kc)).setCell ⟨w.heap.size, 1, none⟩ (.slice vo vl vc)).setCell ⟨w.heap.size, 2, none⟩ (.bool en.g)) :=
    (((Off.refl [w.heap.size] V).setCell (p := ⟨w.heap.size, 0, none⟩) (by simp) _).setCell (p := ⟨w.heap.size, 1, none⟩) (by simp) _).setCell (p := ⟨w.heap.size, 2, none⟩) (by simp) _
  exact ⟨.inl ⟨en, ko, kl, kc, vo, vl, vc, h, rfl, tk.off O3 (fun ad ha h0 hk => by simp at hk; exact hlt ad ha h0 hk), tv.off O3 (fun ad ha h0 hk => by simp at hk; exact hlt2 ad ha h0 hk)⟩, hb.trans (O3.below (by simp) hb.size)⟩
theorem get_miss {w V : World} {m : List Ent} {ks : List Int} (h : getL m ks = none) (hb : Below w.heap.size w V) :
    GetPost w m ks (.returned (.tuple #[.agg #[.slice none 0 0, .slice none 0 0, .bool false], .bool false])) (((V.setCell ⟨w.heap.size, 0, none⟩ (.slice none 0 0)).setCell ⟨w.heap.size, 1, none⟩ (.slice none 0 0)).setCell ⟨w.heap.size, 2, none⟩ (.bool false)) := by
  have O3 : Off [w.heap.size] V (((V.setCell ⟨w.heap.size, 0, none⟩ (.slice none 0 0)).setCell ⟨w.heap.size, 1, none⟩ (.slice none 0 0)).setCell ⟨w.heap.size, 2, none⟩ (.bool false)) :=
    (((Off.refl [w.heap.size] V).setCell (p := ⟨w.heap.size, 0, none⟩) (by simp) _).setCell (p := ⟨w.heap.size, 1, none⟩) (by simp) _).setCell (p := ⟨w.heap.size, 2, none⟩) (by simp) _
  exact ⟨.inr ⟨h, rfl⟩, hb.trans (O3.below (by simp) hb.size)⟩

theorem tx_apart {V : World} {g : Nat} {a1 b1 : Option Addr} {a2 a3 b2 b3 : Nat} {c : Bool} {ao : Option Addr} {l cap : Nat} {xs : List Int} (hg : V.heap[g]? = some (.cells #[.slice a1 a2 a3, .slice b1 b2 b3, .bool c] 25)) (t : Tx V ao l cap xs) : ∀ ad, ao = some ad → 0 < l → ad.block ≠ g := by
  intro ad ha h0 he
  obtain ⟨b, off, hab, hc⟩ := t.head h0
  rw [ha] at hab
  cases hab
  simp only at he
  subst he
  have h1 := hc 0 h0
  rw [cell_of_row V b _ _ 25 (0, 0) hg] at h1
  match hof : off + 0, h1 with
  | 0, h1 => simp at h1
  | 1, h1 => simp at h1
  | 2, h1 => simp at h1
  | k + 3, h1 => simp at h1

set_option maxHeartbeats 8000000 in
theorem tget_any (pb : Nat) (m : List Ent) (bo : Option Addr) (lb cb : Nat) (ks : List Int) (w : World) (h : Tb w pb m) (hk : Tx w bo lb cb ks) (sk : lb ≤ 900000000) :
    Calls Try.prog 23 #[.pointer (some ⟨pb, 0, none⟩), .slice bo lb cb] w fun e w' => GetPost w m ks e w' := by
  obtain ⟨ps, ls, ro, rl, rc, ht, hpk⟩ := h
  have b0 : Below w.heap.size w (w.alloc (.cells #[.slice none 0 0, .slice none 0 0, .bool false] 25)) := (Below.refl _ _).alloc (Nat.le_refl _) _
  have bx0 := Boxf.new' w (.slice none 0 0) (.slice none 0 0) false
  have hrl := ht.row.len_eq
  have hpl9 : rl ≤ 1000000 := by have := hpk.cnt; have := hpk.le; omega
  have hg0 : (w.alloc (.cells #[.slice none 0 0, .slice none 0 0, .bool false] 25)).heap[w.heap.size]? = some (.cells #[.slice none 0 0, .slice none 0 0, .bool false] 25) := heap_alloc_new w _
  go_enter Try.func23, Try.ntmps23
  go_wp2_with fail
  generalize w.alloc (.cells #[.slice none 0 0, .slice none 0 0, .bool false] 25) = V0 at b0 bx0 hg0 ⊢
  have t0 := ht.later b0
  have hk0 := hk.later b0
  have hpl := place_any pb ps m.length ro rl rc bo lb cb ks V0 t0 hk0 hpl9 (by omega) hpk.key_le hpk.mono
  with_reducible refine hpl.mono ?_
  clear hpl
  rintro e V1 ⟨n, rfl, hP, b1⟩
  have t1 := t0.later b1
  have bw1 : Below w.heap.size w V1 := b0.trans (b1.mono b0.size)
  have bx1 := bx0.off (S := []) (.of_below b1) (by simp)
  have c0 := t1.c0
  have hnl := hP.le
  by_cases hn : n = rl
  · have hno : Hid (getL m ks = none) := hpk.get_out hP (by omega)
    have q := box_set V1 w.heap.size (.slice none 0 0) (.slice none 0 0) _ _ bx1 (.bool false)
    have z0 := bx1.z 0
    have z1 := bx1.z 1
    have z2 := bx1.z 2
    obtain ⟨x0, x1, x2, _⟩ := bx1
    have hend := get_miss (w := w) (V := V1) hno.out bw1
    subst hn
    go_wp2
    generalize ((V1.setCell ⟨w.heap.size, 0, none⟩ (.slice none 0 0)).setCell ⟨w.heap.size, 1, none⟩ (.slice none 0 0)).setCell ⟨w.heap.size, 2, none⟩ (.bool false) = F at q hend ⊢
    obtain ⟨q0, q1, q2⟩ := q
    exact bodyPost_ret (v := .tuple #[.agg #[.slice none 0 0, .slice none 0 0, .bool false], .bool false]) (by simp [results, Try.results23, go_sem, q0, q1, q2]) rfl hend
  · have hnlt : n < ps.length := by omega
    have hx : ps[n]? = some (ps[n]'hnlt) := by simp
    obtain ⟨rb, rf, rfl, hc⟩ := t1.row.headP (by omega)
    obtain ⟨to, tl, tc, lo, ll, lc, d0, d1, tt, tL⟩ := hc n _ hx
    obtain ⟨l, hl, hal, h2, v1, v3, _⟩ := hpk.blk hx
    have hsz := hpk.sz _ (List.getElem_mem hnlt)
    have hin := fun (e : Ent) (he : e ∈ m) (hke : e.k = ks) => hpk.get_in hP hx hl he hke
    have hsub := fun (e : Ent) (he : e ∈ l) => hpk.sub hl he
    generalize ps[n]'hnlt = p at hx tt tL hal h2 hsz hin
    rw [tt.len_eq] at hsz
    have hes : entsOf p.1 = l := by unfold entsOf; rw [hal]; rfl
    have hsk := seek_any to tl tc p.1 bo lb cb ks V1 tt (hk0.later b1) hsz sk
    have hnb : ((n : Int) == rl) = false := by simp; omega
    have hnr : (n : Int) < rl := by omega
    go_wp2_with fail
    with_reducible refine hsk.mono ?_
    clear hsk
    rintro e V2 ⟨hcase, b2⟩
    have bw2 : Below w.heap.size w V2 := bw1.trans (b2.mono bw1.size)
    have bx2 := bx1.off (S := []) (.of_below b2) (by simp)
    rcases hcase with ⟨en, ko, kl, kc, vo, vl, vc, hs, rfl, tk, tv⟩ | ⟨hs, rfl⟩
    · rw [hes] at hs
      have hkv := (hk0.later b1).later b2
      have hmem : en ∈ l := List.mem_of_find?_eq_some hs
      obtain ⟨G, hG⟩ : ∃ G, Hid (en.g = G) := ⟨_, rfl⟩
      rw [hG.out]
      have bB := Box.new V2 (.slice ko kl kc) (.slice vo vl vc) G
      have bA : Below V2.heap.size V2 (V2.alloc (.cells #[.slice ko kl kc, .slice vo vl vc, .bool G] 25)) := (Below.refl _ _).alloc (Nat.le_refl _) _
      have heq := bequal_any ko bo kl kc lb cb en.k ks _ (tk.later bA) (hkv.later bA) (en.k == ks) rfl
      have bx3 := bx2.off (S := []) (.of_below bA) (by simp)
      have bw3 := bw2.trans (bA.mono bw2.size)
      have hg2 : V2.heap[w.heap.size]? = some (.cells #[.slice none 0 0, .slice none 0 0, .bool false] 25) := by
        rw [b2.block _ bx1.lt, b1.block _ bx0.lt]; exact hg0
      have nk := tx_apart hg2 tk
      have nv := tx_apart hg2 tv
      have tk3 := tk.later bA
      have tv3 := tv.later bA
      go_wp2_with fail
      generalize V2.alloc (.cells #[.slice ko kl kc, .slice vo vl vc, .bool G] 25) = V3 at bB bA heq bx3 bw3 tk3 tv3 ⊢
      obtain ⟨y0, y1, y2⟩ := bB
      by_cases hkk : en.k = ks
      · have hyes : Hid (getL m ks = some en) := by show _ = _; rw [← hkk]; exact getL_some hpk.ok (hsub en hmem)
        have hb : (en.k == ks) = true := by simp [hkk]
        rw [hb] at heq
        have q := box_set V3 w.heap.size (.slice ko kl kc) (.slice vo vl vc) _ _ bx3 (.bool G)
        have z0 := bx3.z 0
        have z1 := bx3.z 1
        have z2 := bx3.z 2
        obtain ⟨x0, x1, x2, _⟩ := bx3
        have hend := get_hit hG.out hyes.out nk nv tk3 tv3 bw3
        go_wp2_with (go_at_call 46; with_reducible refine heq.mono ?_; rintro e V ⟨rfl, rfl⟩)
        generalize ((V3.setCell ⟨w.heap.size, 0, none⟩ (.slice ko kl kc)).setCell ⟨w.heap.size, 1, none⟩ (.slice vo vl vc)).setCell ⟨w.heap.size, 2, none⟩ (.bool G) = F at q hend ⊢
        obtain ⟨q0, q1, q2⟩ := q
        exact bodyPost_ret (v := .tuple #[.agg #[.slice ko kl kc, .slice vo vl vc, .bool G], .bool true]) (by simp [results, Try.results23, go_sem, q0, q1, q2]) rfl hend
      · have hno : Hid (getL m ks = none) := getL_none (fun e he hke => by
          have h5 := seek_mem v3 (hin e he hke) hke
          rw [hs] at h5
          cases h5
          exact hkk hke)
        have hb : (en.k == ks) = false := by simp [hkk]
        rw [hb] at heq
        have q := box_set V3 w.heap.size (.slice none 0 0) (.slice none 0 0) _ _ bx3 (.bool false)
        have z0 := bx3.z 0
        have z1 := bx3.z 1
        have z2 := bx3.z 2
        obtain ⟨x0, x1, x2, _⟩ := bx3
        have hend := get_miss (w := w) (V := V3) hno.out bw3
        go_wp2_with (go_at_call 46; with_reducible refine heq.mono ?_; rintro e V ⟨rfl, rfl⟩)
        generalize ((V3.setCell ⟨w.heap.size, 0, none⟩ (.slice none 0 0)).setCell ⟨w.heap.size, 1, none⟩ (.slice none 0 0)).setCell ⟨w.heap.size, 2, none⟩ (.bool false) = F at q hend ⊢
        obtain ⟨q0, q1, q2⟩ := q
        exact bodyPost_ret (v := .tuple #[.agg #[.slice none 0 0, .slice none 0 0, .bool false], .bool false]) (by simp [results, Try.results23, go_sem, q0, q1, q2]) rfl hend
    · rw [hes] at hs
      have hno : Hid (getL m ks = none) := getL_none (fun e he hke => by
        have h5 := seek_mem v3 (hin e he hke) hke
        rw [hs] at h5
        cases h5)
      have bA : Below V2.heap.size V2 (V2.alloc (.cells #[.slice none 0 0, .slice none 0 0, .bool false] 25)) := (Below.refl _ _).alloc (Nat.le_refl _) _
      have bx3 := bx2.off (S := []) (.of_below bA) (by simp)
      have bw3 := bw2.trans (bA.mono bw2.size)
      have q := box_set (V2.alloc (.cells #[.slice none 0 0, .slice none 0 0, .bool false] 25)) w.heap.size (.slice none 0 0) (.slice none 0 0) _ _ bx3 (.bool false)
      have hend := get_miss (w := w) (V := (V2.alloc (.cells #[.slice none 0 0, .slice none 0 0, .bool false] 25))) hno.out bw3
      have z0 := bx3.z 0
      have z1 := bx3.z 1
      have z2 := bx3.z 2
      obtain ⟨x0, x1, x2, _⟩ := bx3
      go_wp2
      generalize (((V2.alloc (.cells #[.slice none 0 0, .slice none 0 0, .bool false] 25)).setCell ⟨w.heap.size, 0, none⟩ (.slice none 0 0)).setCell ⟨w.heap.size, 1, none⟩ (.slice none 0 0)).setCell ⟨w.heap.size, 2, none⟩ (.bool false) = F at q hend ⊢
      obtain ⟨q0, q1, q2⟩ := q
      exact bodyPost_ret (v := .tuple #[.agg #[.slice none 0 0, .slice none 0 0, .bool false], .bool false]) (by simp [results, Try.results23, go_sem, q0, q1, q2]) rfl hend
end Go.Proofs.Yteeemfohehpaeaa
