/- The walks of Live, and of the document's Live. -/
import Derived.Test.YtjbppedphadenaaGJoinP
import Derived.Test.YtjbppedphadenaaBLaw
namespace Go.Proofs.Ytjbppedphadenaa
set_option maxRecDepth 100000
open Go.RowKit Go.Sort

def liveL (es : List Ent) : List Ent := es.filter (fun e => !e.g)
theorem live_take {es : List Ent} {i : Nat} {e : Ent} (h : es[i]? = some e) : liveL (es.take (i + 1)) = liveL (es.take i) ++ (if e.g = true then [] else [e]) := by
  rw [take_snoc es i e h, liveL, List.filter_append]
  congr 1
  cases hg : e.g <;> simp [hg]
theorem live_len (es : List Ent) (i : Nat) : (liveL (es.take i)).length ≤ i := by
  refine Nat.le_trans (List.length_filter_le _ _) ?_
  rw [List.length_take]; omega
theorem hid_eqL {a b : Nat} (h : a = b) : Hid (a = b) := h

set_option maxHeartbeats 4000000 in
theorem live_any (ao : Option Addr) (la ca : Nat) (es : List Ent) (w : World) (h : Lx 3 RE w ao la ca es) (sa : la ≤ 1000000) (sk : ∀ e ∈ es, e.k.length ≤ 1000000000 ∧ e.v.length ≤ 1000000000) :
    Calls Try.prog 9 #[.slice ao la ca] w fun e w' => ∃ bo lb cb, e = .returned (.slice bo lb cb) ∧ Lx 3 RE w' bo lb cb (liveL es) ∧ Below w.heap.size w w' := by
  have hl := h.len_eq
  go_enter Try.func9, Try.ntmps9
  go_wp2
  go_loopw [3, 5, 8] (fun s3 _ s8 wr => ∃ (i m : Nat) (bo : Option Addr) (cb : Nat), i ≤ la ∧ s8 = .int .i64 i ∧ s3 = .slice bo m cb ∧ Hid (m = (liveL (es.take i)).length) ∧ Ls 26 3 (REx []) wr w.heap.size (.slice bo m cb) (liveL (es.take i)) ∧ Below w.heap.size w wr) (fun _ _ s8 _ => la - (intOf s8).toNat)
  case atStart => exact ⟨0, 0, none, 0, by omega, rfl, rfl, rfl, Ls.nil _ _ _ _ _, Below.refl _ _⟩
  case round =>
    obtain ⟨i, m, bo, cb, hi, rfl, rfl, hm, hls, hb⟩ := hrel
    by_cases hi2 : i < la
    · obtain ⟨b, off, rfl, hc⟩ := h.headE (by omega)
      have hx : es[i]? = some (es[i]'(by omega)) := by simp
      obtain ⟨ko, kl, kc, vo, vl, vc, c0, c1, c2, tk, tv⟩ := hc i _ hx
      have hk1 := sk _ (List.getElem_mem (l := es) (n := i) (by omega))
      have hst := live_take hx
      have hlen := live_len es i
      generalize es[i]'(by omega) = e at hx c0 c1 c2 tk tv hk1 hst
      obtain ⟨G, hG⟩ : ∃ G, Hid (e.g = G) := ⟨_, rfl⟩
      rw [hG.out] at c2 hst
      rw [tk.len_eq, tv.len_eq] at hk1
      have hst : Hid (liveL (es.take (i + 1)) = liveL (es.take i) ++ (if G = true then [] else [e])) := hst
      have c0 := cell_later hb c0
      have c1 := cell_later hb c1
      have c2 := cell_later hb c2
      have bA : Below wr.heap.size wr (wr.alloc (.cells #[.slice ko kl kc, .slice vo vl vc, .bool G] 26)) := (Below.refl _ _).alloc (Nat.le_refl _) _
      have hb1 := below_tr2 hb bA
      have HL := hls.later (REx.st []) bA
      have hkI : (i : Int) < la := by omega
      clear hx hc
      generalize liveL (es.take i) = acc at *
      cases G with
      | true =>
        go_wp2
        go_roundw
        case rel => exact ⟨i + 1, m, bo, cb, by omega, by go_num, rfl, by have := hst.out; rw [if_pos rfl, List.append_nil] at this; show _ = _; rw [this]; exact hm.out, by have := hst.out; rw [if_pos rfl, List.append_nil] at this; rw [this]; exact HL, hb1⟩
        case measure => simp [intOf]; omega
      | false =>
        have hown := own_any ko kl kc vo vl vc false e.k e.v _ (tk.later hb1) (tv.later hb1) hk1.1 hk1.2
        go_wp2_with fail
        generalize wr.alloc (.cells #[.slice ko kl kc, .slice vo vl vc, .bool false] 26) = V at *
        with_reducible refine hown.mono ?_
        clear hown
        rintro r V3 ⟨ko', kc', vo', vl', vc', rfl, nk, nv, bV3⟩
        have bA3 : Below V3.heap.size V3 (V3.alloc (.cells #[.slice ko' kl kc', .slice vo' vl' vc', .bool false] 26)) := (Below.refl _ _).alloc (Nat.le_refl _) _
        have bV4 := bV3.trans (bA3.mono bV3.size)
        have HR := rex_nw (S := []) HL (by simp) hG.out nk nv bA3
        have HL4 := HL.later (REx.st []) bV4
        have hnorm : norm e = e := by unfold norm; rw [hG.out]; simp
        rw [hnorm] at HR
        have hC := cells3_at V3 V3.heap.size rfl (.slice ko' kl kc') (.slice vo' vl' vc') (.bool false)
        have hacc : acc.length ≤ 1000000000 := by omega
        have hW4 : w.heap.size ≤ (V3.alloc (.cells #[.slice ko' kl kc', .slice vo' vl' vc', .bool false] 26)).heap.size := by have := bV4.size; have := hb1.size; omega
        clear nk nv bA3 c0 c1 c2
        go_wp2_with (with_reducible show wpList _ _ _ (⟨some 19, _, _, _, _, _⟩ :: _) _ _; refine wpList_one (REx.st []) (REx.pl []) Try.underlying23 Try.info26 rfl (by omega) (by omega) rfl _ _ rfl w.heap.size (.slice bo m cb) acc rfl HL4 ⟨V3.heap.size, 0, none⟩ 1 [.slice ko' kl kc', .slice vo' vl' vc', .bool false] _ rfl hC HR hacc hW4 ?_; intro ao5 n5 c5 w5 hn5 hls5 hof5 hsub5; have hn6 := hid_eqL hn5; clear hn5)
        go_roundw
        case rel => exact ⟨i + 1, n5, ao5, c5, by omega, by go_num, rfl, by have := hst.out; rw [if_neg (by simp)] at this; show _ = _; rw [this, List.length_append]; exact hn6.out, by have := hst.out; rw [if_neg (by simp)] at this; rw [this]; exact hls5, (hb1.trans (bV4.mono hb1.size)).trans (hof5.below (fun q hq => (hls.lt q hq).2) hW4)⟩
        case measure => simp [intOf]; omega
    · have him : i = la := by omega
      have hkI : ¬ (i : Int) < la := by omega
      have htk : es.take i = es := List.take_of_length_le (by omega)
      rw [htk] at hls
      obtain ⟨ao9, cap9, e9, hl9⟩ := hls.read (REx.st []) (REx.pl [])
      simp only [Value.slice.injEq] at e9
      have hl9 : Lx 3 RE wr ao9 (liveL es).length cap9 (liveL es) := ⟨hl9.len_eq, hl9.le, hl9.top, hl9.bare, fun ad ha j x hx => by
        obtain ⟨u, h1, k, v', hu, hk, hv⟩ := hl9.cell ad ha j x hx
        exact ⟨u, h1, k, v', hu, hk.off (.refl _ _) (by simp), hv.off (.refl _ _) (by simp)⟩⟩
      obtain ⟨rfl, rfl, rfl⟩ := e9
      clear hls hm
      go_wp2
      go_ret
      exact ⟨bo, _, cb, rfl, hl9, hb⟩
set_option maxHeartbeats 4000000 in
theorem rlive_any (ao : Option Addr) (la ca : Nat) (es : List Ent) (w : World) (h : Lx 3 RE w ao la ca es) (sa : la ≤ 1000000) :
    Calls Try.prog 10 #[.slice ao la ca] w fun e w' => ∃ bo lb cb, e = .returned (.slice bo lb cb) ∧ Lx 3 RE w' bo lb cb (liveL es) ∧ Below w.heap.size w w' := by
  have hl := h.len_eq
  have hle := h.le
  have htop := h.top
  unfold maxLen at htop
  go_enter Try.func10, Try.ntmps10
  go_wp2
  go_loopw [3, 4] (fun s3 s4 wr => ∃ (i m : Nat) (bo : Option Addr) (cb : Nat), i ≤ la ∧ s4 = .int .i64 i ∧ s3 = .slice bo m cb ∧ Hid (m = (liveL (es.take i)).length) ∧ Ls 26 3 (RW w) wr w.heap.size (.slice bo m cb) (liveL (es.take i)) ∧ Below w.heap.size w wr) (fun _ s4 _ => la - (intOf s4).toNat)
  case atStart => exact ⟨0, 0, none, 0, by omega, rfl, rfl, rfl, Ls.nil _ _ _ _ _, Below.refl _ _⟩
  case round =>
    obtain ⟨i, m, bo, cb, hi, rfl, rfl, hm, hls, hb⟩ := hrel
    by_cases hi2 : i < la
    · obtain ⟨b, off, rfl, hc⟩ := h.headE (by omega)
      have hx : es[i]? = some (es[i]'(by omega)) := by simp
      obtain ⟨ko, kl, kc, vo, vl, vc, c0, c1, c2, tk, tv⟩ := hc i _ hx
      have hst := live_take hx
      have hlen := live_len es i
      generalize es[i]'(by omega) = e at hx c0 c1 c2 tk tv hst
      obtain ⟨G, hG⟩ : ∃ G, Hid (e.g = G) := ⟨_, rfl⟩
      rw [hG.out] at c2 hst
      have hst : Hid (liveL (es.take (i + 1)) = liveL (es.take i) ++ (if G = true then [] else [e])) := hst
      have c0 := cell_later hb c0
      have c1 := cell_later hb c1
      have c2 := cell_later hb c2
      have hkI : (i : Int) < la := by omega
      have hRE : RE w [] [.slice ko kl kc, .slice vo vl vc, .bool G] e := ⟨_, _, by rw [hG.out], ⟨ko, kl, kc, rfl, tk, fun _ _ _ => by simp⟩, ⟨vo, vl, vc, rfl, tv, fun _ _ _ => by simp⟩⟩
      clear hx hc tk tv
      generalize liveL (es.take i) = acc at *
      cases G with
      | true =>
        go_wp2
        go_roundw
        case rel => exact ⟨i + 1, m, bo, cb, by omega, by go_num, rfl, by have := hst.out; rw [if_pos rfl, List.append_nil] at this; show _ = _; rw [this]; exact hm.out, by have := hst.out; rw [if_pos rfl, List.append_nil] at this; rw [this]; exact hls, hb⟩
        case measure => simp [intOf]; omega
      | false =>
        have bA : Below wr.heap.size wr (wr.alloc (.cells #[.slice ko kl kc, .slice vo vl vc, .bool false] 26)) := (Below.refl _ _).alloc (Nat.le_refl _) _
        have hb1 := below_tr2 hb bA
        have HL := hls.later (RW.st w) bA
        have HR : RW w (wr.alloc (.cells #[.slice ko kl kc, .slice vo vl vc, .bool false] 26)) (own (.slice bo m cb)) [.slice ko kl kc, .slice vo vl vc, .bool false] e := hRE
        have hC := cells3_at wr wr.heap.size rfl (.slice ko kl kc) (.slice vo vl vc) (.bool false)
        have hacc : acc.length ≤ 1000000000 := by omega
        have hW4 := hb1.size
        go_wp2_with (with_reducible show wpList _ _ _ (⟨some 23, _, _, _, _, _⟩ :: _) _ _; refine wpList_one (RW.st w) (RW.pl w) Try.underlying23 Try.info26 rfl (by omega) (by omega) rfl _ _ rfl w.heap.size (.slice bo m cb) acc rfl HL ⟨wr.heap.size, 0, none⟩ 1 [.slice ko kl kc, .slice vo vl vc, .bool false] _ rfl hC HR hacc hW4 ?_; intro ao5 n5 c5 w5 hn5 hls5 hof5 hsub5; have hn6 := hid_eqL hn5; clear hn5)
        go_roundw
        case rel => exact ⟨i + 1, n5, ao5, c5, by omega, by go_num, rfl, by have := hst.out; rw [if_neg (by simp)] at this; show _ = _; rw [this, List.length_append]; exact hn6.out, by have := hst.out; rw [if_neg (by simp)] at this; rw [this]; exact hls5, hb1.trans (hof5.below (fun q hq => (hls.lt q hq).2) hW4)⟩
        case measure => simp [intOf]; omega
    · have him : i = la := by omega
      have hkI : ¬ (i : Int) < la := by omega
      have htk : es.take i = es := List.take_of_length_le (by omega)
      rw [htk] at hls
      obtain ⟨ao9, cap9, e9, hl9⟩ := hls.read (RW.st w) (RW.pl w)
      simp only [Value.slice.injEq] at e9
      have hl9 := hl9.rw hb
      obtain ⟨rfl, rfl, rfl⟩ := e9
      clear hls hm
      go_wp2
      go_ret
      exact ⟨bo, _, cb, rfl, hl9, hb⟩
end Go.Proofs.Ytjbppedphadenaa
