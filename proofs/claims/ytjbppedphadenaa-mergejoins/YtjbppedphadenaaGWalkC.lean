/- container/heap over the heads: Push, Pop, Fix. -/
import Derived.Test.YtjbppedphadenaaGWalkB
namespace Go.Proofs.Ytjbppedphadenaa
set_option maxRecDepth 100000
open Go.RowKit Go.Sort

theorem UpI.of_heap {hs : List Nd} (h : HeapOn hs hs.length) : UpI hs hs.length 0 := ⟨fun p c x y hp hc _ => h p c x y hp hc, fun g c x y hg => by unfold Child at hg; omega⟩
set_option maxHeartbeats 4000000 in
theorem hp_fix {w0 w : World} {S : List Nat} {hb : Nat} {v : Value} {hs : List Nd} (h : Hs w0 w S hb v hs) (h0 : 0 < hs.length) (hd : DownI hs hs.length 0) (sm : hs.length ≤ 1000000) :
    Calls Try.prog 29 #[.iface 51 (.pointer (some ⟨hb, 0, none⟩)), .int .i64 0] w fun e w' => e = .returned (.tuple #[]) ∧ ∃ hs', Hs w0 w' S hb v hs' ∧ HeapOn hs' hs'.length ∧ hs'.Perm hs ∧ Off S w w' := by
  have nl := nil_len ⟨hb, 0, none⟩
  have ml := method_len hb v w h.cell0.1
  have hdn := down_any h hs.length (Nat.le_refl _) hd sm
  obtain ⟨ao, cap, rfl⟩ := h.form
  have hln := hlen_any ao hs.length cap w
  go_enter Try.func29, Try.ntmps29
  go_wp2_with fail
  with_reducible refine hln.mono ?_
  rintro e V ⟨rfl, rfl⟩
  go_wp2_with fail
  with_reducible refine hdn.mono ?_
  clear hdn hln
  rintro e V2 ⟨b, rfl, hs', H, hH, P, O, T⟩
  have hlen := P.length_eq
  have hH' : HeapOn hs' hs'.length := by rw [hlen]; exact hH
  cases b with
  | true =>
    go_wp2
    go_end0
    exact ⟨rfl, hs', H, hH', P, O⟩
  | false =>
    have hup := up_any H 0 (by omega) (UpI.of_heap hH') (by omega)
    rw [show ((0 : Nat) : Int) = 0 from rfl] at hup
    go_wp2_with fail
    with_reducible refine hup.mono ?_
    clear hup
    rintro e V3 ⟨rfl, hs2, H2, hH2, P2, O2⟩
    go_wp2
    go_end0
    exact ⟨rfl, hs2, H2, hH2, P2.trans P, O.trans O2⟩
set_option maxHeartbeats 4000000 in
theorem hp_push {w0 w : World} {S : List Nat} {hb : Nat} {v : Value} {hs : List Nd} (h : Hs w0 w S hb v hs) (hh : HeapOn hs hs.length) (n : Nd) (hn : NdIn w n) (hk : NdOk w0 n) (fb : ∀ m ∈ hs, m.b ≠ n.b) (fr : ∀ m ∈ hs, m.r ≠ n.r) (lb : w0.heap.size ≤ n.b) (lr : w0.heap.size ≤ n.r) (sm : hs.length ≤ 100000) :
    Calls Try.prog 27 #[.iface 51 (.pointer (some ⟨hb, 0, none⟩)), .iface 54 (ptr n)] w fun e w' => e = .returned (.tuple #[]) ∧ ∃ v' S' hs', Hs w0 w' S' hb v' hs' ∧ HeapOn hs' hs'.length ∧ hs'.Perm (hs ++ [n]) := by
  have nl := nil_len ⟨hb, 0, none⟩
  have np := nil_push ⟨hb, 0, none⟩
  have mp := method_push ⟨hb, 0, none⟩
  have hpu := hpush_any h n hn hk fb fr lb lr (by omega)
  unfold ptr
  generalize n.b = nb at hpu ⊢
  go_enter Try.func27, Try.ntmps27
  go_wp2_with fail
  with_reducible refine hpu.mono ?_
  clear hpu
  rintro e V ⟨rfl, v', S', H, O, _⟩
  have ml := method_len hb v' V H.cell0.1
  have hlen : (hs ++ [n]).length = hs.length + 1 := by simp
  obtain ⟨ao, cap, hv'⟩ := H.form
  rw [hlen] at hv'
  subst hv'
  have hln := hlen_any ao (hs.length + 1) cap V
  have hup := up_any H hs.length (by omega) (by rw [hlen]; exact hh.more n) (by omega)
  go_wp2_with fail
  with_reducible refine hln.mono ?_
  clear hln
  rintro e V2 ⟨rfl, rfl⟩
  go_wp2_with fail
  with_reducible refine hup.mono ?_
  clear hup
  rintro e V3 ⟨rfl, hs2, H2, hH2, P2, O2⟩
  go_wp2
  go_end0
  exact ⟨rfl, _, S', hs2, H2, hH2, P2⟩
theorem take_at {A : Type} {l : List A} {n : Nat} {t : A} (hl : l.length = n + 1) (ht : l[n]? = some t) : l = l.take n ++ [t] := by
  obtain ⟨h, rfl⟩ := List.getElem?_eq_some_iff.1 ht
  have := List.take_succ_eq_append_getElem h
  rw [← this, List.take_of_length_le (by omega)]
set_option maxHeartbeats 4000000 in
theorem hp_pop {w0 w : World} {S : List Nat} {hb : Nat} {v : Value} {t : Nd} {tl : List Nd} (h : Hs w0 w S hb v (t :: tl)) (hh : HeapOn (t :: tl) (t :: tl).length) (sm : tl.length ≤ 100000) :
    Calls Try.prog 28 #[.iface 51 (.pointer (some ⟨hb, 0, none⟩))] w fun e w' => e = .returned (.iface 54 (ptr t)) ∧ ∃ v' hs', Hs w0 w' S hb v' hs' ∧ HeapOn hs' hs'.length ∧ hs'.Perm tl ∧ Off S w w' := by
  have nl := nil_len ⟨hb, 0, none⟩
  have ns := nil_swap ⟨hb, 0, none⟩
  have np := nil_pop ⟨hb, 0, none⟩
  have mp := method_pop ⟨hb, 0, none⟩
  have ml := method_len hb v w h.cell0.1
  have ms := method_swap hb v w h.cell0.1
  have hlen : (t :: tl).length = tl.length + 1 := by simp
  have hx : (t :: tl)[0]? = some t := rfl
  have hy : (t :: tl)[tl.length]? = some ((t :: tl)[tl.length]'(by simp)) := by simp
  generalize (t :: tl)[tl.length]'(by simp) = y at hy
  have hsw := hswap_any h 0 tl.length t y hx hy (by omega)
  rw [show ((0 : Nat) : Int) = 0 from rfl] at hsw
  have hD := hh.last (n := tl.length) (by omega) hx hy
  have hln : ∃ ao cap, v = .slice ao (tl.length + 1) cap := h.form
  obtain ⟨ao, cap, rfl⟩ := hln
  have hln := hlen_any ao (tl.length + 1) cap w
  have hL : Hid (∀ k, (swapL (t :: tl) 0 tl.length t y)[k]? = if k = tl.length then some t else if k = 0 then some y else (t :: tl)[k]?) := swapL_get hx hy
  have hP0 : Hid ((swapL (t :: tl) 0 tl.length t y).Perm (t :: tl)) := swapL_perm hx hy
  have hl0 := swapL_len (t :: tl) 0 tl.length t y
  generalize swapL (t :: tl) 0 tl.length t y = h1 at *
  clear hx hy
  go_enter Try.func28, Try.ntmps28
  go_wp2_with fail
  with_reducible refine hln.mono ?_
  clear hln
  rintro e V ⟨rfl, rfl⟩
  go_wp2_with fail
  with_reducible refine hsw.mono ?_
  clear hsw
  rintro e V2 ⟨rfl, H2, O2⟩
  have hdn := down_any H2 tl.length (by omega) hD (by omega)
  go_wp2_with fail
  with_reducible refine hdn.mono ?_
  clear hdn
  rintro e V3 ⟨b, rfl, h2, H3, hH3, P3, O3, T3⟩
  have hl2 := P3.length_eq
  have ht2 : h2[tl.length]? = some t := by rw [T3.out _ (Nat.le_refl _), hL.out, if_pos rfl]
  have e2 := take_at (by omega) ht2
  have hlt : (h2.take tl.length).length = tl.length := by simp; omega
  generalize h2.take tl.length = l at e2 hlt
  subst e2
  have hpp := hpop_any H3 (by omega)
  have hPl : l.Perm tl := by
    have := (P3.trans hP0.out)
    have := (List.perm_append_comm (l₁ := [t]) (l₂ := l)).trans this
    exact this.cons_inv
  have hHl : HeapOn l l.length := fun i j x y hc hj hi hjj => hH3 i j x y hc (by omega) (by rw [List.getElem?_append_left (by have := child_lt hc; omega)]; exact hi) (by rw [List.getElem?_append_left hj]; exact hjj)
  clear ht2 T3 hl2
  go_wp2_with fail
  with_reducible refine hpp.mono ?_
  clear hpp
  rintro e V4 ⟨rfl, v4, H4, O4⟩
  go_wp2
  go_ret
  exact ⟨rfl, v4, l, H4, hHl, hPl, (O2.trans O3).trans O4⟩
end Go.Proofs.Ytjbppedphadenaa
