/- The walks of mem.gather, All, Bytes: entries told in memory of their own. -/
import Derived.Test.YtjajpnlhdbcnkaaMOwn
namespace Go.Proofs.Ytjajpnlhdbcnkaa
set_option maxRecDepth 100000
open Go.RowKit Go.Sort

/-- The Key's bytes are new, from B on, and may be written. -/
def Mu (B : Nat) (w : World) (u : List Value) : Prop := ∀ ko kl kc, u[0]? = some (.slice ko kl kc) → ∀ ad, ko = some ad → 0 < kl → B ≤ ad.block ∧ ∀ j, j < kl → (w.cell? (ad.add j)).isSome = true ∧ w.frozen? (ad.add j) = false
/-- The Value's bytes are new. -/
def Fv (B : Nat) (u : List Value) : Prop := ∀ vo vl vc, u[1]? = some (.slice vo vl vc) → ∀ ad, vo = some ad → 0 < vl → B ≤ ad.block
def RN (B : Nat) : Reads Ent := fun w S u e => RE w S u e ∧ Mu B w u ∧ Fv B u
theorem Mu.off {S : List Nat} {B : Nat} {w w' : World} {u : List Value} (h : Mu B w u) (ho : Off S w w') (hs : ∀ ko kl kc, u[0]? = some (.slice ko kl kc) → ∀ ad, ko = some ad → 0 < kl → ad.block ∉ S) : Mu B w' u := fun ko kl kc hu ad ha h0 => by
  obtain ⟨h1, h2⟩ := h ko kl kc hu ad ha h0
  have hn := hs ko kl kc hu ad ha h0
  refine ⟨h1, fun j hj => ?_⟩
  obtain ⟨h3, h4⟩ := h2 j hj
  obtain ⟨v, hv⟩ := Option.isSome_iff_exists.1 h3
  refine ⟨by rw [ho.cell hv (by rw [add_block]; exact hn)]; rfl, ?_⟩
  rw [World.frozen?_of_block (w := w) (ho.block _ (World.block_lt_of_cell? _ _ hv) (by rw [add_block]; exact hn))]; exact h4
theorem RN.st (B : Nat) : Stable (RN B) := by
  rintro w w' S S' u e ⟨h1, h2, h3⟩ ho hs
  refine ⟨RE.stable _ _ _ _ _ _ h1 ho hs, h2.off ho (fun ko kl kc hu ad ha h0 => ?_), h3⟩
  obtain ⟨k, v, rfl, ⟨ao, l, c, rfl, _, hn⟩, _⟩ := h1
  simp only [List.getElem?_cons_zero, Option.some.injEq, Value.slice.injEq] at hu
  obtain ⟨rfl, rfl, rfl⟩ := hu
  exact hn ad ha h0
theorem RN.pl (B : Nat) : Plain 3 (RN B) := fun w S u e h => RE.plain w S u e h.1
theorem Ls.weak {B C _n : Nat} {w : World} {v : Value} {es : List Ent} (h : Ls 27 3 (RN B) w C v es) : Ls 27 3 RE w C v es := by
  obtain ⟨us, h1, h2, h3⟩ := h
  exact ⟨us, h1, h2, fun i u e a b => (h3 i u e a b).1⟩

/-- It lies in none of the blocks ahead of it. -/
theorem Ls.lvn {B n : Nat} {w : World} {ao : Option Addr} {cap : Nat} {es : List Ent} (h : Ls 27 3 (RN B) w B (.slice ao n cap) es) (X : List Nat) (hX : ∀ k ∈ X, k < B) : Lv 3 RE X w ao n cap es := by
  obtain ⟨ao9, cap9, e9, hx9⟩ := h.read (RN.st B) (RN.pl B)
  simp only [Value.slice.injEq] at e9
  obtain ⟨rfl, e10, rfl⟩ := e9
  rw [← e10] at hx9
  refine ⟨⟨hx9.len_eq, hx9.le, hx9.top, hx9.bare, fun ad ha j e he => ?_⟩, fun ad ha h0 hk => ?_⟩
  · obtain ⟨u, h1, ⟨k, v, rfl, ⟨ko, kl, kc, rfl, tk, _⟩, ⟨vo, vl, vc, rfl, tv, _⟩⟩, h3, h4⟩ := hx9.cell ad ha j e he
    exact ⟨_, h1, _, _, rfl, tk.at _ (fun ad ha h0 hk => by have := (h3 ko kl kc rfl ad ha h0).1; have := hX _ (by simpa using hk); omega), tv.at _ (fun ad ha h0 hk => by have := h4 vo vl vc rfl ad ha h0; have := hX _ (by simpa using hk); omega)⟩
  · have := h.lt ad.block (by subst ha; simp [own, Value.ownBlock])
    have := hX _ hk
    omega

/-- Pointers that are read. -/
structure Pv (w : World) (ao : Option Addr) (n cap : Nat) (es : List Ent) : Prop where
  len : es.length = n
  at_ : 0 < n → ∃ g o, ao = some ⟨g, o, none⟩ ∧ ∀ j e, es[j]? = some e → ∃ pb ko kl kc vo vl vc, w.cell? ⟨g, o + j, none⟩ = some (.pointer (some ⟨pb, 0, none⟩)) ∧ Box w pb (.slice ko kl kc) (.slice vo vl vc) e.g ∧ Tx w ko kl kc e.k ∧ Tx w vo vl vc e.v
theorem Mv.pv {w : World} {mb : Nat} {ao : Option Addr} {n cap : Nat} {es : List Ent} (h : Mv w mb ao n cap es) : Pv w ao n cap es :=
  ⟨h.len, fun h0 => by
    obtain ⟨g, rfl, hc⟩ := h.at_ h0
    exact ⟨g, 0, rfl, fun j e he => by simpa using hc j e he⟩⟩
theorem norm_v {e : Ent} (h : norm e = e) : (if e.g = true then [] else e.v) = e.v := by
  split
  · rename_i hg
    have : (norm e).v = [] := by simp [norm, hg]
    rw [h] at this; exact this.symm
  · rfl
theorem Nw.mu {B : Nat} {w : World} {ko : Option Addr} {kl kc : Nat} {xs : List Int} {r : List Value} (h : Nw B w ko kl kc xs) : Mu B w (.slice ko kl kc :: r) := fun ko' kl' kc' hu ad ha h0 => by
  simp only [List.getElem?_cons_zero, Option.some.injEq, Value.slice.injEq] at hu
  obtain ⟨rfl, rfl, rfl⟩ := hu
  refine ⟨h.far ad ha, fun j hj => ?_⟩
  have h1 := h.tx.cell ad ha j hj
  refine ⟨by rw [h1]; rfl, ?_⟩
  rcases h.own.2 with ⟨h', _⟩ | ⟨g, c, cur, h', hb, hg, hn, hm, hs, ht⟩
  · simp only [Value.slice.injEq] at h'; rw [h'.1] at ha; cases ha
  · simp only [Value.slice.injEq, true_and] at h'
    rw [h'.1] at ha
    cases ha
    rw [Addr.add_lit]
    exact frozen_of_row w g _ _ 5 hg
theorem re_nw {wr U : World} {v : Value} {B : Nat} {es : List Ent} (hls : Ls 27 3 (RN B) wr B v es) {W : World} {ko : Option Addr} {kl kc : Nat} {vo : Option Addr} {vl vc : Nat} {e : Ent} {G : Bool} (hG : e.g = G) (hBw : B ≤ wr.heap.size) (tk : Nw wr.heap.size W ko kl kc e.k) (tv : Nw wr.heap.size W vo vl vc e.v) (hU : Below W.heap.size W U) : RN B U (own v) [.slice ko kl kc, .slice vo vl vc, .bool G] e :=
  ⟨⟨_, _, by rw [hG], (tk.tx.later hU).at _ (fun ad ha _ hk => by have := (hls.lt _ hk).1; have := tk.far ad ha; omega), (tv.tx.later hU).at _ (fun ad ha _ hk => by have := (hls.lt _ hk).1; have := tv.far ad ha; omega)⟩, ((tk.later hU).mono hBw).mu, fun vo' vl' vc' hu ad ha h0 => by
    simp only [List.getElem?_cons_succ, List.getElem?_cons_zero, Option.some.injEq, Value.slice.injEq] at hu
    obtain ⟨rfl, rfl, rfl⟩ := hu
    exact Nat.le_trans hBw (tv.far ad ha)⟩

theorem hid_len {acc : List Ent} {a i : Nat} (h : a = acc.length + 1) (hl : Hid (acc.length = i)) : Hid (a = i + 1) := by
  show a = i + 1
  rw [h, hl.out]
set_option maxHeartbeats 4000000 in
theorem gather_any (ao : Option Addr) (n cap : Nat) (es : List Ent) (w : World) (h : Pv w ao n cap es) (sm : n ≤ 1000000) (nm : ∀ e ∈ es, norm e = e) (sk : ∀ e ∈ es, e.k.length ≤ 1000000000 ∧ e.v.length ≤ 1000000000) :
    Calls Try.prog 27 #[.slice ao n cap] w fun e w' => ∃ bo cb, e = .returned (.slice bo n cb) ∧ Ls 27 3 (RN w.heap.size) w' w.heap.size (.slice bo n cb) es ∧ Below w.heap.size w w' := by
  have hl := h.len
  go_enter Try.func27, Try.ntmps27
  go_wp2
  go_loopw [3, 5, 8] (fun s3 _ s8 wr => ∃ (i m : Nat) (bo : Option Addr) (cb : Nat), i ≤ n ∧ s8 = .int .i64 i ∧ s3 = .slice bo m cb ∧ Hid (m = i) ∧ Ls 27 3 (RN w.heap.size) wr w.heap.size (.slice bo m cb) (es.take i) ∧ Below w.heap.size w wr) (fun _ _ s8 _ => n - (intOf s8).toNat)
  case atStart => exact ⟨0, 0, none, 0, by omega, rfl, rfl, rfl, Ls.nil _ _ _ _ _, Below.refl _ _⟩
  case round =>
    obtain ⟨i, m, bo, cb, hi, rfl, rfl, hm, hls, hb⟩ := hrel
    by_cases hi2 : i < n
    · obtain ⟨g, o, rfl, hc⟩ := h.at_ (by omega)
      have hx : es[i]? = some (es[i]'(by omega)) := by simp
      obtain ⟨pb, ko, kl, kc, vo, vl, vc, p0, ⟨q0, q1, q2⟩, tk, tv⟩ := hc _ _ hx
      have hn1 := nm _ (List.getElem_mem (l := es) (n := i) (by omega))
      have hk1 := sk _ (List.getElem_mem (l := es) (n := i) (by omega))
      have hst := take_snoc es i _ hx
      generalize es[i]'(by omega) = e at hx q2 tk tv hn1 hk1 hst
      have hst : Hid (es.take (i + 1) = es.take i ++ [e]) := hst
      have hle : Hid ((es.take i).length = i) := by show _ = _; rw [List.length_take]; omega
      have hvn := norm_v hn1
      obtain ⟨G, hG⟩ : ∃ G, Hid (e.g = G) := ⟨_, rfl⟩
      rw [hG.out] at q2 hvn
      rw [tk.len_eq, tv.len_eq] at hk1
      have ho := own_any ko kl kc vo vl vc G e.k e.v wr (tk.later hb) (tv.later hb) hk1.1 hk1.2
      rw [hvn] at ho
      have p0 := cell_later hb p0
      have q0 := cell_later hb q0
      have q1 := cell_later hb q1
      have q2 := cell_later hb q2
      clear hx hc hn1 hvn
      generalize es.take i = acc at hls hst hle
      go_wp2_with fail
      with_reducible refine ho.mono ?_
      clear ho
      rintro r V ⟨ko', kc', vo', vl', vc', rfl, nk, nv, bV⟩
      have hV2 := bV.trans (((Below.refl V.heap.size V).alloc (Nat.le_refl _) (.cells #[.slice ko' kl kc', .slice vo' vl' vc', .bool G] 27)).mono bV.size)
      have HL := hls.later (RN.st _) hV2
      have HR := re_nw hls hG.out hb.size nk nv ((Below.refl V.heap.size V).alloc (Nat.le_refl _) (.cells #[.slice ko' kl kc', .slice vo' vl' vc', .bool G] 27))
      have hC := cells3_at V V.heap.size rfl (.slice ko' kl kc') (.slice vo' vl' vc') (.bool G)
      have hwB := Nat.le_trans hb.size hV2.size
      have hacc : acc.length ≤ 1000000000 := by rw [hle.out]; omega
      go_wp2_with (with_reducible show wpList _ _ _ (⟨some 18, _, _, _, _, _⟩ :: _) _ _; refine wpList_one (RN.st _) (RN.pl _) Try.underlying24 Try.info27 rfl (by omega) (by omega) rfl _ _ rfl w.heap.size (.slice bo m cb) acc rfl HL ⟨V.heap.size, 0, none⟩ 1 [.slice ko' kl kc', .slice vo' vl' vc', .bool G] _ rfl hC HR hacc hwB ?_; intro ao5 n5 c5 w5 hn5 hls5 hof5 hsub5; have hn6 := hid_len hn5 hle; clear hn5)
      go_roundw
      case rel => exact ⟨i + 1, n5, ao5, c5, by omega, by go_num, rfl, hn6, by rw [hst.out]; exact hls5, (hb.trans (hV2.mono hb.size)).trans (hof5.below (fun q hq => (hls.lt q hq).2) hwB)⟩
      case measure => simp [intOf]; omega
    · have him : i = n := by omega
      have hiI : ¬ (i : Int) < n := by omega
      have htk : es.take i = es := List.take_of_length_le (by omega)
      rw [htk] at hls
      go_wp2
      go_ret
      have hmi := hm.out
      obtain rfl : m = n := by omega
      exact ⟨bo, cb, rfl, hls, hb⟩
theorem sizes_of {n : Nat} {es : List Ent} (h : Held n es) : ∀ e ∈ es, e.k.length ≤ 1000000000 ∧ e.v.length ≤ 1000000000 := fun e he => by
  have h1 := (fitsE_iff e).1 (h.fits e he)
  have h2 := norm_v (h.nm e he)
  refine ⟨by omega, ?_⟩
  rcases h1.2.2 with hg | hv
  · rw [if_pos hg] at h2; rw [← h2]; simp
  · omega

theorem mall_any (mb : Nat) (S : List Nat) (es : List Ent) (n : Nat) (w : World) (h : Mm w mb S es) (hh : Held n es) (sm : n ≤ 1000000) :
    Calls Try.prog 15 #[.pointer (some ⟨mb, 0, none⟩)] w fun e w' => ∃ bo cb, e = .returned (.slice bo es.length cb) ∧ Ls 27 3 (RN w.heap.size) w' w.heap.size (.slice bo es.length cb) es ∧ Below w.heap.size w w' := by
  obtain ⟨ao, n', cap, hv⟩ := h.view
  have c0 := hv.c0
  have hl := hv.len
  subst hl
  have hg := gather_any ao _ cap es w hv.pv (by have := hh.len; omega) hh.nm (sizes_of hh)
  go_enter Try.func15, Try.ntmps15
  go_wp2_with fail
  with_reducible refine hg.mono ?_
  rintro e V ⟨bo, cb, rfl, hls, b1⟩
  go_wp2
  go_ret
  exact ⟨bo, cb, rfl, hls, b1⟩
end Go.Proofs.Ytjajpnlhdbcnkaa
