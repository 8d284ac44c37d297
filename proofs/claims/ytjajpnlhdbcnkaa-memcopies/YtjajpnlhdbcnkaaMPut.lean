/- The walk of mem.Put. -/
import Derived.Test.YtjajpnlhdbcnkaaMAsk
namespace Go.Proofs.Ytjajpnlhdbcnkaa
set_option maxRecDepth 100000
open Go.RowKit Go.Sort

theorem ins_pairs {A B : Type} (us : List A) (es : List B) (hl : us.length = es.length) (p : Nat) (hp : p ≤ us.length) (a : A) (b : B) : ∀ (i : Nat) (u : A) (x : B), (us.take p ++ [a] ++ us.drop p)[i]? = some u → (es.take p ++ [b] ++ es.drop p)[i]? = some x → (u = a ∧ x = b) ∨ ∃ j : Nat, us[j]? = some u ∧ es[j]? = some x := by
  intro i u x hu hx
  have t1 : (us.take p).length = p := by rw [List.length_take]; omega
  have t2 : (es.take p).length = p := by rw [List.length_take]; omega
  rw [List.append_assoc] at hu hx
  by_cases h1 : i < p
  · rw [List.getElem?_append_left (by omega), List.getElem?_take, if_pos h1] at hu hx
    exact .inr ⟨i, hu, hx⟩
  · rw [List.getElem?_append_right (by omega)] at hu hx
    rw [t1] at hu
    rw [t2] at hx
    by_cases h2 : i = p
    · subst h2
      simp at hu hx
      exact .inl ⟨hu.symm, hx.symm⟩
    · obtain ⟨d, rfl⟩ : ∃ d, i = p + 1 + d := ⟨i - p - 1, by omega⟩
      rw [show p + 1 + d - p = d + 1 by omega] at hu hx
      simp at hu hx
      exact .inr ⟨p + d, hu, hx⟩
theorem set_pairs {A B : Type} (us : List A) (es : List B) (p : Nat) (a : A) (b : B) : ∀ (i : Nat) (u : A) (x : B), (us.set p a)[i]? = some u → (es.set p b)[i]? = some x → (u = a ∧ x = b) ∨ ∃ j : Nat, us[j]? = some u ∧ es[j]? = some x := by
  intro i u x hu hx
  by_cases h : p = i
  · subst h
    have h1 := (List.getElem?_eq_some_iff.1 hu).1
    have h2 := (List.getElem?_eq_some_iff.1 hx).1
    rw [List.length_set] at h1 h2
    rw [List.getElem?_set_self h1] at hu
    rw [List.getElem?_set_self h2] at hx
    exact .inl ⟨(Option.some.inj hu).symm, (Option.some.inj hx).symm⟩
  · rw [List.getElem?_set_ne h] at hu hx
    exact .inr ⟨i, hu, hx⟩

theorem ins_any (v : Value) (n i : Nat) (us : List Value) (vb : Nat) (w : World) (hown : w.ownsRow 0 51 1 v n us) (hi : i ≤ n) (hx1 : ∀ u ∈ us, u.oneCell' = true) (hvb : Blk w vb [.pointer none]) (hne : vb ∉ own v) (hn : n ≤ 1000000) :
    Calls Try.prog 22 #[v, .int .i64 i, .slice (some ⟨vb, 0, none⟩) 1 1] w fun e w' => ∃ v', e = .returned v' ∧ w'.ownsRow 0 51 1 v' (n + 1) (us.take i ++ [.pointer none] ++ us.drop i) ∧ Off (own v) w w' ∧ (∀ k ∈ own v', k ∈ own v ∨ w.heap.size ≤ k) := by
  have hul : us.length = n := by simpa using hown.1
  have h1 : ∀ u ∈ [Value.pointer none], u.oneCell' = true := by simp [Value.oneCell']
  by_cases he : i = n
  · subst he
    refine (insert_end v i us [.pointer none] vb w hown rfl h1 hvb hn).mono ?_
    rintro e w' ⟨v', rfl, ho, h2, h3⟩
    refine ⟨v', rfl, ?_, h2, h3⟩
    rw [List.take_of_length_le (by omega), List.drop_eq_nil_of_le (by omega), List.append_nil]; exact ho
  · have hlt : i < n := by omega
    rcases hown.2 with ⟨h, h'⟩ | ⟨g, cap, cur, rfl, hb, hg, hcn, hcm, hcs, hct⟩
    · omega
    · by_cases hroom : n + 1 ≤ cap
      · refine (insert_shift g n cap i us [.pointer none] vb w hown hlt hroom hx1 rfl h1 hvb (fun e => hne (by subst e; simp [own, Value.ownBlock])) hn).mono ?_
        rintro e w' ⟨v', rfl, ho, h2, h3⟩
        exact ⟨v', rfl, ho, h2, h3⟩
      · obtain rfl : cap = n := by omega
        refine (insert_grow g cap i us [.pointer none] vb w hown hlt hx1 rfl h1 hvb hn).mono ?_
        rintro e w' ⟨v', rfl, ho, h2, h3⟩
        exact ⟨v', rfl, ho, Off.of_below h2, fun k hk => .inr (h3 k hk)⟩

theorem Mr.put {w : World} {mb g n cap k : Nat} {us : List Value} (h : Mr w mb (some ⟨g, 0, none⟩) n cap us) (hk : k < n) (u : Value) : Mr (w.setCell ⟨g, k, none⟩ u) mb (some ⟨g, 0, none⟩) n cap (us.set k u) := by
  have hgm : g ≠ mb := fun e => h.out (by subst e; simp [own, Value.ownBlock])
  refine ⟨by rw [World.cell?_setCell_other _ _ _ _ (by simp <;> omega)]; exact h.c0, by rw [World.frozen?_setCell]; exact h.z, h.out, ?_⟩
  obtain ⟨hl, h4⟩ := h.row
  rcases h4 with ⟨h', hn⟩ | ⟨g', c, cur, h', hb, hg, hn, hm, hs, ht⟩
  · omega
  · simp only [Value.slice.injEq, Option.some.injEq, Addr.mk.injEq, and_true, true_and] at h'
    obtain ⟨rfl, rfl⟩ := h'
    refine ⟨by simpa using hl, .inr ⟨g, cap, cur.setIfInBounds k u, rfl, hb, ?_, hn, hm, by simpa using hs, ?_⟩⟩
    · exact heap_setCell_same w g k _ 51 _ hg
    · rw [Array.toList_setIfInBounds, ← ht, List.take_set]
theorem Mr.mono_len {w : World} {mb : Nat} {ao : Option Addr} {n cap : Nat} {us : List Value} (h : Mr w mb ao n cap us) : n ≤ cap ∧ cap ≤ maxLen := by
  rcases h.row.2 with ⟨h, h'⟩ | ⟨g, c, cur, h, _, _, h3, h4, _⟩
  · simp at h; subst h'; simp [h]
  · simp at h; obtain ⟨_, rfl⟩ := h; exact ⟨h3, h4⟩
/-- One more entry, in its place. -/
theorem mm_new {w W : World} {mb : Nat} {S S' : List Nat} {ao' : Option Addr} {n' cap' : Nat} {us us' : List Value} {es es' : List Ent} {pb : Nat} {e : Ent}
    (hp : ∀ (i : Nat) (u : Value) (e : Ent), us[i]? = some u → es[i]? = some e → RPp w S [u] e) (hS' : S' = mb :: own (.slice ao' n' cap')) (hm : Mr W mb ao' n' cap' us') (hl : es'.length = n') (ho : Off S w W) (hs : ∀ k ∈ S', k ∈ S ∨ w.heap.size ≤ k)
    (hnew : RPp W S' [.pointer (some ⟨pb, 0, none⟩)] e) (hpr : ∀ (i : Nat) (u : Value) (x : Ent), us'[i]? = some u → es'[i]? = some x → (u = .pointer (some ⟨pb, 0, none⟩) ∧ x = e) ∨ ∃ j : Nat, us[j]? = some u ∧ es[j]? = some x) : Mm W mb S' es' :=
  ⟨ao', n', cap', us', hS', hm, hl, fun i u x hu hx => by
    rcases hpr i u x hu hx with ⟨rfl, rfl⟩ | ⟨j, h1, h2⟩
    · exact hnew
    · exact RPp.st _ _ _ _ _ _ (hp j u x h1 h2) ho hs⟩

theorem set_midA {A : Type} (us : List A) (p : Nat) {z : A} (a : A) (hp : p ≤ us.length) : (us.take p ++ [z] ++ us.drop p).set p a = us.take p ++ [a] ++ us.drop p := by
  have t : (us.take p).length = p := by rw [List.length_take]; omega
  rw [List.append_assoc, List.append_assoc, List.set_append_right _ _ (by omega), t, Nat.sub_self]; rfl
theorem mr_plain {w : World} {S : List Nat} {us : List Value} {es : List Ent} (hl : us.length = es.length) (hp : ∀ (i : Nat) (u : Value) (e : Ent), us[i]? = some u → es[i]? = some e → RPp w S [u] e) : ∀ u ∈ us, u.oneCell' = true := by
  intro u hu
  obtain ⟨i, hi, rfl⟩ := List.getElem_of_mem hu
  obtain ⟨pb, k, v, h, _⟩ := hp i us[i] (es[i]'(by omega)) (by simp) (by simp)
  simp only [List.cons.injEq, and_true] at h
  rw [h]; rfl
/-- The entry of a round is read: its cells lie in none of the Mem's blocks. -/
theorem Lv.headE {X : List Nat} {w : World} {ao : Option Addr} {len cap : Nat} {l : List Ent} (h : Lv 3 RE X w ao len cap l) (h0 : 0 < len) :
    ∃ b off, ao = some ⟨b, off, none⟩ ∧ b ∉ X ∧ ∀ j e, l[j]? = some e → ∃ ko kl kc vo vl vc, w.cell? ⟨b, off + j * 3, none⟩ = some (.slice ko kl kc) ∧ w.cell? ⟨b, off + j * 3 + 1, none⟩ = some (.slice vo vl vc) ∧ w.cell? ⟨b, off + j * 3 + 2, none⟩ = some (.bool e.g) ∧ Tx w ko kl kc e.k ∧ Tx w vo vl vc e.v ∧ (∀ ad, ko = some ad → 0 < kl → ad.block ∉ X) ∧ (∀ ad, vo = some ad → 0 < vl → ad.block ∉ X) := by
  obtain ⟨b, off, rfl, hc⟩ := h.lx.head (Rx.pl X RE.plain) (by omega) h0
  refine ⟨b, off, rfl, h.out _ rfl h0, fun j e he => ?_⟩
  obtain ⟨u, h1, k, v, rfl, ⟨ko, kl, kc, rfl, tk, nk⟩, ⟨vo, vl, vc, rfl, tv, nv⟩⟩ := hc j e he
  exact ⟨ko, kl, kc, vo, vl, vc, by simpa using h1 0 _ rfl, by simpa [Nat.add_assoc] using h1 1 _ rfl, by simpa [Nat.add_assoc] using h1 2 _ rfl, tk, tv, by simpa using nk, by simpa using nv⟩

theorem norm_val (e : Ent) {G : Bool} (h : e.g = G) : (norm e).v = if G = true then [] else e.v := by
  obtain ⟨k, v, g⟩ := e
  subst h
  cases g <;> rfl
/-- One behind the other, the second's blocks among the first's or new. -/
theorem Off.trans2 {S T : List Nat} {a b c : World} (h : Off S a b) (k : Off T b c) (ht : ∀ x ∈ T, x ∈ S ∨ a.heap.size ≤ x) : Off S a c :=
  ⟨k.os.trans h.os, k.tape.trans h.tape, k.output.trans h.output, Nat.le_trans h.size k.size, fun i hi hn => (k.block i (Nat.lt_of_lt_of_le hi h.size) (fun e => (ht i e).elim hn (fun h => by omega))).trans (h.block i hi hn)⟩
theorem Off.trans3 {S T : List Nat} {a b c : World} (h : Off S a b) (k : Off T b c) (ht : ∀ x ∈ T, x ∈ S ∨ a.heap.size ≤ x) : Off S a c := h.trans2 k ht

set_option maxHeartbeats 8000000 in
theorem mput_any (mb : Nat) (S : List Nat) (es : List Ent) (n : Nat) (lo : Option Addr) (ll lc : Nat) (l : List Ent) (w : World) (h : Mm w mb S es) (hh : Held n es) (hL : Lv 3 RE S w lo ll lc l) (hf : ∀ e ∈ l, fitsE e = true) (sm : n + ll ≤ 900000) (sk : ∀ e ∈ l, e.k.length ≤ 1000000 ∧ e.v.length ≤ 1000000) :
    Calls Try.prog 8 #[.pointer (some ⟨mb, 0, none⟩), .slice lo ll lc] w fun e w' => e = .returned (.tuple #[]) ∧ ∃ S', Mm w' mb S' (putL es l) ∧ Off S w w' ∧ (∀ k ∈ S', k ∈ S ∨ w.heap.size ≤ k) := by
  have hll := hL.lx.len_eq
  go_enter Try.func8, Try.ntmps8
  go_wp2
  go_loopw [5, 6, 7, 8, 11] (fun _ _ _ _ s11 wr => ∃ (i : Nat) (S' : List Nat), i ≤ ll ∧ s11 = .int .i64 i ∧ Mm wr mb S' (putL es (l.take i)) ∧ Off S w wr ∧ Hid (∀ k ∈ S', k ∈ S ∨ w.heap.size ≤ k)) (fun _ _ _ _ s11 _ => ll - (intOf s11).toNat)
  case atStart => exact ⟨0, S, by omega, rfl, h, .refl _ _, fun k hk => .inl hk⟩
  case round =>
    obtain ⟨i, S', hi, rfl, hM, hoff, hsub⟩ := hrel
    by_cases hi2 : i < ll
    · have hLr := hL.off RE.stable RE.plain (by omega) hoff hsub.out
      obtain ⟨b, off, rfl, hbX, hc⟩ := hLr.headE (by omega)
      have hx : l[i]? = some (l[i]'(by omega)) := by simp
      obtain ⟨ko, kl, kc, vo, vl, vc, c0, c1, c2, tk, tv, nk, nv⟩ := hc i _ hx
      have hst := putL_take es l i _ hx
      have hfe := hf _ (List.getElem_mem (l := l) (n := i) (by omega))
      have hsk := sk _ (List.getElem_mem (l := l) (n := i) (by omega))
      have hHe : Held (n + i) (putL es (l.take i)) := (hh.put (l.take i) (fun e he => hf e (List.mem_of_mem_take he))).mono (by rw [List.length_take]; omega)
      generalize l[i]'(by omega) = e at hx c2 tk tv hst hfe hsk
      obtain ⟨ei, hei⟩ : ∃ ei, Hid (putL es (l.take i) = ei) := ⟨_, rfl⟩
      rw [hei.out] at hM hHe hst
      have hst : Hid (putL es (l.take (i + 1)) = insR (norm e) ei) := hst
      obtain ⟨G, hG⟩ : ∃ G, Hid (e.g = G) := ⟨_, rfl⟩
      rw [hG.out] at c2
      have hkl := tk.len_eq
      have hvl := tv.len_eq
      rw [hkl, hvl] at hsk
      clear hx hc hkl hvl
      have bA : Below wr.heap.size wr (wr.alloc (.cells #[.slice ko kl kc, .slice vo vl vc, .bool G] 27)) := (Below.refl _ _).alloc (Nat.le_refl _) _
      have bx := Box.new wr (.slice ko kl kc) (.slice vo vl vc) G
      have hff := find_any mb S' ei ko kl kc e.k _ (hM.later bA) hHe.rises (tk.later bA) (by have := hHe.len; omega) (by omega) (keys_of hHe)
      obtain ⟨x0, x1, x2⟩ := bx
      go_wp2_with fail
      with_reducible refine hff.mono ?_
      clear hff
      rintro r V1 ⟨rfl, b1⟩
      have bV := bA.trans (b1.mono bA.size)
      obtain ⟨ao, n0, cap, us, hS', hMr, hel, hpM⟩ := hM
      have hul := hMr.len
      have mrV := hMr.off (S := []) (.of_below bV) (by simp) (by simp)
      have hpl := (place_of hHe.rises e.k).le
      have hlow : ∀ k ∈ S', k < wr.heap.size := by
        subst hS'
        intro k hk
        rcases List.mem_cons.1 hk with rfl | hk
        · exact hMr.lt
        · exact (own_lt hMr.row k hk).1
      have hi900 : ei.length ≤ 900000 := by have := hHe.len; omega
      cases hF : isAt ei e.k with
      | true =>
        have hins := ins_there hHe.rises (norm e) (by rw [norm_k]; exact hF)
        rw [norm_k] at hins
        obtain ⟨xx, hxx, _⟩ := isAt_true hF
        have hpn := (List.getElem?_eq_some_iff.1 hxx).1
        generalize plN ei e.k = p at hins hpl hpn hxx ⊢
        clear hxx hF
        obtain ⟨es1, hes1⟩ : ∃ es1, Hid (insR (norm e) ei = es1) := ⟨_, rfl⟩
        rw [hes1.out] at hins
        have hpairs : ∀ ptr : Value, ∀ (i : Nat) (u : Value) (x : Ent), (us.set p ptr)[i]? = some u → es1[i]? = some x → (u = ptr ∧ x = norm e) ∨ ∃ j : Nat, us[j]? = some u ∧ ei[j]? = some x := fun ptr => by rw [hins]; exact set_pairs us ei p ptr (norm e)
        have hlen1 : es1.length = n0 := by rw [hins, List.length_set]; exact hel
        have offX : Off S' wr V1 := .of_below bV
        have hsubX : ∀ k ∈ mb :: own (.slice ao n0 cap), k ∈ S' ∨ wr.heap.size ≤ k := fun k hk => .inl (by rw [hS']; exact hk)
        have tkX := tk.later bV
        have tvX := tv.later bV
        have y0 := cell_later b1 x0
        have y1 := cell_later b1 x1
        have y2 := cell_later b1 x2
        have mr1 := mrV
        have hp1 : p < n0 := by omega
        have hel9 : n0 ≤ 900000 := by omega
        clear hins hS' hMr mrV b1 bA bV hel hpl hpn hL hul
        revert offX hsubX tkX tvX y0 y1 y2 mr1
        generalize V1 = X
        intro offX hsubX tkX tvX y0 y1 y2 mr1
        generalize hn1 : n0 = n1 at *
        generalize hc1 : cap = cap1 at *
        generalize hu1 : us = us1 at *
        clear hn1 hc1 hu1
        obtain ⟨g, hgv, hgm, hul1, hnc1, hgc, hgz⟩ := mr1.head (by omega)
        subst hgv
        have d0 := mr1.c0
        have ho := own_any ko kl kc vo vl vc G e.k e.v X tkX tvX (by omega) (by omega)
        have hpI : (p : Int) < n1 := by omega
        go_wp2_with fail
        with_reducible refine ho.mono ?_
        clear ho
        rintro r U ⟨ko', kc', vo', vl', vc', rfl, nk', nv', bU⟩
        have bB : Below U.heap.size U (U.alloc (.cells #[.slice ko' kl kc', .slice vo' vl' vc', .bool G] 27)) := (Below.refl _ _).alloc (Nat.le_refl _) _
        have bUB := bU.trans (bB.mono bU.size)
        have mrU := mr1.off (S := []) (.of_below bUB) (by simp) (by simp)
        have bxU := Box.new U (.slice ko' kl kc') (.slice vo' vl' vc') G
        have tkB := nk'.tx.later bB
        have tvB := nv'.tx.later bB
        have hXB : ∀ k ∈ mb :: own (.slice (some ⟨g, 0, none⟩) n1 cap1), k < X.heap.size := fun k hk => (List.mem_cons.1 hk).elim (fun e => by rw [e]; exact mr1.lt) (fun h => (own_lt mr1.row k h).1)
        have hUX := bU.size
        have e0 := mrU.c0
        have e1 : ∃ u, (U.alloc (.cells #[.slice ko' kl kc', .slice vo' vl' vc', .bool G] 27)).cell? ⟨g, p, none⟩ = some u := ⟨_, cell_later bUB (hgc p (us1[p]'(by omega)) (by simp))⟩
        obtain ⟨u1, e1⟩ := e1
        have e2 : (U.alloc (.cells #[.slice ko' kl kc', .slice vo' vl' vc', .bool G] 27)).frozen? ⟨g, p, none⟩ = false := by
          obtain ⟨g', hgv', _, _, _, _, hz⟩ := mrU.head (by omega)
          simp only [Option.some.injEq, Addr.mk.injEq, and_true] at hgv'
          subst hgv'
          exact hz p
        have mrF := mrU.put (k := p) (by omega) (.pointer (some ⟨U.heap.size, 0, none⟩))
        have offF : Off (mb :: own (.slice (some ⟨g, 0, none⟩) n1 cap1)) X ((U.alloc (.cells #[.slice ko' kl kc', .slice vo' vl' vc', .bool G] 27)).setCell ⟨g, p, none⟩ (.pointer (some ⟨U.heap.size, 0, none⟩))) := (Off.of_below bUB).setCell (p := ⟨g, p, none⟩) (by simp [own, Value.ownBlock]) _
        have offW : Off S' wr ((U.alloc (.cells #[.slice ko' kl kc', .slice vo' vl' vc', .bool G] 27)).setCell ⟨g, p, none⟩ (.pointer (some ⟨U.heap.size, 0, none⟩))) := offX.trans2 offF hsubX
        have offS := (Off.refl (mb :: own (.slice (some ⟨g, 0, none⟩) n1 cap1)) (U.alloc (.cells #[.slice ko' kl kc', .slice vo' vl' vc', .bool G] 27))).setCell (p := ⟨g, p, none⟩) (by simp [own, Value.ownBlock]) (.pointer (some ⟨U.heap.size, 0, none⟩))
        have hrp : RPp ((U.alloc (.cells #[.slice ko' kl kc', .slice vo' vl' vc', .bool G] 27)).setCell ⟨g, p, none⟩ (.pointer (some ⟨U.heap.size, 0, none⟩))) (mb :: own (.slice (some ⟨g, 0, none⟩) n1 cap1)) [.pointer (some ⟨U.heap.size, 0, none⟩)] (norm e) := by
          refine ⟨_, _, _, rfl, fun hk => by have := hXB _ hk; omega, by rw [norm_g, hG.out]; exact bxU.off offS (fun hk => by have := hXB _ hk; omega), ?_, ?_⟩
          · rw [norm_k]
            exact (tkB.off offS (fun ad ha _ hk => by have := hXB _ hk; have := nk'.far ad ha; omega)).at _ (fun ad ha _ hk => by have := hXB _ hk; have := nk'.far ad ha; omega)
          · rw [norm_val e hG.out]
            exact (tvB.off offS (fun ad ha _ hk => by have := hXB _ hk; have := nv'.far ad ha; omega)).at _ (fun ad ha _ hk => by have := hXB _ hk; have := nv'.far ad ha; omega)
        have hMF := mm_new hpM rfl mrF hlen1 offW hsubX hrp (hpairs (.pointer (some ⟨U.heap.size, 0, none⟩)))
        have hMH : Hid (Mm ((U.alloc (.cells #[.slice ko' kl kc', .slice vo' vl' vc', .bool G] 27)).setCell ⟨g, p, none⟩ (.pointer (some ⟨U.heap.size, 0, none⟩))) mb (mb :: own (.slice (some ⟨g, 0, none⟩) n1 cap1)) es1) := hMF
        clear hMF hrp offS mrF mrU hXB tkB tvB bxU
        go_wp2
        go_roundw
        case rel => exact ⟨i + 1, _, by omega, by go_num, by rw [hst.out, hes1.out]; exact hMH.out, hoff.trans3 offW hsub.out, fun k hk => by
          rcases hsubX k hk with h1 | h1
          · exact hsub.out k h1
          · exact .inr (Nat.le_trans hoff.size h1)⟩
        case measure => simp [intOf]; omega
      | false =>
        have hins := ins_new hHe.rises (norm e) (by rw [norm_k]; exact hF)
        rw [norm_k] at hins
        clear hF
        generalize plN ei e.k = p at hins hpl ⊢
        obtain ⟨es1, hes1⟩ : ∃ es1, Hid (insR (norm e) ei = es1) := ⟨_, rfl⟩
        rw [hes1.out] at hins
        have hel9 : n0 ≤ 900000 := by omega
        have hp0 : p ≤ n0 := by omega
        have hpl1 := mr_plain (by omega) hpM
        have bN : Below V1.heap.size V1 (V1.alloc (.cells #[.pointer none] 51)) := (Below.refl _ _).alloc (Nat.le_refl _) _
        have bVN := bV.trans (bN.mono bV.size)
        have mrN := hMr.off (S := []) (.of_below bVN) (by simp) (by simp)
        have hvb : Blk (V1.alloc (.cells #[.pointer none] 51)) V1.heap.size [.pointer none] := heap_alloc_new V1 _
        have hin := ins_any (.slice ao n0 cap) n0 p us V1.heap.size _ mrN.row hp0 hpl1 hvb (fun hk => by have := (own_lt mrV.row _ hk).1; omega) (by omega)
        have c0V := mrV.c0
        go_wp2_with fail
        with_reducible refine hin.mono ?_
        clear hin
        rintro r W3 ⟨v', rfl, ho3, of3, sub3⟩
        obtain ⟨ao1, cap1, rfl⟩ := own_form ho3
        have hmbw : mb < wr.heap.size := hMr.lt
        have hmbo : mb ∉ own (.slice ao1 (n0 + 1) cap1) := fun hk => (sub3 mb hk).elim mrN.out (fun h => by have := bVN.size; omega)
        have g0 := of3.cell mrN.c0 mrN.out
        have gz : W3.frozen? ⟨mb, 0, none⟩ = false := by rw [World.frozen?_of_block (w := V1.alloc (.cells #[.pointer none] 51)) (of3.block mb (by have := bVN.size; omega) mrN.out)]; exact mrN.z
        have hwo : wr.heap.size ∉ own (.slice ao n0 cap) := fun hk => by have := (own_lt hMr.row _ hk).1; omega
        have y0 := of3.cell (cell_later bN (cell_later b1 x0)) hwo
        have y1 := of3.cell (cell_later bN (cell_later b1 x1)) hwo
        have y2 := of3.cell (cell_later bN (cell_later b1 x2)) hwo
        have hne1 : ¬ mb = wr.heap.size := by omega
        have hne2 : ¬ wr.heap.size = mb := by omega
        have offX : Off S' wr (W3.setCell ⟨mb, 0, none⟩ (.slice ao1 (n0 + 1) cap1)) := ((Off.of_below bVN).trans2 (of3.mono (fun k hk => by rw [hS']; exact List.mem_cons_of_mem _ hk)) (fun k hk => .inl hk)).setCell (p := ⟨mb, 0, none⟩) (by rw [hS']; simp) _
        have hsubX : ∀ k ∈ mb :: own (.slice ao1 (n0 + 1) cap1), k ∈ S' ∨ wr.heap.size ≤ k := fun k hk => by
          rcases List.mem_cons.1 hk with rfl | hk
          · exact .inl (by rw [hS']; simp)
          · rcases sub3 k hk with h1 | h1
            · exact .inl (by rw [hS']; exact List.mem_cons_of_mem _ h1)
            · exact .inr (Nat.le_trans bVN.size h1)
        have mr1 : Mr (W3.setCell ⟨mb, 0, none⟩ (.slice ao1 (n0 + 1) cap1)) mb ao1 (n0 + 1) cap1 (us.take p ++ [.pointer none] ++ us.drop p) :=
          ⟨World.cell?_setCell_same _ _ _ g0, by rw [World.frozen?_setCell]; exact gz, hmbo, rows_offB ho3 ((Off.refl [mb] W3).setCell (p := ⟨mb, 0, none⟩) (by simp) _) (fun k hk h1 => hmbo (by simp at h1; rw [← h1]; exact hk))⟩
        have hpairs : ∀ ptr : Value, ∀ (i : Nat) (u : Value) (x : Ent), ((us.take p ++ [Value.pointer none] ++ us.drop p).set p ptr)[i]? = some u → es1[i]? = some x → (u = ptr ∧ x = norm e) ∨ ∃ j : Nat, us[j]? = some u ∧ ei[j]? = some x := fun ptr => by
          rw [hins, set_midA us p ptr (by omega)]; exact ins_pairs us ei (by omega) p (by omega) ptr (norm e)
        have hlen1 : es1.length = n0 + 1 := by rw [hins]; simp; omega
        have tkX := tk.off offX nk
        have tvX := tv.off offX nv
        have hp1 : p < n0 + 1 := by omega
        clear c0 c1 c2
        clear x0 x1 x2 hins mrN hvb bN bVN hwo of3 sub3 ho3 c0V hMr mrV b1 bA bV hel hpl hL hul hS' hlow hpl1 tk tv nk nv
        go_wp2_with fail
        clear y0 y1 y2 hne1 hne2 g0 gz
        generalize W3.setCell ⟨mb, 0, none⟩ (.slice ao1 (n0 + 1) cap1) = X at offX mr1 tkX tvX ⊢
        generalize us.take p ++ [Value.pointer none] ++ us.drop p = us1 at mr1 hpairs
        have hel9' : n0 + 1 ≤ 900001 := by omega
        obtain ⟨g, hgv, hgm, hul1, hnc1, hgc, hgz⟩ := mr1.head (by omega)
        subst hgv
        have d0 := mr1.c0
        have ho := own_any ko kl kc vo vl vc G e.k e.v X tkX tvX (by omega) (by omega)
        have hpI : (p : Int) < (n0 + 1) := by omega
        with_reducible refine ho.mono ?_
        clear ho
        rintro r U ⟨ko', kc', vo', vl', vc', rfl, nk', nv', bU⟩
        have bB : Below U.heap.size U (U.alloc (.cells #[.slice ko' kl kc', .slice vo' vl' vc', .bool G] 27)) := (Below.refl _ _).alloc (Nat.le_refl _) _
        have bUB := bU.trans (bB.mono bU.size)
        have mrU := mr1.off (S := []) (.of_below bUB) (by simp) (by simp)
        have bxU := Box.new U (.slice ko' kl kc') (.slice vo' vl' vc') G
        have tkB := nk'.tx.later bB
        have tvB := nv'.tx.later bB
        have hXB : ∀ k ∈ mb :: own (.slice (some ⟨g, 0, none⟩) (n0 + 1) cap1), k < X.heap.size := fun k hk => (List.mem_cons.1 hk).elim (fun e => by rw [e]; exact mr1.lt) (fun h => (own_lt mr1.row k h).1)
        have hUX := bU.size
        have e0 := mrU.c0
        have e1 : ∃ u, (U.alloc (.cells #[.slice ko' kl kc', .slice vo' vl' vc', .bool G] 27)).cell? ⟨g, p, none⟩ = some u := ⟨_, cell_later bUB (hgc p (us1[p]'(by omega)) (by simp))⟩
        obtain ⟨u1, e1⟩ := e1
        have e2 : (U.alloc (.cells #[.slice ko' kl kc', .slice vo' vl' vc', .bool G] 27)).frozen? ⟨g, p, none⟩ = false := by
          obtain ⟨g', hgv', _, _, _, _, hz⟩ := mrU.head (by omega)
          simp only [Option.some.injEq, Addr.mk.injEq, and_true] at hgv'
          subst hgv'
          exact hz p
        have mrF := mrU.put (k := p) (by omega) (.pointer (some ⟨U.heap.size, 0, none⟩))
        have offF : Off (mb :: own (.slice (some ⟨g, 0, none⟩) (n0 + 1) cap1)) X ((U.alloc (.cells #[.slice ko' kl kc', .slice vo' vl' vc', .bool G] 27)).setCell ⟨g, p, none⟩ (.pointer (some ⟨U.heap.size, 0, none⟩))) := (Off.of_below bUB).setCell (p := ⟨g, p, none⟩) (by simp [own, Value.ownBlock]) _
        have offW : Off S' wr ((U.alloc (.cells #[.slice ko' kl kc', .slice vo' vl' vc', .bool G] 27)).setCell ⟨g, p, none⟩ (.pointer (some ⟨U.heap.size, 0, none⟩))) := offX.trans2 offF hsubX
        have offS := (Off.refl (mb :: own (.slice (some ⟨g, 0, none⟩) (n0 + 1) cap1)) (U.alloc (.cells #[.slice ko' kl kc', .slice vo' vl' vc', .bool G] 27))).setCell (p := ⟨g, p, none⟩) (by simp [own, Value.ownBlock]) (.pointer (some ⟨U.heap.size, 0, none⟩))
        have hrp : RPp ((U.alloc (.cells #[.slice ko' kl kc', .slice vo' vl' vc', .bool G] 27)).setCell ⟨g, p, none⟩ (.pointer (some ⟨U.heap.size, 0, none⟩))) (mb :: own (.slice (some ⟨g, 0, none⟩) (n0 + 1) cap1)) [.pointer (some ⟨U.heap.size, 0, none⟩)] (norm e) := by
          refine ⟨_, _, _, rfl, fun hk => by have := hXB _ hk; omega, by rw [norm_g, hG.out]; exact bxU.off offS (fun hk => by have := hXB _ hk; omega), ?_, ?_⟩
          · rw [norm_k]
            exact (tkB.off offS (fun ad ha _ hk => by have := hXB _ hk; have := nk'.far ad ha; omega)).at _ (fun ad ha _ hk => by have := hXB _ hk; have := nk'.far ad ha; omega)
          · rw [norm_val e hG.out]
            exact (tvB.off offS (fun ad ha _ hk => by have := hXB _ hk; have := nv'.far ad ha; omega)).at _ (fun ad ha _ hk => by have := hXB _ hk; have := nv'.far ad ha; omega)
        have hMF := mm_new hpM rfl mrF hlen1 offW hsubX hrp (hpairs (.pointer (some ⟨U.heap.size, 0, none⟩)))
        have hMH : Hid (Mm ((U.alloc (.cells #[.slice ko' kl kc', .slice vo' vl' vc', .bool G] 27)).setCell ⟨g, p, none⟩ (.pointer (some ⟨U.heap.size, 0, none⟩))) mb (mb :: own (.slice (some ⟨g, 0, none⟩) (n0 + 1) cap1)) es1) := hMF
        clear hMF hrp offS mrF mrU hXB tkB tvB bxU
        go_wp2
        go_roundw
        case rel => exact ⟨i + 1, _, by omega, by go_num, by rw [hst.out, hes1.out]; exact hMH.out, hoff.trans3 offW hsub.out, fun k hk => by
          rcases hsubX k hk with h1 | h1
          · exact hsub.out k h1
          · exact .inr (Nat.le_trans hoff.size h1)⟩
        case measure => simp [intOf]; omega
    · have hil : i = ll := by omega
      have hiI : ¬ (i : Int) < ll := by omega
      rw [List.take_of_length_le (by omega)] at hM
      go_wp2
      go_end0
      exact ⟨rfl, S', hM, hoff, hsub.out⟩
end Go.Proofs.Ytjajpnlhdbcnkaa
