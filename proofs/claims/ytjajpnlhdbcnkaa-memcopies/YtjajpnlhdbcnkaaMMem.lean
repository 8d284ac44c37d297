/- A list in order in memory: a row of pointers to boxes. The walks of New, Len, find. -/
import Derived.Test.YtjajpnlhdbcnkaaMIns
namespace Go.Proofs.Ytjajpnlhdbcnkaa
set_option maxRecDepth 100000
open Go.RowKit Go.Sort

/-- A pointer to an entry. -/
def RPp : Reads Ent := fun w S u e => ∃ pb k v, u = [.pointer (some ⟨pb, 0, none⟩)] ∧ pb ∉ S ∧ Box w pb k v e.g ∧ BytesAt w S k e.k ∧ BytesAt w S v e.v
theorem Box.off {S : List Nat} {w w' : World} {bx : Nat} {k v : Value} {g : Bool} (h : Box w bx k v g) (ho : Off S w w') (hn : bx ∉ S) : Box w' bx k v g := ⟨ho.cell h.c0 hn, ho.cell h.c1 hn, ho.cell h.c2 hn⟩
theorem RPp.st : Stable RPp := by
  rintro w w' S S' u e ⟨pb, k, v, rfl, hn, hb, h1, h2⟩ ho hs
  exact ⟨pb, k, v, rfl, fun hk => (hs pb hk).elim hn (fun h => by have := hb.lt; omega), hb.off ho hn, h1.off ho hs, h2.off ho hs⟩

/-- The object and its row. -/
structure Mr (w : World) (mb : Nat) (ao : Option Addr) (n cap : Nat) (us : List Value) : Prop where
  c0 : w.cell? ⟨mb, 0, none⟩ = some (.slice ao n cap)
  z : w.frozen? ⟨mb, 0, none⟩ = false
  out : mb ∉ own (.slice ao n cap)
  row : w.ownsRow 0 51 1 (.slice ao n cap) n us
theorem Mr.lt {w : World} {mb : Nat} {ao : Option Addr} {n cap : Nat} {us : List Value} (h : Mr w mb ao n cap us) : mb < w.heap.size := World.block_lt_of_cell? _ _ h.c0
theorem Mr.off {S : List Nat} {w w' : World} {mb : Nat} {ao : Option Addr} {n cap : Nat} {us : List Value} (h : Mr w mb ao n cap us) (ho : Off S w w') (hm : mb ∉ S) (hd : ∀ k ∈ own (.slice ao n cap), k ∉ S) : Mr w' mb ao n cap us :=
  ⟨ho.cell h.c0 hm, by rw [World.frozen?_of_block (w := w) (ho.block mb h.lt hm)]; exact h.z, h.out, rows_offB h.row ho hd⟩
theorem Mr.head {w : World} {mb : Nat} {ao : Option Addr} {n cap : Nat} {us : List Value} (h : Mr w mb ao n cap us) (h0 : 0 < n) : ∃ g, ao = some ⟨g, 0, none⟩ ∧ g ≠ mb ∧ us.length = n ∧ n ≤ cap ∧ (∀ j u, us[j]? = some u → w.cell? ⟨g, j, none⟩ = some u) ∧ ∀ j, w.frozen? ⟨g, j, none⟩ = false := by
  obtain ⟨hl, h4⟩ := h.row
  rcases h4 with ⟨h', hn⟩ | ⟨g, c, cur, h', hb, hg, hn, hm, hs, ht⟩
  · omega
  · simp only [Value.slice.injEq, true_and] at h'
    obtain ⟨rfl, rfl⟩ := h'
    refine ⟨g, rfl, fun e => h.out (by subst e; simp [own, Value.ownBlock]), by simpa using hl, hn, fun j u hu => ?_, fun j => frozen_of_row w g _ _ 51 hg⟩
    rw [cell_of_row w g j cur 51 (0, 0) hg]
    rw [← ht, List.getElem?_take] at hu
    split at hu
    · simpa using hu
    · cases hu
theorem Mr.len {w : World} {mb : Nat} {ao : Option Addr} {n cap : Nat} {us : List Value} (h : Mr w mb ao n cap us) : us.length = n := by simpa using h.row.1

/-- The Mem at block mb holds es; S: its own blocks. -/
def Mm (w : World) (mb : Nat) (S : List Nat) (es : List Ent) : Prop :=
  ∃ (ao : Option Addr) (n cap : Nat) (us : List Value), S = mb :: own (.slice ao n cap) ∧ Mr w mb ao n cap us ∧ es.length = n ∧ ∀ (i : Nat) (u : Value) (e : Ent), us[i]? = some u → es[i]? = some e → RPp w S [u] e
theorem Mm.later {w w' : World} {mb : Nat} {S : List Nat} {es : List Ent} (h : Mm w mb S es) (hb : Below w.heap.size w w') : Mm w' mb S es := by
  obtain ⟨ao, n, cap, us, hS, hm, hl, hp⟩ := h
  exact ⟨ao, n, cap, us, hS, hm.off (S := []) (.of_below hb) (by simp) (by simp), hl, fun i u e hu he => RPp.st _ _ _ _ _ _ (hp i u e hu he) (.of_below hb) (fun k hk => .inl hk)⟩
theorem Mm.lt {w : World} {mb : Nat} {S : List Nat} {es : List Ent} (h : Mm w mb S es) : ∀ k ∈ S, k < w.heap.size := by
  obtain ⟨ao, n, cap, us, rfl, hm, hl, hp⟩ := h
  intro k hk
  rcases List.mem_cons.1 hk with rfl | hk
  · exact hm.lt
  · exact (own_lt hm.row k hk).1
/-- How it is read. -/
structure Mv (w : World) (mb : Nat) (ao : Option Addr) (n cap : Nat) (es : List Ent) : Prop where
  c0 : w.cell? ⟨mb, 0, none⟩ = some (.slice ao n cap)
  len : es.length = n
  le : n ≤ cap
  top : cap ≤ maxLen
  at_ : 0 < n → ∃ g, ao = some ⟨g, 0, none⟩ ∧ ∀ j e, es[j]? = some e → ∃ pb ko kl kc vo vl vc, w.cell? ⟨g, j, none⟩ = some (.pointer (some ⟨pb, 0, none⟩)) ∧ Box w pb (.slice ko kl kc) (.slice vo vl vc) e.g ∧ Tx w ko kl kc e.k ∧ Tx w vo vl vc e.v
theorem Mm.view {w : World} {mb : Nat} {S : List Nat} {es : List Ent} (h : Mm w mb S es) : ∃ ao n cap, Mv w mb ao n cap es := by
  obtain ⟨ao, n, cap, us, hS, hm, hl, hp⟩ := h
  have hcap : n ≤ cap ∧ cap ≤ maxLen := by
    rcases hm.row.2 with ⟨h, h'⟩ | ⟨g, c, cur, h, _, _, h3, h4, _⟩
    · simp at h; subst h'; simp [h]
    · simp at h; obtain ⟨_, rfl⟩ := h; exact ⟨h3, h4⟩
  refine ⟨ao, n, cap, hm.c0, hl, hcap.1, hcap.2, fun h0 => ?_⟩
  obtain ⟨g, rfl, _, hul, _, hc, _⟩ := hm.head h0
  refine ⟨g, rfl, fun j e he => ?_⟩
  have hj := (List.getElem?_eq_some_iff.1 he).1
  have hu : us[j]? = some (us[j]'(by omega)) := by simp
  obtain ⟨pb, k, v, hq, _, hb, ⟨ko, kl, kc, rfl, tk, _⟩, ⟨vo, vl, vc, rfl, tv, _⟩⟩ := hp j _ e hu he
  simp only [List.cons.injEq, and_true] at hq
  exact ⟨pb, ko, kl, kc, vo, vl, vc, by rw [hc j _ hu, hq], hb, tk, tv⟩

theorem Try.zero47 : (Try.prog.info? 47).map (fun i => (i.zero, i.size, i.bytes)) = some (some (.agg #[.slice none 0 0]), 1, 24) := by kernel_rfl
theorem new_any (w : World) : Calls Try.prog 7 #[] w fun e w' => ∃ mb, e = .returned (.pointer (some ⟨mb, 0, none⟩)) ∧ Mm w' mb [mb] [] ∧ w.heap.size ≤ mb ∧ Below w.heap.size w w' := by
  go_enter Try.func7, Try.ntmps7
  go_wp2
  go_ret
  refine ⟨_, rfl, ⟨none, 0, 0, [], rfl, ⟨?_, ?_, by simp [own, Value.ownBlock], ⟨rfl, .inl ⟨rfl, rfl⟩⟩⟩, rfl, by simp⟩, Nat.le_refl _, (Below.refl _ _).alloc (Nat.le_refl _) _⟩
  · rw [cell_of_row _ _ 0 _ 47 (0, 0) (heap_alloc_new w _)]; simp
  · exact frozen_of_row _ _ 0 _ 47 (heap_alloc_new w _)
theorem mlen_any (mb : Nat) (S : List Nat) (es : List Ent) (w : World) (h : Mm w mb S es) : Calls Try.prog 16 #[.pointer (some ⟨mb, 0, none⟩)] w fun e w' => e = .returned (.int .i64 es.length) ∧ w = w' := by
  obtain ⟨ao, n, cap, hv⟩ := h.view
  have c0 := hv.c0
  have hl := hv.len
  subst hl
  go_enter Try.func16, Try.ntmps16
  go_wp2
  go_ret
  exact ⟨rfl, rfl⟩

set_option maxHeartbeats 4000000 in
theorem find_any (mb : Nat) (S : List Nat) (es : List Ent) (ko : Option Addr) (kl kc : Nat) (ks : List Int) (w : World) (h : Mm w mb S es) (hr : Rises es) (tk : Tx w ko kl kc ks) (sm : es.length ≤ 1000000) (sk : kl ≤ 900000000) (se : ∀ e ∈ es, e.k.length ≤ 900000000) :
    Calls Try.prog 21 #[.pointer (some ⟨mb, 0, none⟩), .slice ko kl kc] w fun e w' => e = .returned (.tuple #[.int .i64 (plN es ks : Nat), .bool (isAt es ks)]) ∧ Below w.heap.size w w' := by
  obtain ⟨ao, n, cap, hv⟩ := h.view
  have hl := hv.len
  have c0 := hv.c0
  have hle := hv.le
  have htop := hv.top
  unfold maxLen at htop
  have cr0 := fun d os => cell_regrown c0 d os
  go_enter Try.func21, Try.ntmps21
  go_wp2_with fail
  refine wp_region_quiet_below (by kernel_rfl) (by kernel_rfl) ?_
  repeat (go_big_quiet_step (fail))
  (with_reducible refine wpQuiet_nil ?_)
  intro _ hw'
  obtain ⟨⟨dq, osq⟩, hw''⟩ := hw'
  subst hw''
  have hb0 := below_regrown w dq osq
  clear cr0
  generalize grow (redrawn w dq) osq = V0 at hb0 ⊢
  go_wp2
  go_loopw [6, 7, 8] (fun s6 s7 _ wr => ∃ i j : Nat, i ≤ j ∧ j ≤ n ∧ s6 = .int .i64 i ∧ s7 = .int .i64 j ∧ Hid (∀ (q : Nat) (p : Ent), q < i → es[q]? = some p → lessB p.k ks = true) ∧ Hid (∀ (q : Nat) (p : Ent), j ≤ q → es[q]? = some p → lessB p.k ks = false) ∧ Below w.heap.size w wr) (fun s6 s7 _ _ => (intOf s7).toNat - (intOf s6).toNat)
  case atStart => exact ⟨0, n, by omega, by omega, rfl, rfl, fun q p hq => (by omega), fun q p hq hp => by have := (List.getElem?_eq_some_iff.1 hp).1; omega, hb0⟩
  case round =>
    obtain ⟨i, j, hij, hj, rfl, rfl, hlo, hhi, hb⟩ := hrel
    have c0r := cell_later hb c0
    by_cases hlt : i < j
    · have hh1 : i ≤ (i + j) / 2 ∧ (i + j) / 2 < j := by omega
      obtain ⟨g, rfl, hc⟩ := hv.at_ (by omega)
      have hx : es[(i + j) / 2]? = some (es[(i + j) / 2]'(by omega)) := by simp
      obtain ⟨pb, jo, jl, jc, uo, ul, uc, p0, ⟨q0, q1, q2⟩, tj, tu⟩ := hc _ _ hx
      have hpl := se _ (List.getElem_mem (l := es) (n := (i + j) / 2) (by omega))
      generalize es[(i + j) / 2]'(by omega) = p at hx q2 tj tu hpl
      rw [tj.len_eq] at hpl
      have p0r := cell_later hb p0
      have q0r := cell_later hb q0
      have hord := less_any jo ko jl jc kl kc p.k ks wr (tj.later hb) (tk.later hb) (by omega) (by omega)
      have hX : Hid (es[(i + j) / 2]? = some p) := hx
      clear hx
      have hnext : lessB p.k ks = true → Hid (∀ (q : Nat) (p' : Ent), q < (i + j) / 2 + 1 → es[q]? = some p' → lessB p'.k ks = true) := fun hl q p' hq hp' => by
        by_cases hqh : q = (i + j) / 2
        · subst hqh; rw [hX.out] at hp'; cases hp'; exact hl
        · exact lessB_trans _ _ _ (hr q _ p' p (by omega) hp' hX.out) hl
      have hprev : lessB p.k ks = false → Hid (∀ (q : Nat) (p' : Ent), (i + j) / 2 ≤ q → es[q]? = some p' → lessB p'.k ks = false) := fun hl q p' hq hp' => by
        by_cases hqh : q = (i + j) / 2
        · subst hqh; rw [hX.out] at hp'; cases hp'; exact hl
        · cases hh : lessB p'.k ks with
          | false => rfl
          | true => have := lessB_trans _ _ _ (hr _ q p p' (by omega) hX.out hp') hh; rw [hl] at this; cases this
      cases hF : lessB p.k ks with
      | true =>
        have hn := hnext hF
        rw [hF] at hord
        clear hnext hprev
        go_wp2_with (go_at_call 28; with_reducible refine hord.mono ?_; rintro e V ⟨rfl, bV⟩)
        go_roundw
        case rel => exact ⟨(i + j) / 2 + 1, j, by omega, hj, by go_num, rfl, hn, hhi, hb.trans (bV.mono hb.size)⟩
        case measure => simp [intOf]; omega
      | false =>
        have hn := hprev hF
        rw [hF] at hord
        clear hnext hprev
        go_wp2_with (go_at_call 28; with_reducible refine hord.mono ?_; rintro e V ⟨rfl, bV⟩)
        go_roundw
        case rel => exact ⟨i, (i + j) / 2, by omega, by omega, rfl, by go_num, hlo, hn, hb.trans (bV.mono hb.size)⟩
        case measure => simp [intOf]; omega
    · have hij2 : i = j := by omega
      subst hij2
      have hP : PlaceE es ks i := ⟨by omega, hlo.out, fun q p hq hp => hhi.out q p hq hp⟩
      have hpe := hP.eq
      by_cases hir : i < n
      · obtain ⟨g, rfl, hc⟩ := hv.at_ (by omega)
        have hx : es[i]? = some (es[i]'(by omega)) := by simp
        obtain ⟨pb, jo, jl, jc, uo, ul, uc, p0, ⟨q0, q1, q2⟩, tj, tu⟩ := hc _ _ hx
        have hia := isAt_some hx hpe
        generalize es[i]'(by omega) = p at hx q2 tj tu hia
        have p0r := cell_later hb p0
        have q0r := cell_later hb q0
        obtain ⟨F, hF⟩ : ∃ F, Hid ((p.k == ks) = F) := ⟨_, rfl⟩
        rw [hF.out] at hia
        have heq := bequal_any jo ko jl jc kl kc p.k ks wr (tj.later hb) (tk.later hb) F hF.out
        have hfin : Hid (plN es ks = i ∧ isAt es ks = F) := ⟨hpe, hia⟩
        clear hx hpe hia hP
        go_wp2_with (go_at_call 29; with_reducible refine heq.mono ?_; rintro e V ⟨rfl, bV⟩)
        go_ret2
        subst bV
        refine ⟨?_, hb⟩
        rw [hfin.out.1, hfin.out.2]; rfl
      · have hirI : ¬ (i : Int) < n := by omega
        have hia := isAt_end (es := es) (ks := ks) (by omega)
        have hfin : Hid (plN es ks = i ∧ isAt es ks = false) := ⟨hpe, hia⟩
        clear hpe hia hP
        go_wp2
        go_ret2
        refine ⟨?_, hb⟩
        rw [hfin.out.1, hfin.out.2]; rfl
end Go.Proofs.Ytjajpnlhdbcnkaa
