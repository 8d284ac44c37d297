/- The walk of Crash. The walk of Names. -/
import Derived.Test.YtgleblfkcdkaeaaDoorDWalksE
import Derived.Test.YtgleblfkcdkaeaaDoorDWalksD
namespace Go.Proofs.YtgleblfkcdkaeaaDoor

section
open Go.RowKit Go.Sort

theorem keep_at (fb o : Nat) (N : Int) (n dl dc : Nat) (bo : Option Addr) (u : Value) (w : World) (hN : N = (n : Int)) (hbo : bo = none → dl = 0 ∧ dc = 0) (hn : n ≤ dl) (hd : dl ≤ dc) (hm : dc ≤ maxLen) (c1 : w.cell? ⟨fb, o + 1, none⟩ = some (.slice bo dl dc)) (c2 : w.cell? ⟨fb, o + 2, none⟩ = some u) (z1 : w.frozen? ⟨fb, o + 1, none⟩ = false) (z2 : w.frozen? ⟨fb, o + 2, none⟩ = false) :
    Calls Tryd.prog 39 #[.pointer (some ⟨fb, o, none⟩), .int .i64 N] w fun e w' => e = .returned (.tuple #[]) ∧ (w.setCell ⟨fb, o + 1, none⟩ (.slice bo n dc)).setCell ⟨fb, o + 2, none⟩ (.int .i64 n) = w' := by
  subst hN
  exact (dkeep_any fb o n dl dc bo u w hbo hn hd hm c1 c2 z1 z2).mono (fun e w' h => ⟨h.1, h.2.symm⟩)

/-- The first k files are crashed. -/
def crashed (l : List Fl) (keep : Int) (k : Nat) : List Fl := (l.take k).map (fun f => f.crash keep) ++ l.drop k

theorem crashed_len (l : List Fl) (keep : Int) (k : Nat) : (crashed l keep k).length = l.length := by simp [crashed]; omega
theorem crashed_at {l : List Fl} {k : Nat} {f : Fl} (keep : Int) (hf : l[k]? = some f) : (crashed l keep k)[k]? = some f := by
  obtain ⟨hk, rfl⟩ := List.getElem?_eq_some_iff.1 hf
  unfold crashed
  have hm : min k l.length = k := by omega
  rw [List.getElem?_append_right (by simp; omega)]
  simp [hm]
theorem crashed_set {l : List Fl} {k : Nat} {f : Fl} (keep : Int) (hf : l[k]? = some f) : (crashed l keep k).set k (f.crash keep) = crashed l keep (k + 1) := by
  obtain ⟨hk, rfl⟩ := List.getElem?_eq_some_iff.1 hf
  unfold crashed
  have hm : min k l.length = k := by omega
  rw [List.take_succ_eq_append_getElem hk, List.map_append, List.set_append_right _ _ (by simp; omega)]
  simp [hm]
  rw [List.drop_eq_getElem_cons hk, List.set_cons_zero]
theorem crash_len (f : Fl) (keep : Int) : (f.crash keep).data.length ≤ f.data.length := by simp [Fl.crash]; omega
theorem used_map_le (g : Fl → Fl) (hg : ∀ f, (g f).data.length ≤ f.data.length) : ∀ l : List Fl, used (l.map g) ≤ used l
  | [] => by simp [used]
  | f :: l => by rw [List.map_cons, used_cons, used_cons]; have := used_map_le g hg l; have := hg f; omega

theorem crashed_eq (l : List Fl) (keep : Int) (k : Nat) : ∃ g : List Fl, crashed l keep k = g ∧ g.length = l.length := ⟨_, rfl, crashed_len l keep k⟩

theorem crashed_ok {d : Dm} (h : d.Ok) (keep : Int) (k : Nat) : Dm.Ok { d with files := crashed d.files keep k } := by
  have hm : ∀ f ∈ crashed d.files keep k, ∃ f0 ∈ d.files, f = f0 ∨ f = f0.crash keep := by
    intro f hf
    rcases List.mem_append.1 hf with hf | hf
    · obtain ⟨f0, h0, rfl⟩ := List.mem_map.1 hf
      exact ⟨f0, List.mem_of_mem_take h0, .inr rfl⟩
    · exact ⟨f, List.mem_of_mem_drop hf, .inl rfl⟩
  refine ⟨h.lim, ?_, ?_, ?_, ?_, ?_, h.l1, h.l2⟩
  · have h1 := used_map_le (fun f => f.crash keep) (fun f => crash_len f keep) (d.files.take k)
    have h2 := h.room
    have h3 : used d.files = used (d.files.take k) + used (d.files.drop k) := by rw [← used_append, List.take_append_drop]
    show used (crashed d.files keep k) ≤ d.limit
    rw [crashed, used_append]; omega
  · show Rising (crashed d.files keep k)
    have hr := h.rise
    unfold Rising at hr ⊢
    rw [← List.take_append_drop k d.files, List.pairwise_append] at hr
    rw [crashed, List.pairwise_append, List.pairwise_map]
    refine ⟨hr.1, hr.2.1, ?_⟩
    intro a ha b hb
    obtain ⟨a0, h0, rfl⟩ := List.mem_map.1 ha
    exact hr.2.2 a0 h0 b hb
  · intro f hf
    obtain ⟨f0, h0, rfl | rfl⟩ := hm f hf
    · exact h.sync f h0
    · have := h.sync f0 h0
      simp [Fl.crash]; omega
  · intro f hf
    obtain ⟨f0, h0, rfl | rfl⟩ := hm f hf
    · exact h.rng f h0
    · exact fun n hn => h.rng f0 h0 n (List.mem_of_mem_take hn)
  · intro f hf
    obtain ⟨f0, h0, rfl | rfl⟩ := hm f hf
    · exact h.name f h0
    · exact h.name f0 h0

theorem crashed_all (l : List Fl) (keep : Int) : crashed l keep l.length = l.map (fun f => f.crash keep) := by simp [crashed]

set_option maxHeartbeats 2000000 in
theorem crash_any (pb : Nat) (d : Dm) (fv : Value) (vs : List Value) (S : List Nat) (keep : Int) (w : World) (h : Dk w pb d fv vs S) (hn : d.files.length ≤ 1000000) (_h1 : -9223372036854775808 ≤ keep) (_h2 : keep ≤ 9223372036854775807) :
    Calls Tryd.prog 14 #[.pointer (some ⟨pb, 0, none⟩), .int .i64 keep] w fun e w' => e = .returned (.tuple #[]) ∧ ∃ fv' vs' S', Dk w' pb (d.crash keep) fv' vs' S' ∧ Step S S' w w' := by
  obtain ⟨ao, cap, hfv, hc1, hc2⟩ := h.form
  have c1 := h.c1
  rw [hfv] at c1
  -- what a round finds and leaves
  have hround : ∀ k wr vs' S', k < d.files.length → Dk wr pb { d with files := crashed d.files keep k } fv vs' S' → ∃ (fb : Nat) (f : Fl) (bo : Option Addr) (bc : Nat), ao = some ⟨fb, 0, none⟩ ∧ f.synced ≤ f.data.length ∧ f.data.length ≤ 16777216 ∧ f.data.length ≤ bc ∧ bc ≤ maxLen ∧ (bo = none → f.data.length = 0 ∧ bc = 0) ∧ wr.cell? ⟨fb, k * 3 + 1, none⟩ = some (.slice bo f.data.length bc) ∧ wr.cell? ⟨fb, k * 3 + 2, none⟩ = some (.int .i64 f.synced) ∧ wr.frozen? ⟨fb, k * 3 + 1, none⟩ = false ∧ wr.frozen? ⟨fb, k * 3 + 2, none⟩ = false ∧
      ∀ q, ∃ vs'' S'', Dk (((wr.drewN q).setCell ⟨fb, k * 3 + 1, none⟩ (.slice bo (f.crash keep).synced bc)).setCell ⟨fb, k * 3 + 2, none⟩ (.int .i64 (f.crash keep).synced)) pb { d with files := crashed d.files keep (k + 1) } fv vs'' S'' ∧ Step S' S'' wr (((wr.drewN q).setCell ⟨fb, k * 3 + 1, none⟩ (.slice bo (f.crash keep).synced bc)).setCell ⟨fb, k * 3 + 2, none⟩ (.int .i64 (f.crash keep).synced)) := by
    intro k wr vs' S' hk D
    obtain ⟨f, hf⟩ : ∃ f, d.files[k]? = some f := ⟨_, List.getElem?_eq_getElem hk⟩
    have hfk := crashed_at keep hf
    obtain ⟨fb, cap', hfv', _, _, hcell, _, _, _, hz⟩ := D.list (by show 0 < (crashed d.files keep k).length; rw [crashed_len]; omega)
    obtain ⟨v, hv, hr⟩ := D.datas.at k f hfk
    obtain ⟨bo, bc, rfl, t, _⟩ := Tx.of_own hr (h.ok.rng f (List.mem_of_getElem? hf))
    obtain ⟨a, b, c⟩ := hcell k f _ hfk hv
    have hs := h.ok.sync f (List.mem_of_getElem? hf)
    have hu := used_mem (List.mem_of_getElem? hf)
    have h3 := h.ok.room
    have h4 := h.ok.lim
    rw [hfv] at hfv'
    simp only [Value.slice.injEq] at hfv'
    refine ⟨fb, f, bo, bc, hfv'.1, hs, by omega, t.le, t.top, t.bare, b, c, hz _, hz _, ?_⟩
    have hfv2 : fv = .slice (some ⟨fb, 0, none⟩) d.files.length cap := by rw [hfv, hfv'.1]
    rw [hfv2] at D
    intro q
    have hml : (f.crash keep).synced ≤ f.data.length := by simp [Fl.crash]; omega
    have hok := crashed_ok h.ok keep (k + 1)
    rw [← crashed_set keep hf] at hok
    have hd := own_take hr (f.crash keep).synced hml rfl
    have hlen : (f.crash keep).data = f.data.take (f.crash keep).synced := rfl
    have := (D.drewN q).set12 k (f.crash keep) (v' := .slice bo (f.crash keep).synced bc) hfk hv rfl hok (by rw [hlen]; exact rows_off (by simpa [Nat.min_eq_left hml] using hd) ((Off.refl [] _).drewN q) (by simp)) (fun k hk => by rwa [own_len _ _ (f.crash keep).synced _ bc])
    rw [hfv2]
    obtain ⟨S'', D'', st⟩ := this
    rw [crashed_set keep hf] at D''
    exact ⟨_, S'', D'', ((Step.refl S' wr).drewN q).trans st⟩
  have hfin : ∀ wr vs' S', Dk wr pb { d with files := crashed d.files keep d.files.length } fv vs' S' → Dk ((wr.setCell ⟨pb, 2, none⟩ (.int .i64 0)).setCell ⟨pb, 3, none⟩ (.bool false)) pb (d.crash keep) fv vs' S' ∧ Step S' S' wr ((wr.setCell ⟨pb, 2, none⟩ (.int .i64 0)).setCell ⟨pb, 3, none⟩ (.bool false)) := by
    intro wr vs' S' D
    rw [crashed_all] at D
    have hok := D.ok
    exact D.turn (d.crash keep) rfl ⟨hok.lim, hok.room, hok.rise, hok.sync, hok.rng, hok.name, by simp [Dm.crash], by simp [Dm.crash]⟩ (((Off.refl [pb] wr).setCell (p := ⟨pb, 2, none⟩) (by simp) (.int .i64 0)).setCell (p := ⟨pb, 3, none⟩) (by simp) (.bool false)) (by rw [set_head _ (set_head _ D.head)]; rfl)
  have D0 : Dk w pb { d with files := crashed d.files keep 0 } fv vs S := by
    have : crashed d.files keep 0 = d.files := by simp [crashed]
    rw [this]; exact h
  have hsyn : ∀ f : Fl, ((f.crash keep).synced : Int) = f.synced + min (max keep 0) ((f.data.length - f.synced : Nat) : Int) := by
    intro f; simp [Fl.crash]; omega
  have hmax : Hid (∃ K : Nat, (K : Int) = max keep 0) := ⟨(max keep 0).toNat, by omega⟩
  clear h
  generalize hN : d.files.length = n at *
  go_enter Tryd.func14, Tryd.ntmps14
  go_wp2
  all_goals
    go_loopw [14] (fun i wr => ∃ k : Nat, k ≤ n ∧ i = .int .i64 k ∧ ∃ vs' S', Dk wr pb { d with files := crashed d.files keep k } fv vs' S' ∧ Step S S' w wr) (fun i _ => n - (intOf i).toNat)
    case atStart => exact ⟨0, by omega, rfl, vs, S, D0, .refl _ _⟩
    case round =>
      obtain ⟨k, hk, rfl, vs', S', D, st⟩ := hrel
      have d1 := D.c1
      rw [hfv] at d1
      by_cases hlt : k < n
      · obtain ⟨fb, f, bo, bc, rfl, hs, hu, hbc, hbm, hbare, f1, f2, z1, z2, hnext⟩ := hround k wr vs' S' hlt D
        have hsy := hsyn f
        have hml : (f.crash keep).synced ≤ f.data.length := by omega
        have hki : (k : Int) < (n : Int) := by omega
        have hsub : IntKind.i64.wrap ((f.data.length : Int) - (f.synced : Int)) = (f.data.length : Int) - (f.synced : Int) := by rw [IntKind.wrap_i64]; omega
        have hsyH : Hid (((f.crash keep).synced : Int) = f.synced + min (max keep 0) ((f.data.length - f.synced : Nat) : Int)) := hsy
        clear hround hsyn hfin hsy
        generalize (f.crash keep).synced = cs at *
        generalize f.data.length = dl at *
        go_wp2
        go_quiet (fail)
        obtain ⟨vs'', S'', D'', st''⟩ := hnext nq
        have g1 : (wr.drewN nq).cell? ⟨fb, k * 3 + 1, none⟩ = some (.slice bo dl bc) := f1
        have g2 : (wr.drewN nq).cell? ⟨fb, k * 3 + 2, none⟩ = some (.int .i64 f.synced) := f2
        have y1 : (wr.drewN nq).frozen? ⟨fb, k * 3 + 1, none⟩ = false := z1
        have y2 : (wr.drewN nq).frozen? ⟨fb, k * 3 + 2, none⟩ = false := z2
        go_wp2_with (go_at_call 39; go_must (with_reducible refine (keep_at fb (k * 3) _ cs dl bc bo _ (wr.drewN nq) ?_ hbare hml hbc hbm g1 g2 y1 y2).mono ?_; (have := hsyH.out; omega); rintro e w3 ⟨rfl, hw3⟩))
        all_goals
          subst hw3
          go_roundw
          case rel => exact ⟨k + 1, by omega, by go_num, vs'', S'', D'', st.trans st''⟩
          case measure => simp [intOf]; omega
      · have hkn : k = n := by omega
        subst hkn
        have z2 := D.z 2
        have z3 := D.z 3
        have d2 := D.c2
        have d3 := D.c3
        have F := hfin wr vs' S' D
        go_wp2
        go_end0
        exact ⟨rfl, fv, vs', S', F.1, st.trans F.2⟩
end

section
open Go.RowKit Go.Sort

theorem Tryd.info9 : (Tryd.prog.info? 9).map (fun i => (i.zero, i.size, i.bytes)) = some (some (.string ⟨#[]⟩), 1, 16) := by kernel_rfl

/-- The slice reads as these strings. -/
structure Sx (w : World) (ao : Option Addr) (len cap : Nat) (ss : List ByteArray) : Prop where
  len_eq : ss.length = len
  le : len ≤ cap
  top : cap ≤ maxLen
  cell : ∀ ad, ao = some ad → ∀ j s, ss[j]? = some s → w.cell? (ad.add j) = some (.string s)
  bare : ao = none → len = 0 ∧ cap = 0

theorem Sx.off {S : List Nat} {w w' : World} {ao : Option Addr} {len cap : Nat} {ss : List ByteArray} (h : Sx w ao len cap ss) (ho : Off S w w') (hd : ∀ ad, ao = some ad → ad.block ∉ S) : Sx w' ao len cap ss :=
  ⟨h.len_eq, h.le, h.top, fun ad ha j s hs => ho.cell (h.cell ad ha j s hs) (by have : (ad.add j).block = ad.block := by unfold Addr.add; split <;> rfl
                                                                                rw [this]; exact hd ad ha), h.bare⟩
theorem Sx.later {w w' : World} {ao : Option Addr} {len cap : Nat} {ss : List ByteArray} (h : Sx w ao len cap ss) (hb : Below w.heap.size w w') : Sx w' ao len cap ss := h.off (S := []) (.of_below hb) (by simp)

theorem Sx.head {w : World} {ao : Option Addr} {len cap : Nat} {ss : List ByteArray} (h : Sx w ao len cap ss) (h0 : 0 < len) : ∃ b off, ao = some ⟨b, off, none⟩ ∧ ∀ j s, ss[j]? = some s → w.cell? ⟨b, off + j, none⟩ = some (.string s) := by
  cases ao with
  | none => have := h.bare rfl; omega
  | some a =>
    obtain ⟨b, off, spot⟩ := a
    have hl := h.len_eq
    have hspot : spot = none := by simpa [Addr.add] using World.cell?_spot (h.cell _ rfl 0 (ss[0]'(by omega)) (List.getElem?_eq_getElem _))
    subst hspot
    exact ⟨b, off, rfl, fun j s hs => by have := h.cell _ rfl j s hs; rwa [Addr.add_lit] at this⟩

theorem Sx.own {w : World} {base : Nat} {v : Value} {n : Nat} {ss : List ByteArray} (h : w.ownsRow base 9 1 v n (ss.map Value.string)) : ∃ ao cap, v = .slice ao n cap ∧ Sx w ao n cap ss ∧ ∀ ad, ao = some ad → base ≤ ad.block ∧ ad.block < w.heap.size := by
  obtain ⟨hl, h2⟩ := h
  simp at hl
  rcases h2 with ⟨rfl, rfl⟩ | ⟨g, cap, cur, rfl, hb, hg, hn, hm, hs, ht⟩
  · exact ⟨none, 0, rfl, ⟨hl, Nat.le_refl _, by unfold maxLen; omega, fun _ h => (by cases h), fun _ => ⟨rfl, rfl⟩⟩, fun _ h => (by cases h)⟩
  · refine ⟨_, cap, rfl, ⟨hl, hn, hm, fun ad ha j s hj => ?_, fun h => (by cases h)⟩, fun ad ha => by cases ha; exact ⟨hb, (Array.getElem?_eq_some_iff.1 hg).1⟩⟩
    cases ha
    have hjl := (List.getElem?_eq_some_iff.1 hj).1
    rw [Addr.add_lit, cell_of_row w g _ cur 9 (0, 0) hg, Nat.zero_add]
    have : (ss.map Value.string)[j]? = cur[j]? := by
      rw [← ht, List.getElem?_take, if_pos (by omega), Array.getElem?_toList]
    rw [← this]
    simp [hj]

theorem take_names {l : List Fl} {k : Nat} {f : Fl} (hf : l[k]? = some f) : ((l.take (k + 1)).map (fun f => f.name)).map Value.string = ((l.take k).map (fun f => f.name)).map Value.string ++ [.string f.name] := by
  obtain ⟨hk, rfl⟩ := List.getElem?_eq_some_iff.1 hf
  rw [List.take_succ_eq_append_getElem hk, List.map_append, List.map_append]; rfl

set_option maxHeartbeats 2000000 in
theorem names_any (pb : Nat) (d : Dm) (fv : Value) (vs : List Value) (S : List Nat) (w : World) (h : Dk w pb d fv vs S) (hn : d.files.length ≤ 1000000) :
    Calls Tryd.prog 28 #[.pointer (some ⟨pb, 0, none⟩)] w fun e w' => ∃ ao cap, e = .returned (.slice ao d.files.length cap) ∧ Sx w' ao d.files.length cap (d.files.map (fun f => f.name)) ∧ (∀ ad, ao = some ad → w.heap.size ≤ ad.block ∧ ad.block < w'.heap.size) ∧ Below w.heap.size w w' := by
  have c1 := h.c1
  obtain ⟨ao, cap, hfv, _, hcap⟩ := h.form
  have hall : ∀ k, k < d.files.length → ∃ fb f bo bc, ao = some ⟨fb, 0, none⟩ ∧ d.files[k]? = some f ∧ w.cell? ⟨fb, k * 3, none⟩ = some (.string f.name) ∧ w.cell? ⟨fb, k * 3 + 1, none⟩ = some (.slice bo f.data.length bc) ∧ w.cell? ⟨fb, k * 3 + 2, none⟩ = some (.int .i64 f.synced) := by
    intro k hk
    obtain ⟨fb, cap', h1, _, _, hcell, _⟩ := h.list (by omega)
    rw [hfv] at h1
    simp at h1
    obtain ⟨v, hv, hr⟩ := h.datas.at k _ (List.getElem?_eq_getElem hk)
    obtain ⟨bo, bc, rfl⟩ := own_form hr
    obtain ⟨a, b, c⟩ := hcell k _ _ (List.getElem?_eq_getElem hk) hv
    exact ⟨fb, _, bo, bc, h1.1, List.getElem?_eq_getElem hk, a, b, c⟩
  subst hfv
  clear h
  obtain ⟨i9, hi9, hz0, hz1, hz2⟩ := info_parts Tryd.info9
  generalize hl : d.files = l at *
  generalize hN : l.length = n at *
  go_enter Tryd.func28, Tryd.ntmps28
  go_wp2
  go_loopw [3, 11] (fun v i wr => ∃ k : Nat, k ≤ n ∧ i = .int .i64 k ∧ wr.ownsRow w.heap.size 9 1 v k (((l.take k).map (fun f => f.name)).map Value.string) ∧ Below w.heap.size w wr) (fun _ i _ => n - (intOf i).toNat)
  case atStart => exact ⟨0, by omega, rfl, ⟨rfl, .inl ⟨rfl, rfl⟩⟩, Below.refl _ _⟩
  case round =>
    obtain ⟨k, hk, rfl, hown, hb⟩ := hrel
    by_cases hlt : k < n
    · obtain ⟨fb, f, bo, bc, rfl, hf, e0, e1, e2⟩ := hall k hlt
      have hnext := take_names hf
      have e0' := cell_later hb e0
      have e1' := cell_later hb e1
      have e2' := cell_later hb e2
      have hsz := hb.size
      clear hall hf
      generalize f.name = nm at *
      generalize f.data.length = dl at *
      generalize hX : ((l.take k).map (fun f => f.name)).map Value.string = X at *
      generalize hY : ((l.take (k + 1)).map (fun f => f.name)).map Value.string = Y at *
      have hnx : Hid (Y = X ++ [Value.string nm]) := hnext
      have hYh : Hid (((l.take (k + 1)).map (fun f => f.name)).map Value.string = Y) := hY
      clear hnext hX hY
      go_wp2_with (with_reducible show wpList _ _ _ (⟨some 19, _, _, _, _, _⟩ :: _) _ _; refine wpList_append_own _ rfl _ _ 55 rfl w.heap.size 9 i9 (.string ⟨#[]⟩) 1 16 Tryd.underlying55 hi9 hz0 hz1 hz2 rfl (by decide) _ k X rfl ((hown.alloc _).alloc _) ⟨wr.heap.size + 1, 0, none⟩ 1 1 [.string nm] rfl rfl ?c1 ?c2 ?b1 ?b2 ?b3 ?next)
      case c1 =>
        intro j u hj
        rcases j with _ | j
        · simp at hj; subst hj
          simp [go_sem, Addr.add]
        · simp at hj
      case c2 => intro u hu; simp at hu; subst hu; rfl
      case b1 => unfold maxLen; omega
      case b2 => omega
      case b3 => simp; omega
      case next =>
        intro v' w' hown' hgrow _
        have hb' : Below w.heap.size w w' := ((hb.alloc hsz _).alloc (by simp; omega) _).grown hgrow (by simp; omega) (fun k hk => (hown.lt k hk).1)
        rw [← hnx.out] at hown'
        clear hown hgrow hnx
        go_wp2
        go_roundw
        case rel => exact ⟨k + 1, by omega, by go_num, by rw [hYh.out]; exact hown', hb'⟩
        case measure => simp [intOf]; omega
    · have hkn : k = n := by omega
      subst hkn
      go_wp2
      go_ret
      rw [← hN, List.take_length] at hown
      obtain ⟨ao', cap', rfl, t, hb'⟩ := Sx.own hown
      rw [hN] at t
      exact ⟨ao', cap', by rw [hN]; rfl, t, hb', hb⟩
end

end Go.Proofs.YtgleblfkcdkaeaaDoor
