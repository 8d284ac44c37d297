/- The walk of Names. -/
import Derived.Test.YtadnbdkbjajgdaaWalksD
namespace Go.Proofs.Ytadnbdkbjajgdaa
open Go.RowKit Go.Sort

theorem Try.info9 : (Try.prog.info? 9).map (fun i => (i.zero, i.size, i.bytes)) = some (some (.string ⟨#[]⟩), 1, 16) := by kernel_rfl

/-- The slice reads as these strings. -/
structure Sx (w : World) (ao : Option Addr) (len cap : Nat) (ss : List ByteArray) : Prop where
  len_eq : ss.length = len
  le : len ≤ cap
  top : cap ≤ maxLen
  cell : ∀ ad, ao = some ad → ∀ j s, ss[j]? = some s → w.cell? (ad.add j) = some (.string s)
  bare : ao = none → len = 0 ∧ cap = 0

theorem Sx.off {S : List Nat} {w w' : World} {ao : Option Addr} {len cap : Nat} {ss : List ByteArray} (h : Sx w ao len cap ss) (ho : Off S w w') (hd : ∀ ad, ao = some ad → ad.block ∉ S) : Sx w' ao len cap ss :=
  ⟨h.len_eq, h.le, h.top, fun ad ha j s hs => ho.cell (h.cell ad ha j s hs) (by have : (ad.add j).block = ad.block := by unfold Addr.add; split <;> rfl
                                                                                rw [this]; exact hd ad ha), h.bare⟩
theorem Sx.later {w w' : World} {ao : Option Addr} {len cap : Nat} {ss : List ByteArray} (h : Sx w ao len cap ss) (hb : Below w.heap.size w w') : Sx w' ao len cap ss := h.off (S := []) (.of_below hb) (by simp)

theorem Sx.head {w : World} {ao : Option Addr} {len cap : Nat} {ss : List ByteArray} (h : Sx w ao len cap ss) (h0 : 0 < len) : ∃ b off, ao = some ⟨b, off, none⟩ ∧ ∀ j s, ss[j]? = some s → w.cell? ⟨b, off + j, none⟩ = some (.string s) := by
  cases ao with
  | none => have := h.bare rfl; omega
  | some a =>
    obtain ⟨b, off, spot⟩ := a
    have hl := h.len_eq
    have hspot : spot = none := by simpa [Addr.add] using World.cell?_spot (h.cell _ rfl 0 (ss[0]'(by omega)) (List.getElem?_eq_getElem _))
    subst hspot
    exact ⟨b, off, rfl, fun j s hs => by have := h.cell _ rfl j s hs; rwa [Addr.add_lit] at this⟩

theorem Sx.own {w : World} {base : Nat} {v : Value} {n : Nat} {ss : List ByteArray} (h : w.ownsRow base 9 1 v n (ss.map Value.string)) : ∃ ao cap, v = .slice ao n cap ∧ Sx w ao n cap ss ∧ ∀ ad, ao = some ad → base ≤ ad.block ∧ ad.block < w.heap.size := by
  obtain ⟨hl, h2⟩ := h
  simp at hl
  rcases h2 with ⟨rfl, rfl⟩ | ⟨g, cap, cur, rfl, hb, hg, hn, hm, hs, ht⟩
  · exact ⟨none, 0, rfl, ⟨hl, Nat.le_refl _, by unfold maxLen; omega, fun _ h => (by cases h), fun _ => ⟨rfl, rfl⟩⟩, fun _ h => (by cases h)⟩
  · refine ⟨_, cap, rfl, ⟨hl, hn, hm, fun ad ha j s hj => ?_, fun h => (by cases h)⟩, fun ad ha => by cases ha; exact ⟨hb, (Array.getElem?_eq_some_iff.1 hg).1⟩⟩
    cases ha
    have hjl := (List.getElem?_eq_some_iff.1 hj).1
    rw [Addr.add_lit, cell_of_row w g _ cur 9 (0, 0) hg, Nat.zero_add]
    have : (ss.map Value.string)[j]? = cur[j]? := by
      rw [← ht, List.getElem?_take, if_pos (by omega), Array.getElem?_toList]
    rw [← this]
    simp [hj]

theorem take_names {l : List Fl} {k : Nat} {f : Fl} (hf : l[k]? = some f) : ((l.take (k + 1)).map (fun f => f.name)).map Value.string = ((l.take k).map (fun f => f.name)).map Value.string ++ [.string f.name] := by
  obtain ⟨hk, rfl⟩ := List.getElem?_eq_some_iff.1 hf
  rw [List.take_succ_eq_append_getElem hk, List.map_append, List.map_append]; rfl

set_option maxHeartbeats 2000000 in
theorem names_any (pb : Nat) (d : Dm) (fv : Value) (vs : List Value) (S : List Nat) (w : World) (h : Dk w pb d fv vs S) (hn : d.files.length ≤ 1000000) :
    Calls Try.prog 23 #[.pointer (some ⟨pb, 0, none⟩)] w fun e w' => ∃ ao cap, e = .returned (.slice ao d.files.length cap) ∧ Sx w' ao d.files.length cap (d.files.map (fun f => f.name)) ∧ (∀ ad, ao = some ad → w.heap.size ≤ ad.block ∧ ad.block < w'.heap.size) ∧ Below w.heap.size w w' := by
  have c1 := h.c1
  obtain ⟨ao, cap, hfv, _, hcap⟩ := h.form
  have hall : ∀ k, k < d.files.length → ∃ fb f bo bc, ao = some ⟨fb, 0, none⟩ ∧ d.files[k]? = some f ∧ w.cell? ⟨fb, k * 3, none⟩ = some (.string f.name) ∧ w.cell? ⟨fb, k * 3 + 1, none⟩ = some (.slice bo f.data.length bc) ∧ w.cell? ⟨fb, k * 3 + 2, none⟩ = some (.int .i64 f.synced) := by
    intro k hk
    obtain ⟨fb, cap', h1, _, _, hcell, _⟩ := h.list (by omega)
    rw [hfv] at h1
    simp at h1
    obtain ⟨v, hv, hr⟩ := h.datas.at k _ (List.getElem?_eq_getElem hk)
    obtain ⟨bo, bc, rfl⟩ := own_form hr
    obtain ⟨a, b, c⟩ := hcell k _ _ (List.getElem?_eq_getElem hk) hv
    exact ⟨fb, _, bo, bc, h1.1, List.getElem?_eq_getElem hk, a, b, c⟩
  subst hfv
  clear h
  obtain ⟨i9, hi9, hz0, hz1, hz2⟩ := info_parts Try.info9
  generalize hl : d.files = l at *
  generalize hN : l.length = n at *
  go_enter Try.func23, Try.ntmps23
  go_wp2
  go_loopw [3, 11] (fun v i wr => ∃ k : Nat, k ≤ n ∧ i = .int .i64 k ∧ wr.ownsRow w.heap.size 9 1 v k (((l.take k).map (fun f => f.name)).map Value.string) ∧ Below w.heap.size w wr) (fun _ i _ => n - (intOf i).toNat)
  case atStart => exact ⟨0, by omega, rfl, ⟨rfl, .inl ⟨rfl, rfl⟩⟩, Below.refl _ _⟩
  case round =>
    obtain ⟨k, hk, rfl, hown, hb⟩ := hrel
    by_cases hlt : k < n
    · obtain ⟨fb, f, bo, bc, rfl, hf, e0, e1, e2⟩ := hall k hlt
      have hnext := take_names hf
      have e0' := cell_later hb e0
      have e1' := cell_later hb e1
      have e2' := cell_later hb e2
      have hsz := hb.size
      clear hall hf
      generalize f.name = nm at *
      generalize f.data.length = dl at *
      generalize hX : ((l.take k).map (fun f => f.name)).map Value.string = X at *
      generalize hY : ((l.take (k + 1)).map (fun f => f.name)).map Value.string = Y at *
      have hnx : Hid (Y = X ++ [Value.string nm]) := hnext
      have hYh : Hid (((l.take (k + 1)).map (fun f => f.name)).map Value.string = Y) := hY
      clear hnext hX hY
      go_wp2_with (with_reducible show wpList _ _ _ (⟨some 19, _, _, _, _, _⟩ :: _) _ _; refine wpList_append_own _ rfl _ _ 48 rfl w.heap.size 9 i9 (.string ⟨#[]⟩) 1 16 Try.underlying48 hi9 hz0 hz1 hz2 rfl (by decide) _ k X rfl ((hown.alloc _).alloc _) ⟨wr.heap.size + 1, 0, none⟩ 1 1 [.string nm] rfl rfl ?c1 ?c2 ?b1 ?b2 ?b3 ?next)
      case c1 =>
        intro j u hj
        rcases j with _ | j
        · simp at hj; subst hj
          simp [go_sem, Addr.add]
        · simp at hj
      case c2 => intro u hu; simp at hu; subst hu; rfl
      case b1 => unfold maxLen; omega
      case b2 => omega
      case b3 => simp; omega
      case next =>
        intro v' w' hown' hgrow _
        have hb' : Below w.heap.size w w' := ((hb.alloc hsz _).alloc (by simp; omega) _).grown hgrow (by simp; omega) (fun k hk => (hown.lt k hk).1)
        rw [← hnx.out] at hown'
        clear hown hgrow hnx
        go_wp2
        go_roundw
        case rel => exact ⟨k + 1, by omega, by go_num, by rw [hYh.out]; exact hown', hb'⟩
        case measure => simp [intOf]; omega
    · have hkn : k = n := by omega
      subst hkn
      go_wp2
      go_ret
      rw [← hN, List.take_length] at hown
      obtain ⟨ao', cap', rfl, t, hb'⟩ := Sx.own hown
      rw [hN] at t
      exact ⟨ao', cap', by rw [hN]; rfl, t, hb', hb⟩

end Go.Proofs.Ytadnbdkbjajgdaa
