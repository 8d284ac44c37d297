/- The walk of find. -/
import Derived.Test.YtgleblfkcdkaeaaDoorDMem
namespace Go.Proofs.YtgleblfkcdkaeaaDoor
open Go.RowKit

theorem lo_length {l : List Fl} {nm : ByteArray} {k : Nat} (hk : k ≤ l.length) (h1 : ∀ j f, j < k → l[j]? = some f → nlt f.name nm = true) (h2 : ∀ j f, k ≤ j → l[j]? = some f → nlt f.name nm = false) : (lo l nm).length = k := by
  induction l generalizing k with
  | nil => simp at hk; subst hk; rfl
  | cons f l ih =>
    cases k with
    | zero =>
      have : lo (f :: l) nm = [] := by
        apply List.filter_eq_nil_iff.2
        intro g hg
        obtain ⟨j, hj⟩ := List.getElem?_of_mem hg
        rw [h2 j g (by omega) hj]; simp
      rw [this]; rfl
    | succ k =>
      have e := h1 0 f (by omega) rfl
      have ih := ih (k := k) (by simpa using hk) (fun j g hj hg => h1 (j + 1) g (by omega) (by simpa using hg)) (fun j g hj hg => h2 (j + 1) g (by omega) (by simpa using hg))
      unfold lo at ih ⊢
      rw [List.filter_cons, e, if_pos rfl, List.length_cons, ih]

theorem get_none {l : List Fl} (h : Rising l) {nm : ByteArray} {f : Fl} (hf : l[(lo l nm).length]? = some f) (hn : f.name ≠ nm) : get l nm = none := by
  cases hg : get l nm with
  | none => rfl
  | some g =>
    rw [at_lo h hg] at hf
    have := get_name hg
    simp at hf; subst hf; exact absurd this hn
theorem get_end {l : List Fl} (h : Rising l) {nm : ByteArray} (hf : l.length ≤ (lo l nm).length) : get l nm = none := by
  cases hg : get l nm with
  | none => rfl
  | some g =>
    have := at_lo h hg
    have := (List.getElem?_eq_some_iff.1 this).1
    omega
theorem get_some {l : List Fl} {nm : ByteArray} {k : Nat} {f : Fl} (hf : l[k]? = some f) (hn : f.name = nm) : (get l nm).isSome = true := by
  cases hg : get l nm with
  | some g => rfl
  | none =>
    have := List.find?_eq_none.1 hg f (List.mem_of_getElem? hf)
    simp [hn] at this

/-- The list of files, not empty. -/
theorem Dk.list {w : World} {pb : Nat} {d : Dm} {fv : Value} {vs : List Value} {S : List Nat} (h : Dk w pb d fv vs S) (h0 : 0 < d.files.length) :
    ∃ fb cap, fv = .slice (some ⟨fb, 0, none⟩) d.files.length cap ∧ d.files.length ≤ cap ∧ cap ≤ maxLen ∧ (∀ i f v, d.files[i]? = some f → vs[i]? = some v →
      w.cell? ⟨fb, i * 3, none⟩ = some (.string f.name) ∧ w.cell? ⟨fb, i * 3 + 1, none⟩ = some v ∧ w.cell? ⟨fb, i * 3 + 2, none⟩ = some (.int .i64 f.synced)) ∧ fb ∈ S ∧ fb ≠ pb ∧ (∀ k ∈ vs.flatMap own, k ≠ fb ∧ k ≠ pb) ∧ (∀ k, w.frozen? ⟨fb, k, none⟩ = false) := by
  have hw := h.whole
  have hn := h.once
  rw [hw, List.nodup_cons] at hn
  rcases h.rows.2 with ⟨_, h2⟩ | ⟨fb, cap, cur, rfl, _, hg, hc, hm, hs, ht⟩
  · omega
  · simp only [own, Value.ownBlock, Option.toList, List.mem_cons, not_or, List.cons_append, List.nil_append, List.nodup_cons] at hn
    refine ⟨fb, cap, rfl, hc, hm, ?_, by rw [hw]; simp [own, Value.ownBlock], fun e => hn.1.1 e.symm, fun k hk => ⟨fun e => hn.2.1 (e ▸ hk), fun e => hn.1.2 (e ▸ hk)⟩, fun k => frozen_of_row w fb k _ 76 hg⟩
    intro i f v hf hv
    have hi := (List.getElem?_eq_some_iff.1 hf).1
    obtain ⟨a, b, c⟩ := fcells_at d.files vs i f v hf hv
    rw [← ht] at a b c
    rw [List.getElem?_take, if_pos (by omega)] at a b c
    exact ⟨by rw [cell_of_row w fb _ cur 76 (0, 0) hg, ← Array.getElem?_toList]; exact a, by rw [cell_of_row w fb _ cur 76 (0, 0) hg, ← Array.getElem?_toList]; exact b, by rw [cell_of_row w fb _ cur 76 (0, 0) hg, ← Array.getElem?_toList]; exact c⟩

theorem Dk.form {w : World} {pb : Nat} {d : Dm} {fv : Value} {vs : List Value} {S : List Nat} (h : Dk w pb d fv vs S) : ∃ ao cap, fv = .slice ao d.files.length cap ∧ d.files.length ≤ cap ∧ cap ≤ maxLen := by
  rcases h.rows.2 with ⟨rfl, h2⟩ | ⟨fb, cap, cur, rfl, _, hg, hc, hm, hs, ht⟩
  · exact ⟨none, 0, by rw [h2], by omega, by unfold maxLen; omega⟩
  · exact ⟨_, cap, rfl, hc, hm⟩

theorem ret_find {a b : Nat} {x y : Bool} (h : a = b) (k : x = y) : Ending.returned (.tuple #[.int .i64 a, .bool x]) = .returned (.tuple #[.int .i64 b, .bool y]) := by rw [h, k]

set_option maxHeartbeats 1000000 in
theorem find_any (pb : Nat) (d : Dm) (fv : Value) (vs : List Value) (S : List Nat) (nm : ByteArray) (w : World) (h : Dk w pb d fv vs S) (hn : d.files.length ≤ 1000000) :
    Calls Tryd.prog 57 #[.pointer (some ⟨pb, 0, none⟩), .string nm] w fun e w' => e = .returned (.tuple #[.int .i64 (lo d.files nm).length, .bool (get d.files nm).isSome]) ∧ Below w.heap.size w w' := by
  have c1 := h.c1
  by_cases h0 : 0 < d.files.length
  · obtain ⟨fb, cap, rfl, hc1, hc2, hcell, _⟩ := h.list h0
    have hcl := fun (i : Nat) (f : Fl) (hf : d.files[i]? = some f) => let ⟨v, hv, _⟩ := h.datas.at i f hf; (hcell i f v hf hv).1
    have hR : Hid (Rising d.files) := h.ok.rise
    clear hcell h
    generalize hl : d.files = l at *
    generalize hN : l.length = n at *
    go_enter Tryd.func57, Tryd.ntmps57
    go_wp2
    go_quiet (fail)
    go_wp2
    go_loop [6, 7] (fun lw hg => ∃ (a b : Nat), a ≤ b ∧ b ≤ n ∧ lw = .int .i64 a ∧ hg = .int .i64 b ∧ Hid (∀ j f, j < a → l[j]? = some f → nlt f.name nm = true) ∧ Hid (∀ j f, b ≤ j → l[j]? = some f → nlt f.name nm = false)) (fun a b => ((intOf b) - (intOf a)).toNat)
    case atStart => exact ⟨0, n, by omega, by omega, rfl, rfl, fun j f hj => (by omega), fun j f hj hf => by have := (List.getElem?_eq_some_iff.1 hf).1; omega⟩
    case round =>
      obtain ⟨a, b, hab, hbn, rfl, rfl, A, B⟩ := hrel
      by_cases hlt : a < b
      · obtain ⟨f, hf⟩ : ∃ f, l[(a + b) / 2]? = some f := ⟨l[(a + b) / 2]'(by omega), List.getElem?_eq_getElem _⟩
        have cm := hcl _ f hf
        have hR := hR.out
        have hf' : Hid (l[(a + b) / 2]? = some f) := hf
        clear hcl hf
        cases hq : nlt f.name nm with
        | true =>
          have hq' : Op.bytesLess f.name.toList nm.toList = true := hq
          have A' : Hid (∀ j g, j < (a + b) / 2 + 1 → l[j]? = some g → nlt g.name nm = true) := by
            intro j g hj hg
            by_cases e : j = (a + b) / 2
            · subst e; rw [hf'.out] at hg; simp at hg; subst hg; exact hq
            · obtain ⟨hj', rfl⟩ := List.getElem?_eq_some_iff.1 hg
              obtain ⟨hm', hm''⟩ := List.getElem?_eq_some_iff.1 hf'.out
              have := List.pairwise_iff_getElem.1 hR j ((a + b) / 2) hj' hm' (by omega)
              rw [hm''] at this
              exact nlt_trans this hq
          clear hq hR A
          go_wp2
          go_round
          case rel => exact ⟨(a + b) / 2 + 1, b, by omega, by omega, by go_num, rfl, A', B⟩
          case measure => simp [intOf]; omega
        | false =>
          have hq' : Op.bytesLess f.name.toList nm.toList = false := hq
          have B' : Hid (∀ j g, (a + b) / 2 ≤ j → l[j]? = some g → nlt g.name nm = false) := by
            intro j g hj hg
            by_cases e : j = (a + b) / 2
            · subst e; rw [hf'.out] at hg; simp at hg; subst hg; exact hq
            · obtain ⟨hj', rfl⟩ := List.getElem?_eq_some_iff.1 hg
              obtain ⟨hm', hm''⟩ := List.getElem?_eq_some_iff.1 hf'.out
              have := List.pairwise_iff_getElem.1 hR ((a + b) / 2) j hm' hj' (by omega)
              rw [hm''] at this
              cases hz : nlt l[j].name nm with
              | false => rfl
              | true => rw [nlt_trans this hz] at hq; cases hq
          clear hq hR B
          go_wp2
          go_round
          case rel => exact ⟨a, (a + b) / 2, by omega, by omega, rfl, by go_num, A, B'⟩
          case measure => simp [intOf]; omega
      · obtain rfl : a = b := by omega
        have hL := lo_length (l := l) (nm := nm) (k := a) (by omega) A.out B.out
        have hL' : Hid ((lo l nm).length = a) := hL
        clear hL
        by_cases hlast : a < n
        · obtain ⟨f, hf⟩ : ∃ f, l[a]? = some f := ⟨l[a]'(by omega), List.getElem?_eq_getElem _⟩
          have cm := hcl _ f hf
          have hf' : Hid (l[a]? = some f) := hf
          clear hcl hf
          by_cases hq : f.name = nm
          · have hg : Hid ((get l nm).isSome = true) := get_some hf'.out hq
            have hq' : (f.name.toList == nm.toList) = true := by simp [hq]
            have hi : (a : Int) < (n : Int) := by omega
            clear hq
            go_wp2
            go_quiet (fail)
            go_wp2
            go_ret2
            exact ⟨ret_find hL'.out.symm hg.out.symm, below_drewN (below_drewN (Below.refl _ _) _) _⟩
          · have hg : Hid ((get l nm).isSome = false) := by show _ = _; rw [get_none hR.out (by rw [hL'.out]; exact hf'.out) hq]; rfl
            have hq' : (f.name.toList == nm.toList) = false := by
              cases hz : (f.name.toList == nm.toList) with
              | false => rfl
              | true => exact absurd (toList_inj (by simpa using hz)) hq
            have hi : (a : Int) < (n : Int) := by omega
            clear hq
            go_wp2
            go_quiet (fail)
            go_wp2
            go_ret2
            exact ⟨ret_find hL'.out.symm hg.out.symm, below_drewN (below_drewN (Below.refl _ _) _) _⟩
        · have hg : Hid ((get l nm).isSome = false) := by show _ = _; rw [get_end hR.out (by rw [hL'.out]; omega)]; rfl
          have hi : decide ((a : Int) < (n : Int)) = false := by simp; omega
          clear hcl
          go_wp2
          go_quiet (fail)
          go_wp2
          go_ret2
          exact ⟨ret_find hL'.out.symm hg.out.symm, below_drewN (below_drewN (Below.refl _ _) _) _⟩
  · have e0 : d.files = [] := List.eq_nil_of_length_eq_zero (by omega)
    obtain ⟨ao, cap, hfv, _⟩ := h.form
    rw [e0] at hfv
    subst hfv
    rw [e0]
    have g1 : Hid ((lo [] nm).length = 0 ∧ (get [] nm).isSome = false) := ⟨rfl, rfl⟩
    clear h e0
    have hi : decide ((0 : Int) < ((([] : List Fl).length : Nat) : Int)) = false := by simp
    go_enter Tryd.func57, Tryd.ntmps57
    go_wp2
    go_quiet (fail)
    go_wp2
    refine wp_loop_rounds 1 ?_
    rw [rounds_succ]
    go_wp2
    go_quiet (fail)
    go_wp2
    go_ret2
    exact ⟨rfl, below_drewN (below_drewN (Below.refl _ _) _) _⟩

end Go.Proofs.YtgleblfkcdkaeaaDoor
