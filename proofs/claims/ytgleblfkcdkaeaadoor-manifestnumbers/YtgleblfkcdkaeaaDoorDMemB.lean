/- A disk in memory: one of its files is turned, goes, or comes. -/
import Derived.Test.YtgleblfkcdkaeaaDoorDWalksC
namespace Go.Proofs.YtgleblfkcdkaeaaDoor
open Go.RowKit

theorem own_set {w : World} {base : Nat} {e : TypeId} {size g n cap : Nat} {xs : List Value} (h : w.ownsRow base e size (.slice (some ⟨g, 0, none⟩) n cap) n xs) (j : Nat) (u : Value) :
    (w.setCell ⟨g, j, none⟩ u).ownsRow base e size (.slice (some ⟨g, 0, none⟩) n cap) n (xs.set j u) := by
  refine ⟨by simpa using h.1, .inr ?_⟩
  rcases h.2 with ⟨h', _⟩ | ⟨g', cap', cur, h', hb, hg, hn, hm, hs, ht⟩
  · cases h'
  · simp only [Value.slice.injEq, Option.some.injEq, Addr.mk.injEq, and_true, true_and] at h'
    obtain ⟨rfl, rfl⟩ := h'
    refine ⟨g, cap, _, rfl, hb, heap_setCell_same w g j _ e _ hg, hn, hm, by simpa using hs, ?_⟩
    rw [Array.toList_setIfInBounds, ← ht, List.take_set]

theorem fcells_set1 : ∀ (l : List Fl) (vs : List Value) (i : Nat) (v : Value), vs.length = l.length → (fcells l vs).set (i * 3 + 1) v = fcells l (vs.set i v)
  | [], [], i, v, _ => by simp [fcells]
  | f :: l, u :: vs, 0, v, _ => by simp [fcells]
  | f :: l, u :: vs, i + 1, v, h => by
    rw [show (i + 1) * 3 + 1 = (i * 3 + 1) + 1 + 1 + 1 by omega]
    simp [fcells, fcells_set1 l vs i v (by simpa using h)]
theorem fcells_set2 : ∀ (l : List Fl) (vs : List Value) (i : Nat) (f : Fl) (g : Fl), vs.length = l.length → l[i]? = some f → g.name = f.name → (fcells l vs).set (i * 3 + 2) (.int .i64 g.synced) = fcells (l.set i g) vs
  | f :: l, u :: vs, 0, f', g, _, hf, hg => by simp at hf; subst hf; simp [fcells, hg]
  | f :: l, u :: vs, i + 1, f', g, h, hf, hg => by
    rw [show (i + 1) * 3 + 2 = (i * 3 + 2) + 1 + 1 + 1 by omega]
    simp [fcells, fcells_set2 l vs i f' g (by simpa using h) (by simpa using hf) hg]
/-- A file's bytes are of no matter to its three cells. -/
theorem fcells_same : ∀ (l : List Fl) (vs : List Value) (i : Nat) (f g : Fl), l[i]? = some f → g.name = f.name → g.synced = f.synced → fcells (l.set i g) vs = fcells l vs
  | f :: l, [], i, f', g, _, _, _ => by cases i <;> simp [fcells]
  | f :: l, u :: vs, 0, f', g, hf, h1, h2 => by simp at hf; subst hf; simp [fcells, h1, h2]
  | f :: l, u :: vs, i + 1, f', g, hf, h1, h2 => by
    simp [fcells, fcells_same l vs i f' g (by simpa using hf) h1 h2]

theorem Datas.set {w : World} : ∀ {l : List Fl} {vs : List Value} (i : Nat) {g : Fl} {v : Value}, Datas w l vs → w.ownsRow 0 5 1 v g.data.length (g.data.map (Value.int .u8)) → Datas w (l.set i g) (vs.set i v)
  | [], [], i, _, _, _, _ => by simp [Datas]
  | _ :: _, _ :: _, 0, _, _, h, k => ⟨k, h.2⟩
  | _ :: _, _ :: _, i + 1, _, _, h, k => ⟨h.1, Datas.set i h.2 k⟩
  | [], _ :: _, _, _, _, h, _ => h.elim
  | _ :: _, [], _, _, _, h, _ => h.elim

/-- The blocks of all but one. -/
theorem flat_perm : ∀ (vs : List Value) (i : Nat) (v : Value), vs[i]? = some v → (vs.flatMap own).Perm (own v ++ (vs.eraseIdx i).flatMap own)
  | u :: vs, 0, v, h => by simp at h; subst h; simp
  | u :: vs, i + 1, v, h => by
    have := flat_perm vs i v (by simpa using h)
    simp only [List.flatMap_cons, List.eraseIdx_cons_succ]
    refine (List.Perm.append_left _ this).trans ?_
    rw [← List.append_assoc, ← List.append_assoc]
    exact List.Perm.append_right _ List.perm_append_comm

theorem own_nodup (v : Value) : (own v).Nodup := by unfold own; cases v.ownBlock <;> simp

theorem nodup_turn {A X Y R : List Nat} (h : (A ++ (X ++ R)).Nodup) (hY : Y.Nodup) (hs : ∀ k ∈ Y, k ∈ X ∨ k ∉ A ++ (X ++ R)) : (A ++ (Y ++ R)).Nodup := by
  rw [List.nodup_append] at h ⊢
  obtain ⟨h1, h2, h3⟩ := h
  rw [List.nodup_append] at h2 ⊢
  obtain ⟨h4, h5, h6⟩ := h2
  refine ⟨h1, ⟨hY, h5, ?_⟩, ?_⟩
  · intro a ha b hb e
    subst e
    rcases hs a ha with h | h
    · exact h6 a h a hb rfl
    · exact h (by simp [hb])
  · intro a ha b hb e
    subst e
    rcases List.mem_append.1 hb with hb | hb
    · rcases hs a hb with h | h
      · exact h3 a ha a (by simp [h]) rfl
      · exact h (by simp [ha])
    · exact h3 a ha a (by simp [hb]) rfl

theorem nodup_set {A : List Nat} {vs : List Value} {i : Nat} {v v' : Value} (h : (A ++ vs.flatMap own).Nodup) (hv : vs[i]? = some v) (hs : ∀ k ∈ own v', k ∈ own v ∨ k ∉ A ++ vs.flatMap own) : (A ++ (vs.set i v').flatMap own).Nodup := by
  have hi := (List.getElem?_eq_some_iff.1 hv).1
  have p1 := flat_perm vs i v hv
  have p2 := flat_perm (vs.set i v') i v' (by simp [hi])
  rw [List.eraseIdx_set_eq] at p2
  rw [(List.Perm.append_left A p1).nodup_iff] at h
  rw [(List.Perm.append_left A p2).nodup_iff]
  refine nodup_turn h (own_nodup _) (fun k hk => (hs k hk).imp_right (fun hn e => hn ?_))
  rcases List.mem_append.1 e with e | e
  · exact List.mem_append_left _ e
  · exact List.mem_append_right _ (p1.mem_iff.2 e)

theorem mem_flat_set {vs : List Value} {i k : Nat} {v' : Value} (h : k ∈ (vs.set i v').flatMap own) : k ∈ own v' ∨ k ∈ vs.flatMap own := by
  obtain ⟨u, hu, hk⟩ := List.mem_flatMap.1 h
  rcases List.mem_or_eq_of_mem_set hu with hu | rfl
  · exact .inr (List.mem_flatMap.2 ⟨u, hu, hk⟩)
  · exact .inl hk

theorem mem_flat_at {vs : List Value} {i k : Nat} {v : Value} (hv : vs[i]? = some v) (h : k ∈ own v) : k ∈ vs.flatMap own := List.mem_flatMap.2 ⟨v, List.mem_of_getElem? hv, h⟩

/-- The others' blocks are not this one's. -/
theorem flat_other {A : List Nat} {vs : List Value} {i : Nat} {v : Value} (h : (A ++ vs.flatMap own).Nodup) (hv : vs[i]? = some v) : ∀ k ∈ (vs.eraseIdx i).flatMap own, k ∉ own v := by
  rw [(List.Perm.append_left A (flat_perm vs i v hv)).nodup_iff, List.nodup_append, List.nodup_append] at h
  exact fun k hk hv => h.2.1.2.2 k hv k hk rfl

theorem Datas.split {w : World} {l : List Fl} {vs : List Value} (h : Datas w l vs) (i : Nat) : Datas w (l.eraseIdx i) (vs.eraseIdx i) := by
  rw [List.eraseIdx_eq_take_drop_succ, List.eraseIdx_eq_take_drop_succ]
  exact datas_append (h.take i) (h.drop (i + 1))
theorem Datas.fill {w : World} : ∀ {l : List Fl} {vs : List Value} (i : Nat) {g : Fl} {v : Value}, vs.length = l.length → i < l.length → Datas w (l.eraseIdx i) (vs.eraseIdx i) → w.ownsRow 0 5 1 v g.data.length (g.data.map (Value.int .u8)) → Datas w (l.set i g) (vs.set i v)
  | _ :: _, _ :: _, 0, _, _, _, _, h, k => ⟨k, h⟩
  | _ :: _, _ :: _, i + 1, _, _, hl, hi, h, k => ⟨h.1, Datas.fill i (by simpa using hl) (by simpa using hi) h.2 k⟩

/-- One file is turned: its bytes, how many are synced; the row of all files with it. -/
theorem Dk.turned {w w' : World} {pb : Nat} {d : Dm} {fv : Value} {vs : List Value} {S : List Nat} (h : Dk w pb d fv vs S) (i : Nat) {f g : Fl} {v v' : Value} (hf : d.files[i]? = some f) (hv : vs[i]? = some v) (hok : Dm.Ok { d with files := d.files.set i g })
    (ho : Off (own fv ++ own v) w w') (hr : w'.ownsRow 0 76 3 fv d.files.length (fcells (d.files.set i g) (vs.set i v'))) (hd : w'.ownsRow 0 5 1 v' g.data.length (g.data.map (Value.int .u8))) (hnew : ∀ k ∈ own v', k ∈ own v ∨ w.heap.size ≤ k) :
    ∃ S', Dk w' pb { d with files := d.files.set i g } fv (vs.set i v') S' ∧ Step S S' w w' := by
  have hw := h.whole
  have hn := h.once
  have hlt := h.lt
  have hi := (List.getElem?_eq_some_iff.1 hf).1
  rw [hw, ← List.cons_append] at hn
  have hno := flat_other hn hv
  have hn2 := nodup_set (v' := v') hn hv (fun k hk => (hnew k hk).imp_right (fun hk e => by have := hlt k (by rw [hw, ← List.cons_append]; exact e); omega))
  rw [List.nodup_append, List.nodup_cons] at hn
  refine ⟨_, ⟨hok, ?_, by simpa using hr, ?_, rfl, by rw [← List.cons_append]; exact hn2⟩, ⟨ho.mono ?_, ?_⟩⟩
  · rw [ho.block pb (hlt pb h.mem) ?_]; exact h.head
    intro e
    rcases List.mem_append.1 e with e | e
    · exact hn.1.1 e
    · exact hn.2.2 pb (by simp) pb (mem_flat_at hv e) rfl
  · refine Datas.fill i h.datas.len hi ((h.datas.split i).off ho ?_) hd
    intro k hk e
    rcases List.mem_append.1 e with e | e
    · exact hn.2.2 k (by simp [e]) k (by rw [(flat_perm vs i v hv).mem_iff]; simp [hk]) rfl
    · exact hno k hk e
  · intro k hk
    rw [hw]
    rcases List.mem_append.1 hk with e | e
    · simp [e]
    · exact List.mem_cons_of_mem _ (List.mem_append_right _ (mem_flat_at hv e))
  · intro k hk
    rcases List.mem_cons.1 hk with rfl | hk
    · exact .inl h.mem
    · rcases List.mem_append.1 hk with e | e
      · exact .inl (by rw [hw]; simp [e])
      · rcases mem_flat_set e with e | e
        · exact (hnew k e).imp_left (fun e => by rw [hw]; exact List.mem_cons_of_mem _ (List.mem_append_right _ (mem_flat_at hv e)))
        · exact .inl (by rw [hw]; exact List.mem_cons_of_mem _ (List.mem_append_right _ e))

theorem own_len (bo : Option Addr) (n m c e : Nat) : own (.slice bo n c) = own (.slice bo m e) := by cases bo <;> rfl

theorem Dk.fileAt {w : World} {pb : Nat} {d : Dm} {fb n cap : Nat} {vs : List Value} {S : List Nat} (h : Dk w pb d (.slice (some ⟨fb, 0, none⟩) n cap) vs S) {i : Nat} {f : Fl} {v : Value} (hf : d.files[i]? = some f) (hv : vs[i]? = some v) :
    w.cell? ⟨fb, i * 3, none⟩ = some (.string f.name) ∧ w.cell? ⟨fb, i * 3 + 1, none⟩ = some v ∧ w.cell? ⟨fb, i * 3 + 2, none⟩ = some (.int .i64 f.synced) ∧ (∀ k, w.frozen? ⟨fb, k, none⟩ = false) ∧ w.ownsRow 0 5 1 v f.data.length (f.data.map (Value.int .u8)) := by
  have hi := (List.getElem?_eq_some_iff.1 hf).1
  obtain ⟨fb', cap', hfv, _, _, hcell, _, _, _, hz⟩ := h.list (by omega)
  simp only [Value.slice.injEq, Option.some.injEq, Addr.mk.injEq, and_true] at hfv
  obtain ⟨rfl, _, rfl⟩ := hfv
  obtain ⟨a, b, c⟩ := hcell i f v hf hv
  obtain ⟨v', hv', hr⟩ := h.datas.at i f hf
  rw [hv] at hv'
  simp at hv'
  subst hv'
  exact ⟨a, b, c, hz, hr⟩

theorem own_take {w : World} {bo : Option Addr} {dl dc : Nat} {xs : List Int} (h : w.ownsRow 0 5 1 (.slice bo dl dc) dl (xs.map (Value.int .u8))) (m : Nat) (hm : m ≤ dl) (hx : xs.length = dl) : w.ownsRow 0 5 1 (.slice bo m dc) m ((xs.take m).map (Value.int .u8)) := by
  refine ⟨by simp; omega, ?_⟩
  rcases h.2 with ⟨h', h0⟩ | ⟨g, cap, cur, h', hb, hg, hn, hmx, hs, ht⟩
  · cases h'; exact .inl ⟨by congr 1; omega, by omega⟩
  · simp only [Value.slice.injEq] at h'
    obtain ⟨rfl, _, rfl⟩ := h'
    refine .inr ⟨g, dc, cur, rfl, hb, hg, by omega, hmx, hs, ?_⟩
    rw [List.map_take, ← ht, List.take_take]
    congr 1; omega

/-- A store into the row of files leaves the bytes. -/
theorem own_beside {w : World} {v : Value} {n : Nat} {xs : List Value} {fb j : Nat} {u : Value} (h : w.ownsRow 0 5 1 v n xs) (hn : fb ∉ own v) : (w.setCell ⟨fb, j, none⟩ u).ownsRow 0 5 1 v n xs :=
  rows_off h ((Off.refl [fb] w).setCell (p := ⟨fb, j, none⟩) (by simp) u) (fun k hk e => by simp at e; subst e; exact hn hk)

theorem Dk.not_own {w : World} {pb : Nat} {d : Dm} {fb n cap : Nat} {vs : List Value} {S : List Nat} (h : Dk w pb d (.slice (some ⟨fb, 0, none⟩) n cap) vs S) {i : Nat} {v : Value} (hv : vs[i]? = some v) : fb ∉ own v := by
  have hn := h.once
  rw [h.whole, List.nodup_cons, List.nodup_append] at hn
  exact fun e => hn.2.2.2 fb (by simp [own, Value.ownBlock]) fb (mem_flat_at hv e) rfl

/-- The data's place and the number of synced bytes are written. -/
theorem Dk.set12 {w : World} {pb : Nat} {d : Dm} {fb n cap : Nat} {vs : List Value} {S : List Nat} (h : Dk w pb d (.slice (some ⟨fb, 0, none⟩) n cap) vs S) (i : Nat) {f : Fl} (g : Fl) {v v' : Value} (hf : d.files[i]? = some f) (hv : vs[i]? = some v) (hgn : g.name = f.name) (hok : Dm.Ok { d with files := d.files.set i g })
    (hd : w.ownsRow 0 5 1 v' g.data.length (g.data.map (Value.int .u8))) (hnew : ∀ k ∈ own v', k ∈ own v) :
    ∃ S', Dk ((w.setCell ⟨fb, i * 3 + 1, none⟩ v').setCell ⟨fb, i * 3 + 2, none⟩ (.int .i64 g.synced)) pb { d with files := d.files.set i g } (.slice (some ⟨fb, 0, none⟩) n cap) (vs.set i v') S' ∧ Step S S' w ((w.setCell ⟨fb, i * 3 + 1, none⟩ v').setCell ⟨fb, i * 3 + 2, none⟩ (.int .i64 g.synced)) := by
  have hnf := h.not_own hv
  have hlen := h.datas.len
  have hfn : n = d.files.length := by
    rcases h.rows.2 with ⟨h', _⟩ | ⟨_, _, _, h', _⟩
    · cases h'
    · simp at h'; exact h'.2.1
  subst hfn
  refine h.turned i hf hv hok (((Off.refl _ w).setCell (p := ⟨fb, i * 3 + 1, none⟩) (by simp [own, Value.ownBlock]) v').setCell (p := ⟨fb, i * 3 + 2, none⟩) (by simp [own, Value.ownBlock]) _) ?_ ?_ (fun k hk => .inl (hnew k hk))
  · have := own_set (own_set h.rows (i * 3 + 1) v') (i * 3 + 2) (.int .i64 g.synced)
    rwa [fcells_set1 _ _ _ _ hlen, fcells_set2 _ _ _ f g (by simp [hlen]) hf hgn] at this
  · exact own_beside (own_beside hd (fun e => hnf (hnew _ e))) (fun e => hnf (hnew _ e))
theorem Dk.set2 {w : World} {pb : Nat} {d : Dm} {fb n cap : Nat} {vs : List Value} {S : List Nat} (h : Dk w pb d (.slice (some ⟨fb, 0, none⟩) n cap) vs S) (i : Nat) {f : Fl} (g : Fl) {v : Value} (hf : d.files[i]? = some f) (hv : vs[i]? = some v) (hgn : g.name = f.name) (hok : Dm.Ok { d with files := d.files.set i g })
    (hd : w.ownsRow 0 5 1 v g.data.length (g.data.map (Value.int .u8))) :
    ∃ S', Dk (w.setCell ⟨fb, i * 3 + 2, none⟩ (.int .i64 g.synced)) pb { d with files := d.files.set i g } (.slice (some ⟨fb, 0, none⟩) n cap) vs S' ∧ Step S S' w (w.setCell ⟨fb, i * 3 + 2, none⟩ (.int .i64 g.synced)) := by
  have hnf := h.not_own hv
  have hlen := h.datas.len
  have hfn : n = d.files.length := by
    rcases h.rows.2 with ⟨h', _⟩ | ⟨_, _, _, h', _⟩
    · cases h'
    · simp at h'; exact h'.2.1
  subst hfn
  have hvs : vs.set i v = vs := by
    obtain ⟨hi, rfl⟩ := List.getElem?_eq_some_iff.1 hv
    simp
  have := h.turned (v' := v) (w' := w.setCell ⟨fb, i * 3 + 2, none⟩ (.int .i64 g.synced)) i hf hv hok ((Off.refl _ w).setCell (p := ⟨fb, i * 3 + 2, none⟩) (by simp [own, Value.ownBlock]) _) ?_ (own_beside hd hnf) (fun k hk => .inl hk)
  · rwa [hvs] at this
  · have := own_set h.rows (i * 3 + 2) (.int .i64 g.synced)
    rw [hvs]
    rwa [fcells_set2 _ _ _ f g hlen hf hgn] at this

end Go.Proofs.YtgleblfkcdkaeaaDoor
