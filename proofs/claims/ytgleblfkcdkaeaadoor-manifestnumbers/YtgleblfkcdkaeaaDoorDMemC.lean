/- A disk in memory: a file is laid at its place, comes in, or goes. -/
import Derived.Test.YtgleblfkcdkaeaaDoorDWalksJ
namespace Go.Proofs.YtgleblfkcdkaeaaDoor
open Go.RowKit Go.Sort

theorem own_one {w : World} {v : Value} {n : Nat} {xs : List Value} (h : w.ownsRow 0 5 1 v n xs) : v.oneCell' = true := by
  obtain ⟨ao, cap, rfl⟩ := own_form h
  rfl
theorem fcells_one {w : World} : ∀ (l : List Fl) (vs : List Value), Datas w l vs → ∀ u ∈ fcells l vs, u.oneCell' = true
  | [], [], _, u, hu => by simp [fcells] at hu
  | f :: l, v :: vs, h, u, hu => by
    simp only [fcells, List.mem_cons] at hu
    rcases hu with rfl | rfl | rfl | hu
    · rfl
    · exact own_one h.1
    · rfl
    · exact fcells_one l vs h.2 u hu
  | [], _ :: _, h, _, _ => h.elim
  | _ :: _, [], h, _, _ => h.elim

theorem insert_any (v : Value) (n i : Nat) (xs nw : List Value) (vb : Nat) (w : World) (hown : w.ownsRow 0 76 3 v n xs) (hi : i ≤ n) (hx1 : ∀ u ∈ xs, u.oneCell' = true) (hnl : nw.length = 3) (h1 : ∀ u ∈ nw, u.oneCell' = true) (hvb : Blk w vb nw) (hne : vb ∉ own v) (hn : n ≤ 1000000) :
    Calls Tryd.prog 64 #[v, .int .i64 i, .slice (some ⟨vb, 0, none⟩) 1 1] w fun e w' => ∃ ao cap, e = .returned (.slice ao (n + 1) cap) ∧ w'.ownsRow 0 76 3 (.slice ao (n + 1) cap) (n + 1) (xs.take (i * 3) ++ nw ++ xs.drop (i * 3)) ∧ Off (own v) w w' ∧ (∀ k ∈ own (.slice ao (n + 1) cap), k ∈ own v ∨ w.heap.size ≤ k) := by
  have hxl := hown.1
  by_cases hin : i = n
  · subst hin
    refine (insert_end v i xs nw vb w hown hnl h1 hvb hn).mono ?_
    rintro e w' ⟨v', rfl, h2, h3, h4⟩
    rw [List.take_of_length_le (by omega), List.drop_eq_nil_of_le (by omega), List.append_nil]
    obtain ⟨ao, cap, rfl⟩ := own_form h2
    exact ⟨ao, cap, rfl, h2, h3, h4⟩
  · rcases hown.2 with ⟨_, h0⟩ | ⟨fb, cap, cur, rfl, _, hg, hc, _⟩
    · omega
    · by_cases hroom : n + 1 ≤ cap
      · refine (insert_shift fb n cap i xs nw vb w hown (by omega) hroom hx1 hnl h1 hvb (by simpa [own, Value.ownBlock] using hne) hn).mono ?_
        rintro e w' ⟨v', rfl, h2, h3, h4⟩
        obtain ⟨ao, cap, rfl⟩ := own_form h2
        exact ⟨ao, cap, rfl, h2, h3, h4⟩
      · obtain rfl : cap = n := by omega
        refine (insert_grow fb cap i xs nw vb w hown (by omega) hx1 hnl h1 hvb hn).mono ?_
        rintro e w' ⟨v', rfl, h2, h3, h4⟩
        obtain ⟨ao, c, rfl⟩ := own_form h2
        exact ⟨ao, c, rfl, h2, .of_below h3, fun k hk => .inr (h4 k hk)⟩

theorem fcells_set0 : ∀ (l : List Fl) (vs : List Value) (i : Nat) (f : Fl), l[i]? = some f → vs.length = l.length → (fcells l vs).set (i * 3) (.string f.name) = fcells l vs
  | f :: l, u :: vs, 0, f', hf, _ => by simp at hf; subst hf; simp [fcells]
  | f :: l, u :: vs, i + 1, f', hf, h => by
    rw [show (i + 1) * 3 = (i * 3) + 1 + 1 + 1 by omega]
    simp [fcells, fcells_set0 l vs i f' (by simpa using hf) (by simpa using h)]

theorem fcells_take (l : List Fl) (vs : List Value) (i : Nat) (h : vs.length = l.length) (hi : i ≤ l.length) : (fcells l vs).take (i * 3) = fcells (l.take i) (vs.take i) := by
  conv => lhs; rw [← List.take_append_drop i l, ← List.take_append_drop i vs, fcells_append _ _ _ _ (by simp [h])]
  rw [List.take_append_of_le_length (by rw [fcells_length _ _ (by simp [h])]; simp; omega), List.take_of_length_le (by rw [fcells_length _ _ (by simp [h])]; simp; omega)]
theorem fcells_drop (l : List Fl) (vs : List Value) (i : Nat) (h : vs.length = l.length) (hi : i ≤ l.length) : (fcells l vs).drop (i * 3) = fcells (l.drop i) (vs.drop i) := by
  conv => lhs; rw [← List.take_append_drop i l, ← List.take_append_drop i vs, fcells_append _ _ _ _ (by simp [h])]
  rw [List.drop_append_of_le_length (by rw [fcells_length _ _ (by simp [h])]; simp; omega), List.drop_eq_nil_of_le (by rw [fcells_length _ _ (by simp [h])]; simp; omega), List.nil_append]

/-- The disk's own blocks are turned to others: rows, data, and the place of the rows. -/
theorem Dk.remade {w w' : World} {pb : Nat} {d d' : Dm} {fv fv' : Value} {vs vs' : List Value} {S X : List Nat} (h : Dk w pb d fv vs S) (hok : d'.Ok) (ho : Off S w w')
    (hh : w'.heap[pb]? = some (.cells #[.int .i64 d'.limit, fv', .int .i64 d'.left, .bool d'.down] 73 (0, 0))) (hr : w'.ownsRow 0 76 3 fv' d'.files.length (fcells d'.files vs')) (hd : Datas w' d'.files vs')
    (hn : (pb :: (own fv' ++ vs'.flatMap own)).Nodup) (hs : ∀ k ∈ own fv' ++ vs'.flatMap own, k ∈ S ∨ k ∈ X ∨ w.heap.size ≤ k) :
    ∃ S', Dk w' pb d' fv' vs' S' ∧ Step (S ++ X) S' w w' := by
  refine ⟨_, ⟨hok, hh, hr, hd, rfl, hn⟩, ⟨ho.mono (fun k hk => List.mem_append_left _ hk), fun k hk => ?_⟩⟩
  rcases List.mem_cons.1 hk with rfl | hk
  · exact .inl (List.mem_append_left _ h.mem)
  · rcases hs k hk with e | e | e
    · exact .inl (List.mem_append_left _ e)
    · exact .inl (List.mem_append_right _ e)
    · exact .inr e

/-- A file is laid over another one. -/
theorem Dk.laid {w : World} {pb : Nat} {d : Dm} {fb n cap : Nat} {vs : List Value} {S : List Nat} (h : Dk w pb d (.slice (some ⟨fb, 0, none⟩) n cap) vs S) (i : Nat) {f g : Fl} {v v' : Value} (hf : d.files[i]? = some f) (hv : vs[i]? = some v) (hgn : g.name = f.name) (hok : Dm.Ok { d with files := d.files.set i g })
    (hd : w.ownsRow 0 5 1 v' g.data.length (g.data.map (Value.int .u8))) (hnew : ∀ k ∈ own v', k ∉ S) :
    ∃ S', Dk (((w.setCell ⟨fb, i * 3, none⟩ (.string g.name)).setCell ⟨fb, i * 3 + 1, none⟩ v').setCell ⟨fb, i * 3 + 2, none⟩ (.int .i64 g.synced)) pb { d with files := d.files.set i g } (.slice (some ⟨fb, 0, none⟩) n cap) (vs.set i v') S' ∧ Step (S ++ own v') S' w (((w.setCell ⟨fb, i * 3, none⟩ (.string g.name)).setCell ⟨fb, i * 3 + 1, none⟩ v').setCell ⟨fb, i * 3 + 2, none⟩ (.int .i64 g.synced)) := by
  have hlen := h.datas.len
  have hw := h.whole
  have hn := h.once
  have hlt := h.lt
  have hi := (List.getElem?_eq_some_iff.1 hf).1
  have hfn : n = d.files.length := by
    rcases h.rows.2 with ⟨h', _⟩ | ⟨_, _, _, h', _⟩
    · cases h'
    · simp at h'; exact h'.2.1
  subst hfn
  have hfbS : fb ∈ S := by rw [hw]; simp [own, Value.ownBlock]
  have ho : Off [fb] w (((w.setCell ⟨fb, i * 3, none⟩ (.string g.name)).setCell ⟨fb, i * 3 + 1, none⟩ v').setCell ⟨fb, i * 3 + 2, none⟩ (.int .i64 g.synced)) :=
    (((Off.refl _ w).setCell (p := ⟨fb, i * 3, none⟩) (by simp) _).setCell (p := ⟨fb, i * 3 + 1, none⟩) (by simp) _).setCell (p := ⟨fb, i * 3 + 2, none⟩) (by simp) _
  rw [hw, ← List.cons_append] at hn
  have hn2 := nodup_set (v' := v') hn hv (fun k hk => .inr (fun e => hnew k hk (by rw [hw, ← List.cons_append]; exact e)))
  rw [List.nodup_append, List.nodup_cons] at hn
  refine h.remade (X := own v') hok (ho.mono (by simpa using hfbS)) ?_ ?_ ?_ (by rw [← List.cons_append]; exact hn2) ?_
  · rw [ho.block pb (hlt pb h.mem) ?_]; exact h.head
    intro e
    simp at e
    exact hn.1.1 (by simp [own, Value.ownBlock, e])
  · have := own_set (own_set (own_set h.rows (i * 3) (.string g.name)) (i * 3 + 1) v') (i * 3 + 2) (.int .i64 g.synced)
    rw [hgn, fcells_set0 _ _ _ f hf hlen, fcells_set1 _ _ _ _ hlen, fcells_set2 _ _ _ f g (by simp [hlen]) hf hgn] at this
    rw [hgn]
    simpa using this
  · refine Datas.fill i hlen hi ((h.datas.split i).off ho ?_) (rows_off hd ho (fun k hk e => by simp at e; subst e; exact hnew k hk hfbS))
    intro k hk e
    simp at e
    subst e
    exact hn.2.2 k (by simp [own, Value.ownBlock]) k (by rw [(flat_perm vs i v hv).mem_iff]; simp [hk]) rfl
  · intro k hk
    rcases List.mem_append.1 hk with e | e
    · exact .inl (by rw [hw]; simp [e])
    · rcases mem_flat_set e with e | e
      · exact .inr (.inl e)
      · exact .inl (by rw [hw]; exact List.mem_cons_of_mem _ (List.mem_append_right _ e))

/-- A file has come in. -/
theorem Dk.came {w w3 : World} {pb : Nat} {d : Dm} {fv fv' : Value} {vs : List Value} {S : List Nat} (h : Dk w pb d fv vs S) (i : Nat) (hi : i ≤ d.files.length) {g : Fl} {v' : Value} (hok : Dm.Ok { d with files := d.files.take i ++ g :: d.files.drop i })
    (hd : w.ownsRow 0 5 1 v' g.data.length (g.data.map (Value.int .u8))) (hnew : ∀ k ∈ own v', k ∉ S) (ho : Off (own fv) w w3) (hsub : ∀ k ∈ own fv', k ∈ own fv ∨ w.heap.size ≤ k)
    (hr : w3.ownsRow 0 76 3 fv' (d.files.length + 1) ((fcells d.files vs).take (i * 3) ++ [.string g.name, v', .int .i64 g.synced] ++ (fcells d.files vs).drop (i * 3))) :
    ∃ S', Dk (w3.setCell ⟨pb, 1, none⟩ fv') pb { d with files := d.files.take i ++ g :: d.files.drop i } fv' (vs.take i ++ v' :: vs.drop i) S' ∧ Step (S ++ own v') S' w (w3.setCell ⟨pb, 1, none⟩ fv') := by
  have hlen := h.datas.len
  have hw := h.whole
  have hn := h.once
  have hlt := h.lt
  rw [hw, List.nodup_cons] at hn
  have hfvS : ∀ k ∈ own fv, k ∈ S := fun k hk => by rw [hw]; simp [hk]
  have hvsS : ∀ k ∈ vs.flatMap own, k ∈ S := fun k hk => by rw [hw]; exact List.mem_cons_of_mem _ (List.mem_append_right _ hk)
  have hpbf : pb ∉ own fv := fun e => hn.1 (List.mem_append_left _ e)
  have hpbf' : pb ∉ own fv' := fun e => (hsub pb e).elim hpbf (fun e => by have := hlt pb h.mem; omega)
  have hvlt := own_lt hd
  have ho' : Off [pb] w3 (w3.setCell ⟨pb, 1, none⟩ fv') := (Off.refl _ _).setCell (p := ⟨pb, 1, none⟩) (by simp) _
  have hov : ∀ k ∈ own v', k ∉ own fv := fun k hk e => hnew k hk (hfvS k e)
  have hhead : w3.heap[pb]? = some (.cells #[.int .i64 d.limit, fv, .int .i64 d.left, .bool d.down] 73 (0, 0)) := by rw [ho.block pb (hlt pb h.mem) hpbf]; exact h.head
  have hflat : (vs.take i ++ v' :: vs.drop i).flatMap own = (vs.take i).flatMap own ++ (own v' ++ (vs.drop i).flatMap own) := by simp
  have hperm : ((vs.take i ++ v' :: vs.drop i).flatMap own).Perm (own v' ++ vs.flatMap own) := by
    rw [hflat]
    have e : vs.flatMap own = (vs.take i).flatMap own ++ (vs.drop i).flatMap own := by rw [← List.flatMap_append, List.take_append_drop]
    rw [e, ← List.append_assoc, ← List.append_assoc]
    exact List.Perm.append_right _ List.perm_append_comm
  refine h.remade (X := own v') hok ((ho.mono hfvS).trans (ho'.mono (by simpa using h.mem))) ?_ ?_ ?_ ?_ ?_
  · rw [set_head _ hhead]; rfl
  · rw [show (d.files.take i ++ g :: d.files.drop i).length = d.files.length + 1 by simp; omega]
    have e : fcells (d.files.take i ++ g :: d.files.drop i) (vs.take i ++ v' :: vs.drop i) = (fcells d.files vs).take (i * 3) ++ [.string g.name, v', .int .i64 g.synced] ++ (fcells d.files vs).drop (i * 3) := by
      rw [fcells_append _ _ _ _ (by simp [hlen]), fcells_take _ _ _ hlen hi, fcells_drop _ _ _ hlen hi]
      simp [fcells]
    show World.ownsRow _ 0 76 3 fv' (d.files.length + 1) (fcells (d.files.take i ++ g :: d.files.drop i) (vs.take i ++ v' :: vs.drop i))
    rw [e]
    exact rows_off hr ho' (fun k hk e => by simp at e; subst e; exact hpbf' hk)
  · have hD3 : Datas w3 d.files vs := h.datas.off ho (fun k hk e => (List.nodup_append.1 hn.2).2.2 k e k hk rfl)
    have hD4 : Datas (w3.setCell ⟨pb, 1, none⟩ fv') d.files vs := hD3.off ho' (fun k hk e => by simp at e; subst e; exact hn.1 (List.mem_append_right _ hk))
    exact datas_append (hD4.take i) ⟨rows_off (rows_off hd ho hov) ho' (fun k hk e => by simp at e; subst e; exact hnew k hk h.mem), hD4.drop i⟩
  · rw [List.nodup_cons, List.nodup_append]
    refine ⟨fun e => ?_, own_nodup _, ?_, ?_⟩
    · rcases List.mem_append.1 e with e | e
      · exact hpbf' e
      · rcases List.mem_append.1 (hperm.mem_iff.1 e) with e | e
        · exact hnew pb e h.mem
        · exact hn.1 (List.mem_append_right _ e)
    · rw [hperm.nodup_iff, List.nodup_append]
      exact ⟨own_nodup _, (List.nodup_append.1 hn.2).2.1, fun a ha b hb e => by subst e; exact hnew a ha (hvsS a hb)⟩
    · intro a ha b hb e
      subst e
      rcases List.mem_append.1 (hperm.mem_iff.1 hb) with e | e
      · rcases hsub a ha with e2 | e2
        · exact hov a e e2
        · have := (hvlt a e).1; omega
      · rcases hsub a ha with e2 | e2
        · exact (List.nodup_append.1 hn.2).2.2 a e2 a e rfl
        · have := hlt a (hvsS a e); omega
  · intro k hk
    rcases List.mem_append.1 hk with e | e
    · exact (hsub k e).elim (fun e => .inl (hfvS k e)) (fun e => .inr (.inr e))
    · rcases List.mem_append.1 (hperm.mem_iff.1 e) with e | e
      · exact .inr (.inl e)
      · exact .inl (hvsS k e)

/-- A file has gone. -/
theorem Dk.gone {w w3 : World} {pb : Nat} {d : Dm} {fv fv' : Value} {vs : List Value} {S : List Nat} (h : Dk w pb d fv vs S) (i : Nat) {f : Fl} {v : Value} (hf : d.files[i]? = some f) (hv : vs[i]? = some v) (hok : Dm.Ok { d with files := d.files.take i ++ d.files.drop (i + 1) })
    (ho : Off (own fv) w w3) (hsub : ∀ k ∈ own fv', k ∈ own fv)
    (hr : w3.ownsRow 0 76 3 fv' (d.files.length - 1) ((fcells d.files vs).take (i * 3) ++ (fcells d.files vs).drop ((i + 1) * 3))) :
    ∃ S', Dk (w3.setCell ⟨pb, 1, none⟩ fv') pb { d with files := d.files.take i ++ d.files.drop (i + 1) } fv' (vs.take i ++ vs.drop (i + 1)) S' ∧ Step S S' w (w3.setCell ⟨pb, 1, none⟩ fv') ∧ (∀ k ∈ own v, k ∈ S ∧ k ∉ S') ∧ (w3.setCell ⟨pb, 1, none⟩ fv').ownsRow 0 5 1 v f.data.length (f.data.map (Value.int .u8)) := by
  have hlen := h.datas.len
  have hw := h.whole
  have hn := h.once
  have hlt := h.lt
  have hi := (List.getElem?_eq_some_iff.1 hf).1
  have hno := flat_other (A := pb :: own fv) (by rw [List.cons_append, ← hw]; exact hn) hv
  rw [hw, List.nodup_cons] at hn
  have hfvS : ∀ k ∈ own fv, k ∈ S := fun k hk => by rw [hw]; simp [hk]
  have hvsS : ∀ k ∈ vs.flatMap own, k ∈ S := fun k hk => by rw [hw]; exact List.mem_cons_of_mem _ (List.mem_append_right _ hk)
  have hpbf : pb ∉ own fv := fun e => hn.1 (List.mem_append_left _ e)
  have ho' : Off [pb] w3 (w3.setCell ⟨pb, 1, none⟩ fv') := (Off.refl _ _).setCell (p := ⟨pb, 1, none⟩) (by simp) _
  have hhead : w3.heap[pb]? = some (.cells #[.int .i64 d.limit, fv, .int .i64 d.left, .bool d.down] 73 (0, 0)) := by rw [ho.block pb (hlt pb h.mem) hpbf]; exact h.head
  have hflat : ∀ k ∈ (vs.take i ++ vs.drop (i + 1)).flatMap own, k ∈ vs.flatMap own ∧ k ∉ own v := by
    intro k hk
    rw [← List.eraseIdx_eq_take_drop_succ] at hk
    exact ⟨(flat_perm vs i v hv).mem_iff.2 (List.mem_append_right _ hk), hno k hk⟩
  have hnd : ((vs.take i ++ vs.drop (i + 1)).flatMap own).Nodup := by
    rw [← List.eraseIdx_eq_take_drop_succ]
    have := (flat_perm vs i v hv).nodup_iff.1 (List.nodup_append.1 hn.2).2.1
    exact (List.nodup_append.1 this).2.1
  have hD3 : Datas w3 d.files vs := h.datas.off ho (fun k hk e => (List.nodup_append.1 hn.2).2.2 k e k hk rfl)
  have hD4 : Datas (w3.setCell ⟨pb, 1, none⟩ fv') d.files vs := hD3.off ho' (fun k hk e => by simp at e; subst e; exact hn.1 (List.mem_append_right _ hk))
  have hnod : (pb :: (own fv' ++ (vs.take i ++ vs.drop (i + 1)).flatMap own)).Nodup := by
    rw [List.nodup_cons, List.nodup_append]
    refine ⟨fun e => ?_, own_nodup _, hnd, fun a ha b hb e => ?_⟩
    · rcases List.mem_append.1 e with e | e
      · exact hpbf (hsub pb e)
      · exact hn.1 (List.mem_append_right _ (hflat pb e).1)
    · subst e
      exact (List.nodup_append.1 hn.2).2.2 a (hsub a ha) a (hflat a hb).1 rfl
  refine ⟨_, ⟨hok, by rw [set_head _ hhead]; rfl, ?_, ?_, rfl, hnod⟩, ⟨(ho.mono hfvS).trans (ho'.mono (by simpa using h.mem)), fun k hk => .inl ?_⟩, fun k hk => ⟨hvsS k (mem_flat_at hv hk), fun e => ?_⟩, ?_⟩
  · show World.ownsRow _ 0 76 3 fv' (d.files.take i ++ d.files.drop (i + 1)).length (fcells (d.files.take i ++ d.files.drop (i + 1)) (vs.take i ++ vs.drop (i + 1)))
    rw [show (d.files.take i ++ d.files.drop (i + 1)).length = d.files.length - 1 by simp; omega, fcells_append _ _ _ _ (by simp [hlen]), ← fcells_take _ _ _ hlen (by omega), ← fcells_drop _ _ _ hlen (by omega)]
    exact rows_off hr ho' (fun k hk e => by simp at e; subst e; exact hpbf (hsub k hk))
  · exact datas_append (hD4.take i) (hD4.drop (i + 1))
  · rcases List.mem_cons.1 hk with rfl | hk
    · exact h.mem
    · rcases List.mem_append.1 hk with e | e
      · exact hfvS k (hsub k e)
      · exact hvsS k (hflat k e).1
  · rcases List.mem_cons.1 e with rfl | e
    · exact hn.1 (List.mem_append_right _ (mem_flat_at hv hk))
    · rcases List.mem_append.1 e with e | e
      · exact (List.nodup_append.1 hn.2).2.2 k (hsub k e) k (mem_flat_at hv hk) rfl
      · exact (hflat k e).2 hk
  · obtain ⟨v2, hv2, hr2⟩ := hD4.at i f hf
    rw [hv] at hv2; simp at hv2; subst hv2; exact hr2

end Go.Proofs.YtgleblfkcdkaeaaDoor
