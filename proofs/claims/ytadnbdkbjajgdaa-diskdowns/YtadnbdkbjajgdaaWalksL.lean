/- The walks of Create, Remove, Rename. -/
import Derived.Test.YtadnbdkbjajgdaaWalksK
namespace Go.Proofs.Ytadnbdkbjajgdaa
open Go.RowKit Go.Sort

theorem Step.trans2 {S S' S'' X : List Nat} {a b c : World} (h : Step S S' a b) (hX : ∀ k ∈ X, k ∈ S) (k : Step (S' ++ X) S'' b c) : Step S S'' a c := by
  have h2 : Step S (S' ++ X) a b := ⟨h.off, fun i hi => by
    rcases List.mem_append.1 hi with e | e
    · exact h.sub i e
    · exact .inl (hX i e)⟩
  exact h2.trans k

theorem put_any (pb : Nat) (d : Dm) (fv : Value) (vs : List Value) (S : List Nat) (f : Fl) (bo : Option Addr) (bc : Nat) (w : World) (h : Dk w pb d fv vs S) (hn : d.files.length ≤ 1000000) (hd : w.ownsRow 0 5 1 (.slice bo f.data.length bc) f.data.length (f.data.map (Value.int .u8))) (hnew : ∀ k ∈ own (.slice bo f.data.length bc), k ∉ S) (hok : Dm.Ok { d with files := put d.files f }) :
    Calls Try.prog 45 #[.pointer (some ⟨pb, 0, none⟩), .agg #[.string f.name, .slice bo f.data.length bc, .int .i64 f.synced]] w fun e w' => e = .returned (.tuple #[]) ∧ ∃ fv' vs' S', Dk w' pb { d with files := put d.files f } fv' vs' S' ∧ Step (S ++ own (.slice bo f.data.length bc)) S' w w' := by
  cases hg : get d.files f.name with
  | none => exact put_none pb d fv vs S f bo bc w h hn hd hnew hok hg
  | some g => exact put_some pb d fv vs S f g bo bc w h hn hd hnew hok hg

theorem put_new (pb : Nat) (d : Dm) (fv : Value) (vs : List Value) (S : List Nat) (nm : ByteArray) (w : World) (h : Dk w pb d fv vs S) (hn : d.files.length ≤ 1000000) (hok : Dm.Ok { d with files := put d.files ⟨nm, [], 0⟩ }) :
    Calls Try.prog 45 #[.pointer (some ⟨pb, 0, none⟩), .agg #[.string nm, .slice none 0 0, .int .i64 0]] w fun e w' => e = .returned (.tuple #[]) ∧ ∃ fv' vs' S', Dk w' pb { d with files := put d.files ⟨nm, [], 0⟩ } fv' vs' S' ∧ Step S S' w w' := by
  have := put_any pb d fv vs S ⟨nm, [], 0⟩ none 0 w h hn ⟨rfl, .inl ⟨rfl, rfl⟩⟩ (by simp [own, Value.ownBlock]) hok
  rw [show own (.slice none ([] : List Int).length 0) = [] from rfl, List.append_nil] at this
  exact this

theorem spend_with {d : Dm} (l : List Fl) : ({ d.spend with files := l } : Dm).files = l := rfl

set_option maxHeartbeats 1000000 in
theorem create_any (pb : Nat) (d : Dm) (fv : Value) (vs : List Value) (S : List Nat) (nm : ByteArray) (w : World) (h : Dk w pb d fv vs S) (hn : d.files.length ≤ 1000000) (hs : nm.size ≤ 9223372036854775807) :
    Calls Try.prog 17 #[.pointer (some ⟨pb, 0, none⟩), .string nm] w fun e w' => e = .returned (.int .i64 (d.create nm).2) ∧ ∃ fv' vs' S', Dk w' pb (d.create nm).1 fv' vs' S' ∧ Step S S' w w' := by
  have hmay := mayName_any nm w hs
  have hsp := spend_any pb d fv vs S w h
  cases hok : okName nm with
  | false =>
    have e : Hid (d.create nm = (d, 1)) := by show _ = _; simp [Dm.create, hok]
    rw [hok] at hmay
    go_enter Try.func17, Try.ntmps17
    go_wp2_with (go_at_call 43; with_reducible refine hmay.mono ?_; rintro e w1 ⟨rfl, rfl⟩)
    go_ret
    rw [e.out]
    exact ⟨rfl, fv, vs, S, h, .refl _ _⟩
  | true =>
    rw [hok] at hmay
    have h32 : 1 ≤ nm.size ∧ nm.size ≤ 32 := by simpa [okName] using hok
    cases hdn : d.spend.down with
    | true =>
      have e : Hid (d.create nm = (d.spend, 13)) := by show _ = _; simp [Dm.create, hok, hdn]
      rw [hdn] at hsp
      go_enter Try.func17, Try.ntmps17
      go_wp2_with (first
        | (go_at_call 43; with_reducible refine hmay.mono ?_; rintro e w1 ⟨rfl, rfl⟩)
        | (go_at_call 44; with_reducible refine hsp.mono ?_; rintro e w2 ⟨rfl, D2, st2⟩))
      go_ret
      rw [e.out]
      exact ⟨rfl, fv, vs, S, D2, st2⟩
    | false =>
      have e : Hid (d.create nm = ({ d.spend with files := put d.files ⟨nm, [], 0⟩ }, 0)) := by show _ = _; simp [Dm.create, hok, hdn]
      rw [hdn] at hsp
      have hokd : Dm.Ok { d.spend with files := put d.spend.files ⟨nm, [], 0⟩ } := h.ok.spend.put _ (by rw [d.spend_files, d.spend_limit]; have := used_parts h.ok.rise nm; have := h.ok.room; simp; omega) (by simp) (by simp) h32
      have hput := fun w2 (D2 : Dk w2 pb d.spend fv vs S) w3 (hb : Below w2.heap.size w2 w3) => put_new pb d.spend fv vs S nm w3 (D2.later hb) (by rw [d.spend_files]; exact hn) hokd
      rw [d.spend_files] at hput
      go_enter Try.func17, Try.ntmps17
      go_wp2_with (first
        | (go_at_call 43; with_reducible refine hmay.mono ?_; rintro e w1 ⟨rfl, rfl⟩)
        | (go_at_call 44; with_reducible refine hsp.mono ?_; rintro e w2 ⟨rfl, D2, st2⟩)
        | (go_at_call 46; with_reducible refine (sclone_any nm w2 (by omega)).mono ?_; rintro e w3 ⟨rfl, hb3⟩)
        | (go_at_call 45; with_reducible refine (hput w2 D2 w3 hb3).mono ?_; rintro e w4 ⟨rfl, fv4, vs4, S4, D4, st4⟩))
      go_ret
      rw [e.out]
      exact ⟨rfl, fv4, vs4, S4, D4, (st2.trans (.of_below hb3)).trans st4⟩

/-- The file of a name is taken out of the row, and the row's place is written. -/
theorem deleted (pb : Nat) (d : Dm) (fb N cap : Nat) (vs : List Value) (S : List Nat) (nm : ByteArray) (f : Fl) (w : World) (h : Dk w pb d (.slice (some ⟨fb, 0, none⟩) N cap) vs S) (hn : N ≤ 1000000) (hg : get d.files nm = some f) (i : Nat) (hi : i = (lo d.files nm).length) (v : Value) (hv : vs[i]? = some v) :
    Calls Try.prog 48 #[.slice (some ⟨fb, 0, none⟩) N cap, .int .i64 i, .int .i64 ((i : Int) + 1)] w fun e w3 => e = .returned (.slice (some ⟨fb, 0, none⟩) (N - 1) cap) ∧ w3.cell? ⟨pb, 1, none⟩ = some (.slice (some ⟨fb, 0, none⟩) N cap) ∧ w3.frozen? ⟨pb, 1, none⟩ = false ∧ Off S w w3 ∧
      ∃ vs' S', Dk (w3.setCell ⟨pb, 1, none⟩ (.slice (some ⟨fb, 0, none⟩) (N - 1) cap)) pb { d with files := del d.files nm } (.slice (some ⟨fb, 0, none⟩) (N - 1) cap) vs' S' ∧ Step S S' w (w3.setCell ⟨pb, 1, none⟩ (.slice (some ⟨fb, 0, none⟩) (N - 1) cap)) ∧ (∀ k ∈ own v, k ∈ S ∧ k ∉ S') ∧ (w3.setCell ⟨pb, 1, none⟩ (.slice (some ⟨fb, 0, none⟩) (N - 1) cap)).ownsRow 0 5 1 v f.data.length (f.data.map (Value.int .u8)) := by
  have hf := at_lo h.ok.rise hg
  rw [← hi] at hf
  have hil := (List.getElem?_eq_some_iff.1 hf).1
  have hfn : N = d.files.length := by
    rcases h.rows.2 with ⟨h', _⟩ | ⟨_, _, _, h', _⟩
    · cases h'
    · simp at h'; exact h'.2.1
  subst hfn
  have hpbf : pb ∉ own (.slice (some ⟨fb, 0, none⟩) d.files.length cap) := by
    have hn := h.once
    rw [h.whole, List.nodup_cons] at hn
    exact fun e => hn.1 (List.mem_append_left _ e)
  refine (delete_any fb d.files.length cap i (fcells d.files vs) w h.rows hil (fcells_one _ _ h.datas) hn).mono ?_
  rintro e w3 ⟨rfl, hr, ho⟩
  have ho' : Off (own (.slice (some ⟨fb, 0, none⟩) d.files.length cap)) w w3 := ho
  have he : ({ d with files := d.files.take i ++ d.files.drop (i + 1) } : Dm) = { d with files := del d.files nm } := by rw [hi, era_del h.ok.rise hg]
  obtain ⟨S', D', st, hvS, hown⟩ := h.gone i hf hv (by rw [he]; exact h.ok.del nm) ho' (fun k hk => by rwa [own_len _ _ (d.files.length - 1) _ cap]) hr
  rw [he] at D'
  refine ⟨rfl, ho'.cell h.c1 hpbf, ?_, ho'.mono (fun k hk => by rw [h.whole]; simp [hk]), _, S', D', st, hvS, hown⟩
  rw [World.frozen?_of_block (w := w) (ho'.block pb (h.lt pb h.mem) hpbf)]
  exact h.z 1

set_option maxHeartbeats 1000000 in
theorem remove_any (pb : Nat) (d : Dm) (fv : Value) (vs : List Value) (S : List Nat) (nm : ByteArray) (w : World) (h : Dk w pb d fv vs S) (hn : d.files.length ≤ 1000000) :
    Calls Try.prog 27 #[.pointer (some ⟨pb, 0, none⟩), .string nm] w fun e w' => e = .returned (.int .i64 (d.remove nm).2) ∧ ∃ fv' vs' S', Dk w' pb (d.remove nm).1 fv' vs' S' ∧ Step S S' w w' := by
  have hfind := find_any pb d fv vs S nm w h hn
  cases hg : get d.files nm with
  | none =>
    rw [hg] at hfind
    have e : Hid (d.remove nm = (d, 22)) := by show _ = _; simp [Dm.remove, hg]
    go_enter Try.func27, Try.ntmps27
    go_wp2_with (go_at_call 47; with_reducible refine hfind.mono ?_; rintro e w1 ⟨rfl, hb1⟩)
    go_ret
    rw [e.out]
    exact ⟨rfl, fv, vs, S, h.later hb1, .of_below hb1⟩
  | some f =>
    rw [hg] at hfind
    have hsp := fun w1 (hb1 : Below w.heap.size w w1) => spend_any pb d fv vs S w1 (h.later hb1)
    cases hdn : d.spend.down with
    | true =>
      have e : Hid (d.remove nm = (d.spend, 13)) := by show _ = _; simp only [Dm.remove, hg]; rw [if_pos hdn]
      rw [hdn] at hsp
      go_enter Try.func27, Try.ntmps27
      go_wp2_with (first
        | (go_at_call 47; with_reducible refine hfind.mono ?_; rintro e w1 ⟨rfl, hb1⟩; have hsp1 := hsp w1 hb1; clear hsp)
        | (go_at_call 44; with_reducible refine hsp1.mono ?_; rintro e w2 ⟨rfl, D2, st2⟩))
      go_ret
      rw [e.out]
      exact ⟨rfl, fv, vs, S, D2, (Step.of_below hb1).trans st2⟩
    | false =>
      have e : Hid (d.remove nm = ({ d.spend with files := del d.files nm }, 0)) := by show _ = _; simp only [Dm.remove, hg]; rw [if_neg (by rw [hdn]; simp)]
      rw [hdn] at hsp
      obtain ⟨fb, cap, i, bo, bc, rfl, hi, hil, hc, hm, hf, hv, _⟩ := h.file hg
      have hgs : get d.spend.files nm = some f := by rw [d.spend_files]; exact hg
      rw [← hi] at hfind
      have hdel := fun w2 D2 => deleted pb d.spend fb d.files.length cap vs S nm f w2 D2 hn hgs i (by rw [d.spend_files]; exact hi) _ hv
      rw [d.spend_files] at hdel
      have hat : ∀ w2, Dk w2 pb d.spend (.slice (some ⟨fb, 0, none⟩) d.files.length cap) vs S → w2.cell? ⟨pb, 1, none⟩ = some (.slice (some ⟨fb, 0, none⟩) d.files.length cap) := fun w2 D2 => D2.c1
      clear hi hgs hf hv
      generalize d.files.length = N at *
      go_enter Try.func27, Try.ntmps27
      go_wp2_with (first
        | (go_at_call 47; with_reducible refine hfind.mono ?_; rintro e w1 ⟨rfl, hb1⟩; have hsp1 := hsp w1 hb1; clear hsp)
        | (go_at_call 44; with_reducible refine hsp1.mono ?_; rintro e w2 ⟨rfl, D2, st2⟩; have f1 := hat w2 D2; have hdel2 := hdel w2 D2)
        | (go_at_call 48; with_reducible refine hdel2.mono ?_; rintro e w3 ⟨rfl, g1, g2, _, vs', S', D3, st3, _⟩))
      go_ret
      rw [e.out]
      exact ⟨rfl, _, vs', S', D3, ((Step.of_below hb1).trans st2).trans st3⟩

end Go.Proofs.Ytadnbdkbjajgdaa
