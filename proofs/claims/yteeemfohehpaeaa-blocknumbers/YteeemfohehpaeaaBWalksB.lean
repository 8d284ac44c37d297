/- The walks of block.fits and block.Build. -/
import Derived.Test.YteeemfohehpaeaaBWalksA
import Derived.Test.YteeemfohehpaeaaPD
namespace Go.Proofs.Yteeemfohehpaeaa
set_option maxRecDepth 100000
open Go.RowKit

theorem lessB_pos {p k : List Int} (h : lessB p k = true) : 1 ≤ k.length := by
  cases k with
  | nil => cases p <;> simp [lessB] at h
  | cons a k => simp
theorem take_snoc (l : List Ent) (k : Nat) (e : Ent) (h : l[k]? = some e) : l.take (k + 1) = l.take k ++ [e] := by
  obtain ⟨hk, rfl⟩ := List.getElem?_eq_some_iff.1 h
  rw [List.take_succ_eq_append_getElem hk]
theorem len_take {l : List Ent} {k : Nat} {e : Ent} (h : l[k]? = some e) : (l.take k).length = k := by
  obtain ⟨hk, rfl⟩ := List.getElem?_eq_some_iff.1 h
  simp; omega
theorem ok_take (l : List Ent) (k : Nat) (h : okL [] (l.take k) = false) (m : Nat) : mayB m l = false := by
  have e : okL [] l = (okL [] (l.take k) && okL (lastK [] (l.take k)) (l.drop k)) := by rw [← okL_app, List.take_append_drop]
  rw [h] at e
  simp [mayB, e]
theorem fit_take (l : List Ent) (k : Nat) (h : fitB 0 0 [] (l.take k) = false) : fitB 0 0 [] l = false := by
  have e : fitB 0 0 [] l = (fitB 0 0 [] (l.take k) && fitB (0 + (l.take k).length) (0 + (bodyL 0 [] (l.take k)).length) (lastK [] (l.take k)) (l.drop k)) := by rw [← fitB_app, List.take_append_drop]
  rw [e, h]; rfl

set_option maxHeartbeats 2000000 in
theorem bfits_any (ao : Option Addr) (len cap : Nat) (l : List Ent) (w : World) (h : Lx 3 RE w ao len cap l) (hs : ∀ e ∈ l, e.k.length ≤ 1000000000000) :
    Calls Try.prog 56 #[.slice ao len cap] w fun e w' => e = .returned (.bool (mayB 255 l)) ∧ Below w.heap.size w w' := by
  have hl := h.len_eq
  have hle := h.le
  have htop := h.top
  unfold maxLen at htop
  by_cases h0 : len < 1
  · have hm : Hid (mayB 255 l = false) := by show _ = _; simp [mayB]; omega
    go_enter Try.func56, Try.ntmps56
    go_wp2
    go_ret
    exact ⟨ret_bool hm.out.symm, Below.refl _ _⟩
  · by_cases h9 : 255 < len
    · have hm : Hid (mayB 255 l = false) := by show _ = _; simp [mayB]; omega
      go_enter Try.func56, Try.ntmps56
      go_wp2
      go_ret
      exact ⟨ret_bool hm.out.symm, Below.refl _ _⟩
    · obtain ⟨b, off, rfl, hc⟩ := h.headE (by omega)
      go_enter Try.func56, Try.ntmps56
      go_wp2
      go_loopw [3, 16] (fun s i wr => ∃ (k : Nat) (ho : Option Addr) (q hc : Nat), k ≤ len ∧ i = .int .i64 k ∧ s = .slice ho q hc ∧ q ≤ 255 ∧ Tx w ho q hc (lastK [] (l.take k)) ∧ Hid (okL [] (l.take k) = true) ∧ Below w.heap.size w wr) (fun _ i _ => len - (intOf i).toNat)
      case atStart => exact ⟨0, none, 0, 0, by omega, rfl, rfl, by omega, Tx.nil w, rfl, Below.refl _ _⟩
      case round =>
        obtain ⟨k, ho, q, hcap, hk, rfl, rfl, hq, tp, hok, hb⟩ := hrel
        by_cases hk2 : k < len
        · have hx : l[k]? = some (l[k]'(by omega)) := by simp
          obtain ⟨ko, kl, kc, vo, vl, vc, c0, c1, c2, tk, tv⟩ := hc k _ hx
          have hkl := hs (l[k]'(by omega)) (List.getElem_mem _)
          have hst := okL_snoc (l.take k) [] (l[k]'(by omega))
          rw [← take_snoc l k _ hx, hok.out, Bool.true_and] at hst
          have hst : Hid (okL [] (l.take (k + 1)) = (fitsE (l[k]'(by omega)) && lessB (lastK [] (l.take k)) (l[k]'(by omega)).k)) := hst
          have hlast : Hid (lastK [] (l.take (k + 1)) = (l[k]'(by omega)).k) := by show _ = _; rw [take_snoc l k _ hx, lastK_snoc]
          generalize l[k]'(by omega) = e at c2 tk tv hst hlast hkl
          have lk := tk.len_eq
          have lv := tv.len_eq
          have tvt := tv.le
          have tvt2 := tv.top
          have tkt := tk.le
          unfold maxLen at tvt2
          have hfe : Hid (fitsE e = decide (1 ≤ kl ∧ kl ≤ 255 ∧ (e.g = true ∨ vl ≤ 4095))) := by show _ = _; rw [fitsE, lk, lv]
          have hpos : Hid (lessB (lastK [] (l.take k)) e.k = true → 1 ≤ kl) := fun hh => by have := lessB_pos hh; omega
          have c0 := cell_later hb c0
          have c1 := cell_later hb c1
          have c2 := cell_later hb c2
          rw [lk] at hkl
          have hno : okL [] (l.take (k + 1)) = false → Hid (mayB 255 l = false) := fun hh => ok_take l (k + 1) hh 255
          obtain ⟨O, hO⟩ : ∃ O, Hid (okL [] (l.take (k + 1)) = O) := ⟨_, rfl⟩
          rw [hO.out] at hst hno
          generalize lastK [] (l.take k) = p at tp hst hpos
          have hbz := hb.size
          have hB := fun (o : Obj) => (hb.alloc hbz o : Below w.heap.size w (wr.alloc o))
          have hless := fun (o : Obj) => less_any ho ko q hcap kl kc p e.k (wr.alloc o) (tp.later (hB o)) (tk.later (hB o)) (by omega) (by omega)
          generalize lessB p e.k = F at hst hless hpos
          generalize fitsE e = E at hst hfe
          obtain ⟨G, hG⟩ : ∃ G, Hid (e.g = G) := ⟨_, rfl⟩
          rw [hG.out] at c2
          have bx := Box.new wr (.slice ko kl kc) (.slice vo vl vc) G
          cases F with
          | false =>
            have hr := hno (by rw [hst.out]; simp)
            go_wp2_with (go_at_call 35; with_reducible refine (hless _).mono ?_; rintro r w1 ⟨rfl, b1⟩)
            go_ret
            exact ⟨ret_bool hr.out.symm, (hb.alloc hb.size _).trans (b1.mono (by simp; omega))⟩
          | true =>
            have hk1 := hpos.out rfl
            by_cases a2 : 255 < kl
            · have hr := hno (by rw [hst.out, hfe.out]; simp; omega)
              go_wp2_with (go_at_call 35; with_reducible refine (hless _).mono ?_; rintro r w1 ⟨rfl, b1⟩; have d0 := (bx.later b1).c0)
              go_ret
              exact ⟨ret_bool hr.out.symm, (hb.alloc hb.size _).trans (b1.mono (by simp; omega))⟩
            · cases G with
              | true =>
                have hr : Hid (O = true) := by show _ = _; rw [hst.out, hfe.out, hG.out]; simp; omega
                go_wp2_with (go_at_call 35; with_reducible refine (hless _).mono ?_; rintro r w1 ⟨rfl, b1⟩; have d0 := (bx.later b1).c0; have d1 := (bx.later b1).c1; have d2 := (bx.later b1).c2)
                go_roundw
                case rel => exact ⟨k + 1, ko, kl, kc, by omega, by go_num, rfl, by omega, by rw [hlast.out]; exact tk, (by show _ = _; rw [hO.out]; exact hr.out), (hb.alloc hb.size _).trans (b1.mono (by simp; omega))⟩
                case measure => simp [intOf]; omega
              | false =>
                by_cases a3 : 4095 < vl
                · have hr := hno (by rw [hst.out, hfe.out, hG.out]; simp; omega)
                  go_wp2_with (go_at_call 35; with_reducible refine (hless _).mono ?_; rintro r w1 ⟨rfl, b1⟩; have d0 := (bx.later b1).c0; have d1 := (bx.later b1).c1; have d2 := (bx.later b1).c2)
                  go_ret
                  exact ⟨ret_bool hr.out.symm, (hb.alloc hb.size _).trans (b1.mono (by simp; omega))⟩
                · have hr : Hid (O = true) := by show _ = _; rw [hst.out, hfe.out, hG.out]; simp; omega
                  go_wp2_with (go_at_call 35; with_reducible refine (hless _).mono ?_; rintro r w1 ⟨rfl, b1⟩; have d0 := (bx.later b1).c0; have d1 := (bx.later b1).c1; have d2 := (bx.later b1).c2)
                  go_roundw
                  case rel => exact ⟨k + 1, ko, kl, kc, by omega, by go_num, rfl, by omega, by rw [hlast.out]; exact tk, (by show _ = _; rw [hO.out]; exact hr.out), (hb.alloc hb.size _).trans (b1.mono (by simp; omega))⟩
                  case measure => simp [intOf]; omega
        · have hm : Hid (mayB 255 l = true) := by
            show _ = _
            rw [mayB_iff]
            have := hok.out
            rw [List.take_of_length_le (by omega)] at this
            exact ⟨by omega, by omega, this⟩
          go_wp2
          go_ret
          exact ⟨ret_bool hm.out.symm, hb⟩

/-- What Build answers. -/
def BuildPost (w : World) (l : List Ent) (e : Ending) (w' : World) : Prop :=
  (mayB 255 l = false ∧ e = .returned (.tuple #[.slice none 0 0, .int .i64 1]) ∧ Below w.heap.size w w') ∨ (mayB 255 l = true ∧ fitB 0 0 [] l = false ∧ e = .returned (.tuple #[.slice none 0 0, .int .i64 3]) ∧ Below w.heap.size w w') ∨
  (mayB 255 l = true ∧ fitB 0 0 [] l = true ∧ ∃ bo lb cb, e = .returned (.tuple #[.slice bo lb cb, .int .i64 0]) ∧ Gr w.heap.size w' bo lb cb (blockL l) ∧ Below w.heap.size w w')

theorem Moves.other {B : Nat} {w w' : World} {v v' : Value} {a : Option Addr} {n c : Nat} {ys : List Int} (m : Moves v v' w w') (g : Gr B w a n c ys) (hd : ∀ k ∈ own (.slice a n c), k ∉ own v) : Gr B w' a n c ys ∧ ∀ k ∈ own (.slice a n c), k ∉ own v' :=
  ⟨⟨rows_offB g.own m.off hd, g.rng, Nat.le_trans g.hB m.off.size⟩, fun k hk => m.out (hd k hk) (g.lt k hk).1⟩
theorem Moves.dis {B : Nat} {w w' : World} {v v' : Value} {a : Option Addr} {n c : Nat} {ys : List Int} (m : Moves v v' w w') (g : Gr B w a n c ys) (hd : ∀ k ∈ own v, k ∉ own (.slice a n c)) : ∀ k ∈ own v', k ∉ own (.slice a n c) := fun k hk e => by
  rcases m.sub k hk with h | h
  · exact hd k h e
  · have := (g.lt k e).1; omega
theorem dis_symm {u v : Value} (h : ∀ k ∈ own u, k ∉ own v) : ∀ k ∈ own v, k ∉ own u := fun k hk e => h k e hk

/-- What holds at each round's head of Build. -/
structure BRel (w wr : World) (l : List Ent) (k : Nat) (a4 : Option Addr) (n4 c4 : Nat) (a5 : Option Addr) (n5 c5 : Nat) (a6 : Option Addr) (n6 c6 : Nat) : Prop where
  out : Gr w.heap.size wr a4 n4 c4 (bodyL 0 [] (l.take k))
  st : Gr w.heap.size wr a5 n5 c5 (startL 0 0 [] (l.take k))
  dis : ∀ q ∈ own (.slice a5 n5 c5), q ∉ own (.slice a4 n4 c4)
  tp : TxB w.heap.size wr a6 n6 c6 (lastK [] (l.take k))
  hp : n6 ≤ 255
  fit : fitB 0 0 [] (l.take k) = true
  bel : Below w.heap.size w wr

theorem brel_start {w w0 : World} (l : List Ent) (hb : Below w.heap.size w w0) : BRel w w0 l 0 none 0 0 none 0 0 none 0 0 :=
  ⟨(Gr.nil w0).mono hb.size, (Gr.nil w0).mono hb.size, by simp [own, Value.ownBlock], ⟨Tx.nil _, fun _ h => by cases h⟩, by omega, rfl, hb⟩

theorem body_small (l : List Ent) (k : Nat) (h : okL [] l = true) (hl : l.length ≤ 255) : (bodyL 0 [] (l.take k)).length ≤ 1200000 := by
  have := bodyL_le (l.take k) 0 [] (fun e he => okL_fits l [] h e (List.mem_of_mem_take he))
  rw [List.length_take] at this; omega
theorem start_small (l : List Ent) (k : Nat) (hl : l.length ≤ 255) : (startL 0 0 [] (l.take k)).length ≤ 130 := by
  have := start_cnt (l.take k)
  unfold cntB at this
  rw [List.length_take] at this; omega
theorem cnt_low (l : List Ent) (hl : l.length ≤ 255) : low 1 ((cntB l : Nat) : Int) = [(cntB l : Int)] := by
  rw [low1]; congr 1; unfold cntB; omega

end Go.Proofs.Yteeemfohehpaeaa
