/- The walk of frame.Batch. -/
import Derived.Test.YtondfbjldonogaaWalksF
namespace Go.Proofs.Ytondfbjldonogaa
open Go.RowKit

theorem batch_take_succ (l : List Ent) (k : Nat) (e : Ent) (h : l[k]? = some e) : (l.take (k + 1)).flatMap encE = (l.take k).flatMap encE ++ encE e := by
  obtain ⟨hk, rfl⟩ := List.getElem?_eq_some_iff.1 h
  rw [List.take_succ_eq_append_getElem hk, List.flatMap_append, List.flatMap_cons, List.flatMap_nil, List.append_nil]
theorem flat_take_small (l : List Ent) (k : Nat) (h1 : l.length ≤ 8191) (h : ∀ e ∈ l, fitsE e = true) : ((l.take k).flatMap encE).length ≤ 40000000 := by
  have := flat_length (l.take k) (fun e he => h e (List.mem_of_mem_take he))
  rw [List.length_take] at this; omega

theorem TxB.mono {B C : Nat} {w : World} {ao : Option Addr} {l c : Nat} {xs : List Int} (h : TxB B w ao l c xs) (hBC : B ≤ C) : TxB C w ao l c xs := ⟨h.tx, fun ad ha h0 => Nat.lt_of_lt_of_le (h.low ad ha h0) hBC⟩
theorem TxB.alloc {B : Nat} {w : World} {ao : Option Addr} {l c : Nat} {xs : List Int} (h : TxB B w ao l c xs) (o : Obj) : TxB B (w.alloc o) ao l c xs := ⟨h.tx.alloc o, h.low⟩

set_option maxHeartbeats 2000000 in
theorem fbatch_yes (ao : Option Addr) (len cap : Nat) (l : List Ent) (w : World) (h : Lx 3 RE w ao len cap l) (hm : mayL l = true) :
    Calls Try.prog 24 #[.slice ao len cap] w fun e w' => ∃ bo lb cb, e = .returned (.tuple #[.slice bo lb cb, .int .i64 0]) ∧ Tx w' bo lb cb (batchL l) ∧ Below w.heap.size w w' := by
  have hl := h.len_eq
  obtain ⟨y1, y2⟩ := (mayL_iff l).1 hm
  by_cases h0 : 0 < len
  · obtain ⟨b, off, rfl, hc⟩ := h.headE h0
    go_enter Try.func24, Try.ntmps24
    go_wp2
    go_loopw [14] (fun i wr => ∃ k : Nat, k ≤ len ∧ i = .int .i64 k ∧ Below w.heap.size w wr) (fun i _ => len - (intOf i).toNat)
    case atStart => exact ⟨0, by omega, rfl, Below.refl _ _⟩
    case round =>
      obtain ⟨k, hk, rfl, hb⟩ := hrel
      by_cases hk2 : k < len
      · obtain ⟨ko, kl, kc, vo, vl, vc, c0, c1, c2, tk, tv⟩ := hc k (l[k]'(by omega)) (by simp)
        have c0 := cell_later hb c0
        have c1 := cell_later hb c1
        have c2 := cell_later hb c2
        have hfit := y2 (l[k]'(by omega)) (List.getElem_mem _)
        generalize l[k]'(by omega) = e at c2 tk tv hfit
        have hcall := fun V => fits_any ko vo kl kc vl vc e V tk.len_eq tv.len_eq
        rw [hfit] at hcall
        generalize e.g = G at c2 hcall
        go_wp2_with (go_at_call 37; with_reducible refine (hcall _).mono ?_; rintro r w1 ⟨rfl, b1⟩)
        go_roundw
        case rel => exact ⟨k + 1, by omega, by go_num, (hb.alloc hb.size _).trans (b1.mono (by have := hb.size; simp; omega))⟩
        case measure => simp [intOf]; omega
      · revert hb
        generalize wr = W
        intro hb
        have hs := hb.size
        go_wp2_with (go_at_call 38; with_reducible refine (addnum_any W.heap.size none 0 0 [] len len rfl 2 2 rfl (by omega) (by omega) W (Gr.nil W) (by omega) (low 2 len) rfl).mono ?_; rintro r w1 ⟨a1, n1, c1, rfl, g1, m1⟩; have b1 := hb.trans ((m1.below (Gr.nil W)).mono hs))
        go_loopw [6, 27] (fun s i wz => ∃ (k n2 : Nat) (a2 : Option Addr) (c2 : Nat), k ≤ len ∧ i = .int .i64 k ∧ s = .slice a2 n2 c2 ∧ Gr W.heap.size wz a2 n2 c2 (low 2 len ++ (l.take k).flatMap encE) ∧ Below W.heap.size W wz) (fun _ i _ => len - (intOf i).toNat)
        case atStart => exact ⟨0, n1, a1, c1, by omega, rfl, rfl, by simpa using g1, m1.below (Gr.nil W)⟩
        case round =>
          obtain ⟨k, n2, a2, c2', hk, rfl, rfl, g2, hb2⟩ := hrel
          have B2 := hb.trans (hb2.mono hs)
          by_cases hk2 : k < len
          · obtain ⟨ko, kl, kc, vo, vl, vc, c0, c1, c2, tk, tv⟩ := hc k (l[k]'(by omega)) (by simp)
            have c0 := cell_later B2 c0
            have c1 := cell_later B2 c1
            have c2 := cell_later B2 c2
            have hfit := y2 (l[k]'(by omega)) (List.getElem_mem _)
            have hst := batch_take_succ l k (l[k]'(by omega)) (by simp)
            have hsm := flat_take_small l k y1 y2
            have hn2 := g2.len
            simp only [List.length_append, length_low] at hn2
            have hn2' : n2 ≤ 40000002 := by omega
            clear hn2 hsm
            have hst' : Hid (low 2 len ++ (l.take (k + 1)).flatMap encE = low 2 len ++ (l.take k).flatMap encE ++ encE (l[k]'(by omega))) := by show _ = _; rw [hst, List.append_assoc]
            clear hst
            have tk2 := (tk.low.later B2).mono hs
            have tv2 := (tv.low.later B2).mono hs
            generalize l[k]'(by omega) = e at c2 hfit hst' tk2 tv2
            obtain ⟨G, hG⟩ : ∃ G, Hid (e.g = G) := ⟨_, rfl⟩
            rw [hG.out] at c2
            have hcall := fun (o : Obj) => addent_any W.heap.size a2 n2 c2' (low 2 len ++ (l.take k).flatMap encE) ko vo kl kc vl vc e G hG.out hfit (wr.alloc o) (g2.alloc o) (by omega) (tk2.alloc o) (tv2.alloc o)
            generalize low 2 len ++ (l.take k).flatMap encE = X at g2 hcall hst'
            go_wp2_with (go_at_call 39; with_reducible refine (hcall _).mono ?_; rintro r w3 ⟨a3, n3, c3, rfl, g3, m3⟩)
            go_roundw
            case rel =>
              refine ⟨k + 1, n3, a3, c3, by omega, by go_num, rfl, by rw [hst'.out]; exact g3, (hb2.alloc hb2.size _).trans (m3.below (g2.alloc _))⟩
            case measure => simp [intOf]; omega
          · have hkl : k = len := by omega
            go_wp2
            go_ret2
            refine ⟨a2, n2, c2', rfl, ?_, B2⟩
            have := g2.tx
            rw [hkl, List.take_of_length_le (by omega)] at this
            rw [batchL, hl]; exact this
  · obtain rfl : len = 0 := by omega
    have hl0 : l = [] := List.eq_nil_of_length_eq_zero hl
    subst hl0
    go_enter Try.func24, Try.ntmps24
    go_wp2
    refine wp_loop_rounds 1 ?_
    rw [rounds_succ]
    go_wp2_with (go_at_call 38; with_reducible refine (addnum_any w.heap.size none 0 0 [] 0 0 rfl 2 2 rfl (by omega) (by omega) w (Gr.nil w) (by omega) [0, 0] (by decide)).mono ?_; rintro r w1 ⟨a1, n1, c1, rfl, g1, m1⟩; have b1 := m1.below (Gr.nil w))
    refine wp_loop_rounds 1 ?_
    rw [rounds_succ]
    go_wp2
    go_ret2
    exact ⟨a1, n1, c1, rfl, g1.tx, b1⟩

theorem may_no {l : List Ent} {k : Nat} {e : Ent} (h : l[k]? = some e) (hf : fitsE e = false) : mayL l = false := by
  cases hm : mayL l with
  | false => rfl
  | true =>
    have := ((mayL_iff l).1 hm).2 e (List.mem_of_getElem? h)
    rw [hf] at this
    cases this

set_option maxHeartbeats 2000000 in
theorem fbatch_no (ao : Option Addr) (len cap : Nat) (l : List Ent) (w : World) (h : Lx 3 RE w ao len cap l) (hm : mayL l = false) :
    Calls Try.prog 24 #[.slice ao len cap] w fun e w' => e = .returned (.tuple #[.slice none 0 0, .int .i64 3]) ∧ Below w.heap.size w w' := by
  have hl := h.len_eq
  have hle := h.le
  have htop := h.top
  unfold maxLen at htop
  by_cases hbig : 8191 < len
  · go_enter Try.func24, Try.ntmps24
    go_wp2
    go_ret2
    exact ⟨rfl, Below.refl _ _⟩
  · have hx : ∃ k, ∃ hk : k < l.length, fitsE l[k] = false := by
      apply Classical.byContradiction
      intro hn
      have : mayL l = true := (mayL_iff l).2 ⟨by omega, fun e he => by
        obtain ⟨i, hi, rfl⟩ := List.getElem_of_mem he
        cases hf : fitsE l[i] with
        | true => rfl
        | false => exact absurd ⟨i, hi, hf⟩ hn⟩
      rw [hm] at this
      cases this
    obtain ⟨q, hq, hqf⟩ := hx
    obtain ⟨b, off, rfl, hc⟩ := h.headE (by omega)
    go_enter Try.func24, Try.ntmps24
    go_wp2
    go_loopw [14] (fun i wr => ∃ k : Nat, k ≤ q ∧ i = .int .i64 k ∧ Below w.heap.size w wr) (fun i _ => len - (intOf i).toNat)
    case atStart => exact ⟨0, by omega, rfl, Below.refl _ _⟩
    case round =>
      obtain ⟨k, hk, rfl, hb⟩ := hrel
      have hk2 : k < len := by omega
      obtain ⟨ko, kl, kc, vo, vl, vc, c0, c1, c2, tk, tv⟩ := hc k (l[k]'(by omega)) (by simp)
      have c0 := cell_later hb c0
      have c1 := cell_later hb c1
      have c2 := cell_later hb c2
      have hkq : fitsE (l[k]'(by omega)) = true → k < q := by
        intro ht
        apply Classical.byContradiction
        intro hn
        have : k = q := by omega
        subst this
        rw [hqf] at ht; cases ht
      generalize l[k]'(by omega) = e at c2 tk tv hkq
      have hcall := fun V => fits_any ko vo kl kc vl vc e V tk.len_eq tv.len_eq
      generalize fitsE e = F at hcall hkq
      generalize e.g = G at c2 hcall
      have hbz := hb.size
      cases F with
      | true =>
        have hkq := hkq rfl
        go_wp2_with (go_at_call 37; with_reducible refine (hcall _).mono ?_; rintro r w1 ⟨rfl, b1⟩)
        go_roundw
        case rel => exact ⟨k + 1, by omega, by go_num, (hb.alloc hb.size _).trans (b1.mono (by simp; omega))⟩
        case measure => simp [intOf]; omega
      | false =>
        go_wp2_with (go_at_call 37; with_reducible refine (hcall _).mono ?_; rintro r w1 ⟨rfl, b1⟩)
        go_ret2
        exact ⟨rfl, (hb.alloc hb.size _).trans (b1.mono (by simp; omega))⟩

end Go.Proofs.Ytondfbjldonogaa
