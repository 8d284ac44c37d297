/- The statements' own joined: the oldest first, each over what is there. -/
import Derived.Test.YtjbppedphadenaaMRef
import Derived.Test.YtjbppedphadenaaGMod
import Derived.Test.YtjbppedphadenaaMOpenX
namespace Go.Proofs.Ytjbppedphadenaa
set_option maxRecDepth 100000
open Go.RowKit Go.Sort

theorem Lx.rex0 {w : World} {ao : Option Addr} {l c : Nat} {es : List Ent} (h : Lx 3 RE w ao l c es) : Lx 3 (REx []) w ao l c es := ⟨h.len_eq, h.le, h.top, h.bare, fun ad ha j e he => h.cell ad ha j e he⟩
theorem Lx.of_rex0 {w : World} {ao : Option Addr} {l c : Nat} {es : List Ent} (h : Lx 3 (REx []) w ao l c es) : Lx 3 RE w ao l c es := ⟨h.len_eq, h.le, h.top, h.bare, fun ad ha j e he => h.cell ad ha j e he⟩
theorem Lx.of_rwx0 {w : World} {ao : Option Addr} {l c : Nat} {es : List Ent} (h : Lx 3 (RWX [] w) w ao l c es) : Lx 3 RE w ao l c es := ⟨h.len_eq, h.le, h.top, h.bare, fun ad ha j e he => h.cell ad ha j e he⟩
set_option maxHeartbeats 4000000 in
theorem joined_any (ao : Option Addr) (la ca : Nat) (ls : List (List Ent)) (w : World) (h : Lx 1 RL w ao la ca ls) (sa : la ≤ 1000) (sl : ∀ l ∈ ls, l.length ≤ 1000) (sj : ∀ i, (joinL (ls.drop i)).length ≤ 1000) (sk : ∀ l ∈ ls, ∀ e ∈ l, e.k.length ≤ 1000000 ∧ e.v.length ≤ 1000000) :
    Calls Try.prog 6 #[.slice ao la ca] w fun e w' => ∃ bo lb cb, e = .returned (.slice bo lb cb) ∧ Lx 3 RE w' bo lb cb (joinL ls) ∧ Below w.heap.size w w' := by
  have hl := h.len_eq
  have hle := h.le
  have htop := h.top
  unfold maxLen at htop
  have hn0 : joinL (ls.drop la) = [] := by rw [List.drop_eq_nil_of_le (by omega)]; rfl
  go_enter Try.func6, Try.ntmps6
  go_wp2
  go_loopw [3, 4] (fun s3 s4 wr => ∃ (i m : Nat) (bo : Option Addr) (cb : Nat), i ≤ la ∧ s4 = .int .i64 ((i : Int) - 1) ∧ s3 = .slice bo m cb ∧ Lx 3 RE wr bo m cb (joinL (ls.drop i)) ∧ Below w.heap.size w wr) (fun _ s4 _ => (intOf s4 + 1).toNat)
  case atStart => exact ⟨la, 0, none, 0, by omega, rfl, rfl, by rw [hn0]; exact Lx.nil _ _ _, Below.refl _ _⟩
  case round =>
    obtain ⟨i, m, bo, cb, hi, rfl, rfl, hls, hb⟩ := hrel
    cases i with
    | zero =>
      rw [List.drop_zero] at hls
      go_wp2
      go_ret
      exact ⟨bo, m, cb, rfl, hls, hb⟩
    | succ q =>
      obtain ⟨b, off, rfl, hc⟩ := h.headL (by omega)
      have hx : ls[q]? = some (ls[q]'(by omega)) := by simp
      obtain ⟨eo, el, ec, c0, tl⟩ := hc q _ hx
      have hmem : ls[q]'(by omega) ∈ ls := List.getElem_mem (by omega)
      have hlen := sl _ hmem
      have hsz := sk _ hmem
      have hsj := sj (q + 1)
      have hst : joinL (ls.drop q) = putL (joinL (ls.drop (q + 1))) (ls[q]'(by omega)) := by
        rw [List.drop_eq_getElem_cons (by omega)]; rfl
      generalize ls[q]'(by omega) = es at hx tl hlen hsz hst
      rw [tl.len_eq] at hlen
      rw [hls.len_eq] at hsj
      have c0 := cell_later hb c0
      have hp := rput_any [] bo m cb _ eo el ec es wr hls.rex0 (tl.later RE.stable hb) hsj hlen (by simp) hsz
      have hst : Hid (joinL (ls.drop q) = putL (joinL (ls.drop (q + 1))) es) := hst
      have hq : ((q + 1 : Nat) : Int) - 1 = (q : Int) := by omega
      have hqi : (q : Int) < la := by omega
      rw [hq]
      clear hq hx hc
      go_wp2_with fail
      with_reducible refine hp.mono ?_
      clear hp
      rintro r V ⟨ro, rl, rc, rfl, hr, bV⟩
      have hV := hr.read.of_rwx0
      have hbV := below_tr2 hb bV
      go_wp2
      go_roundw
      case rel => exact ⟨q, rl, ro, rc, by omega, by go_num, rfl, by rw [hst.out]; exact hV, hbV⟩
      case measure => simp [intOf]
end Go.Proofs.Ytjbppedphadenaa
