/- The walk of MemPlays. -/
import Derived.Test.YtjajpnlhdbcnkaaMRef
import Derived.Test.YtjajpnlhdbcnkaaMTells
import Derived.Test.YtjajpnlhdbcnkaaMKnown
import Derived.Test.YtjajpnlhdbcnkaaMOpenX
namespace Go.Proofs.Ytjajpnlhdbcnkaa
set_option maxRecDepth 100000
open Go.RowKit Go.Sort

/-- What was kept of entries that came in. -/
theorem kept_small (n K V : Nat) (hK : 1 ≤ K) (hK2 : K ≤ 12) (hV : V ≤ 20) (l : List Ent) : (∀ e ∈ keepL n K V l, fitsE e = true ∧ e.k.length ≤ 1000000 ∧ e.v.length ≤ 1000000 ∧ norm e = e) ∧ (keepL n K V l).length ≤ n := by
  refine ⟨fun e he => ?_, by simp only [keepL, List.length_map, List.length_take]; omega⟩
  simp only [keepL, List.mem_map] at he
  obtain ⟨x, _, rfl⟩ := he
  obtain ⟨h1, h2, h3, h4⟩ := cut_parts2 K V hK x
  exact ⟨(fitsE_iff _).2 ⟨h1, by omega, .inr (by omega)⟩, by omega, by omega, h4⟩
theorem Lv.rx {X : List Nat} {w : World} {ao : Option Addr} {n cap : Nat} {es : List Ent} (h : Lv 3 RE X w ao n cap es) : Lx 3 (REx X) w ao n cap es := h.lx
theorem sub_trans {S S1 S2 : List Nat} {a b : Nat} (h : ∀ k ∈ S1, k ∈ S ∨ a ≤ k) (hB : ∀ k ∈ S, a ≤ k) (g : ∀ k ∈ S2, k ∈ S1 ∨ b ≤ k) (hab : a ≤ b) : ∀ k ∈ S2, a ≤ k := fun k hk => by
  rcases g k hk with h1 | h1
  · rcases h k h1 with h2 | h2
    · exact hB k h2
    · exact h2
  · omega

set_option maxHeartbeats 8000000 in
theorem plays_walk (ao : Option Addr) (la ca : Nat) (ls : List (List Ent)) (fo : Option Addr) (fl fc : Nat) (fs : List Int) (uo : Option Addr) (tl tc : Nat) (ts : List Int) (w : World) (hl : Lx 1 RL w ao la ca ls) (hf : Tx w fo fl fc fs) (ht : Tx w uo tl tc ts) :
    Calls Try.prog 4 #[.slice ao la ca, .slice fo fl fc, .slice uo tl tc] w fun e w' => e = .returned (.bool true) ∧ Below w.heap.size w w' := by
  have hle := hl.le
  have htop := hl.top
  unfold maxLen at htop
  have hlen := hl.len_eq
  go_enter Try.func4, Try.ntmps4
  go_wp2_with fail
  with_reducible refine (new_any w).mono ?_
  rintro e W0 ⟨mb, rfl, M0, hmb, b0⟩
  have hm0 : mb < W0.heap.size := M0.lt mb (by simp)
  go_wp2
  go_loopw [8, 9, 10] (fun s8 s9 _ wr => ∃ (i : Nat) (es : List Ent) (S : List Nat) (wo : Option Addr) (wc : Nat), i ≤ la ∧ i ≤ 20 ∧ s9 = .int .i64 i ∧ s8 = .slice wo es.length wc ∧ Held (i * 6) es ∧ Mm wr mb S es ∧ Lv 3 RE S wr wo es.length wc es ∧ Hid (∀ k ∈ S, w.heap.size ≤ k) ∧ Below w.heap.size w wr) (fun _ s9 _ _ => 20 - (intOf s9).toNat)
  case atStart => exact ⟨0, [], [mb], none, 0, by omega, by omega, rfl, rfl, Held.nil.mono (by omega), M0, Lv.nil _ _ _ _, fun k hk => by simp at hk; omega, b0⟩
  case round =>
    obtain ⟨i, es, S, wo, wc, hi, hi20, rfl, rfl, hH, hM, hL, hS, hb⟩ := hrel
    by_cases hi2 : i < la ∧ i < 20
    · obtain ⟨b, off, rfl, hc⟩ := hl.headL (by omega)
      have hx : ls[i]? = some (ls[i]'(by omega)) := by simp
      obtain ⟨eo, el, ec, c0, lx⟩ := hc i _ hx
      generalize ls[i]'(by omega) = l at hx lx
      clear hx hc
      obtain ⟨j1, j2⟩ := hi2
      have j1I : (i : Int) < la := by omega
      have j2I : (i : Int) < 20 := by omega
      have c0 := cell_later hb c0
      have hSlt := hM.lt
      have lxr := lx.later RE.stable hb
      have lxv := (lx.low S (fun k hk => hS.out k hk)).lx.later (Rx.st S RE.stable) hb
      have hkp := keep_far S eo el ec l 6 4 9 6 4 9 rfl rfl rfl (by omega) (by omega) (by omega) wr lxr lxv hSlt
      obtain ⟨hks, hkn⟩ := kept_small 6 4 9 (by omega) (by omega) (by omega) l
      generalize keepL 6 4 9 l = x at hkp hks hkn
      go_wp2_with fail
      with_reducible refine hkp.mono ?_
      clear hkp
      rintro e V1 ⟨xo, xl, xc, rfl, lx1, b1⟩
      have hxl := lx1.lx.len_eq
      have B1 := hb.trans (b1.mono hb.size)
      have hpt := mput_any mb S es (i * 6) xo xl xc x V1 (hM.later b1) hH lx1 (fun e he => (hks e he).1) (by omega) (fun e he => ⟨(hks e he).2.1, (hks e he).2.2.1⟩)
      go_wp2_with fail
      with_reducible refine hpt.mono ?_
      clear hpt
      rintro e V2 ⟨rfl, S2, M2, of2, sub2⟩
      have B2 : Below w.heap.size w V2 := B1.trans (of2.below hS.out B1.size)
      have hS2 : ∀ k ∈ S2, w.heap.size ≤ k := sub_trans (a := w.heap.size) (fun k hk => .inl hk) hS.out sub2 B1.size
      have L2 := (hL.later RE.stable b1).off RE.stable RE.plain (by omega) of2 sub2
      have lx2 := lx1.off RE.stable RE.plain (by omega) of2 sub2
      have hS2lt := M2.lt
      have hH2 : Held ((i + 1) * 6) (putL es x) := (hH.put x (fun e he => (hks e he).1)).mono (by omega)
      have hel := hH.len
      have hrp := rput_any S2 wo es.length wc es xo xl xc x V2 L2.rx (lx2.read RE.stable) (by omega) (by omega) hS2lt (fun e he => ⟨(hks e he).2.1, (hks e he).2.2.1⟩)
      generalize putL es x = es2 at M2 hH2 hrp
      clear L2 lx2 lx1 hL hM lx lxr lxv
      go_wp2_with fail
      with_reducible refine hrp.mono ?_
      clear hrp
      rintro e V3 ⟨ro, rl, rc, rfl, q3, b3⟩
      have hrl := q3.lx.len_eq
      subst hrl
      have B3 := B2.trans (b3.mono B2.size)
      have M3 := M2.later b3
      have L3 := q3.lv hS2lt
      have tf3 := hf.later B3
      have tt3 := ht.later B3
      have hc1 := cut_at fo fl fc 5 5 fs V3 rfl tf3 (by omega)
      have hel2 := hH2.len
      go_wp2_with fail
      with_reducible refine hc1.mono ?_
      clear hc1
      rintro e V3' ⟨fl2, rfl, hfl2, tf4, rfl⟩
      have hc2 := cut_at uo tl tc 5 5 ts V3 rfl tt3 (by omega)
      go_wp2_with fail
      with_reducible refine hc2.mono ?_
      clear hc2
      rintro e V3' ⟨tl2, rfl, htl2, tt4, rfl⟩
      have htl := tells_any mb S2 es2 ((i + 1) * 6) ro rc fo fl2 fc (fs.take 5) uo tl2 tc (ts.take 5) V3 M3 hH2 (by omega) (L3.read RE.stable) tf4 tt4 (by omega) (by omega)
      go_wp2_with fail
      with_reducible refine htl.mono ?_
      clear htl
      rintro e V4 ⟨rfl, b4⟩
      have hS2H : Hid (∀ k ∈ S2, w.heap.size ≤ k) := hS2
      have M4 := M3.later b4
      have L4 := L3.later RE.stable b4
      have B4 := B3.trans (b4.mono B3.size)
      clear hS2 q3 tf3 tt3 tf4 tt4 M3 L3 B3
      go_wp2
      go_roundw
      case rel => exact ⟨i + 1, es2, S2, ro, rc, by omega, by omega, by go_num, rfl, hH2, M4, L4, hS2H, B4⟩
      case measure => simp [intOf]; omega
    · have hq : (i : Int) < (la : Int) → ¬ (i : Int) < 20 := by omega
      go_wp2_with (go_at_call 11; with_reducible refine (known_any wr).mono ?_; rintro e W9 ⟨rfl, b9⟩)
      all_goals go_ret
      all_goals exact ⟨rfl, hb.trans (b9.mono hb.size)⟩
end Go.Proofs.Ytjajpnlhdbcnkaa
