/- The walk of Join. -/
import Derived.Test.YtjbppedphadenaaGJoinP
import Derived.Test.YtjbppedphadenaaMOpenX
import Derived.Deep.LoopGhost
namespace Go.Proofs.Ytjbppedphadenaa
set_option maxRecDepth 100000
open Go.RowKit Go.Sort

theorem hid_eqJ {a b : Nat} (h : a = b) : Hid (a = b) := h
/-- What Join is handed. -/
structure JIn (ls : List (List Ent)) : Prop where
  rows : RowsP ls
  n : ls.length ≤ 1000
  len : ∀ l ∈ ls, l.length ≤ 1000
  size : ∀ l ∈ ls, ∀ e ∈ l, e.k.length ≤ 1000000000 ∧ e.v.length ≤ 1000000000
theorem hs_start (w : World) : Hs w (w.alloc (.cells #[.slice none 0 0] 39)) [w.heap.size] w.heap.size (.slice none 0 0) [] := by
  refine ⟨(Below.refl _ _).alloc (Nat.le_refl _) _, heap_alloc_new w _, ⟨by simp, .inl ⟨rfl, rfl⟩⟩, by simp, by simp, by simp, by simp, by simp [own, Value.ownBlock], by simp, by simp, by simp⟩
set_option maxHeartbeats 16000000 in
theorem join_any (ao : Option Addr) (la ca : Nat) (ls : List (List Ent)) (w : World) (h : Lx 1 RL w ao la ca ls) (hI : JIn ls) :
    Calls Try.prog 8 #[.slice ao la ca] w fun x w' => ∃ bo lb cb, x = .returned (.slice bo lb cb) ∧ Lx 3 RE w' bo lb cb (joinL ls) ∧ Below w.heap.size w w' := by
  have hmf : ∀ (fn : Fn) (first cap : Array Value) (w : World), (Instr.makeFunc fn first cap).run Try.prog w = .ok (.func fn first cap) w := fun _ _ _ _ => rfl
  have hla := h.len_eq
  have hn := hI.n
  have H0 := hs_start w
  have hnil : HeapOn [] 0 := fun i j x y _ hj => by omega
  go_enter Try.func8, Try.ntmps8
  go_wp2
  go_loopw [4, 5, 6, 11] (fun _ _ _ s11 wr => ∃ (i : Nat) (v : Value) (S : List Nat) (hs : List Nd), i ≤ la ∧ s11 = .int .i64 i ∧ Hs w wr S w.heap.size v hs ∧ HeapOn hs hs.length ∧ AddI ls i hs ∧ Hid (hs.length ≤ i) ∧ Hid (cost hs ≤ 1000 * i) ∧ Hid (∀ n ∈ hs, n.ll ≤ 1000)) (fun _ _ _ s11 _ => la - (intOf s11).toNat)
  case atStart => exact ⟨0, _, _, [], by omega, rfl, H0, hnil, AddI.start ls, Nat.le_refl 0, Nat.le_refl 0, by simp [Hid]⟩
  case round =>
    obtain ⟨i, v, S, hs, hi, rfl, H, hH, hA, hl, hc, hz⟩ := hrel
    by_cases hi2 : i < la
    · obtain ⟨b, off, rfl, hcell⟩ := h.headL (by omega)
      have hx : ls[i]? = some (ls[i]'(by omega)) := by simp
      obtain ⟨eo, el, ec, c0, tl⟩ := hcell i _ hx
      have hmem : ls[i]'(by omega) ∈ ls := List.getElem_mem (by omega)
      have hlen := hI.len _ hmem
      have hsz := hI.size _ hmem
      generalize ls[i]'(by omega) = es at hx tl hlen hsz
      have hel := tl.len_eq
      have c0 := cell_later H.below c0
      have bA : Below wr.heap.size wr (wr.alloc (.cells #[.slice eo el ec] 42)) := (Below.refl _ _).alloc (Nat.le_refl _) _
      have HA := H.later bA
      have hrow := heap_alloc_new wr (.cells #[.slice eo el ec] 42)
      have hfr : ∀ m ∈ hs, m.r ≠ wr.heap.size := fun m hm => by have := heap_lt (H.nodes m hm).1.row; omega
      have hwr := H.below.size
      have hiI : (i : Int) < la := by omega
      cases es with
      | nil =>
        have : el = 0 := by simpa using hel.symm
        subst this
        have hadd := add_none w.heap.size i wr.heap.size eo ec _ hrow
        unfold fnNext at hadd
        clear hrow hel hlen hsz
        go_wp2_with fail
        with_reducible refine hadd.mono ?_
        clear hadd
        rintro x V ⟨rfl, bV⟩
        go_wp2
        go_roundw
        case rel => exact ⟨i + 1, v, S, hs, by omega, by go_num, HA.later bV, hH, hA.none hx, by have := hl.out; show _ ≤ _; omega, by have := hc.out; show _ ≤ _; omega, hz⟩
        case measure => simp [intOf]; omega
      | cons e rest =>
        have hadd := add_some HA hH (by have := hl.out; omega) i wr.heap.size eo el ec e rest hrow tl (by omega) hsz hfr hwr
        unfold fnNext at hadd
        clear hrow hel
        go_wp2_with fail
        with_reducible refine hadd.mono ?_
        clear hadd
        rintro x V ⟨rfl, v', S', hs', n, H', hH', P', ha, he, hr, hr'⟩
        go_wp2
        go_roundw
        case rel => 
          subst he hr
          have hll : Hid (∀ n ∈ hs', n.ll ≤ 1000) := fun m hm => by
            rcases List.mem_append.1 (P'.mem_iff.1 hm) with h1 | h1
            · exact hz.out m h1
            · have : m = n := by simpa using h1
              subst this
              have := (H'.nodes m hm).2.lx.len_eq
              simp at hlen; omega
          exact ⟨i + 1, v', S', hs', by omega, by go_num, H', hH', hA.some hx ha P', by have := hl.out; have := P'.length_eq; simp at this; show _ ≤ _; omega, by have := hc.out; have := cost_perm P'; rw [cost_app] at this; simp at hlen; show _ ≤ _; omega, hll⟩
        case measure => simp [intOf]; omega
    · have him : i = ls.length := by omega
      have hiI : ¬ (i : Int) < la := by omega
      rw [him] at hA hl hc
      have hJ := hA.ji
      have hcN : cost hs ≤ 1000000 := by have := hc.out; omega
      have hlN : hs.length ≤ 1000 := by have := hl.out; omega
      have hSt := H.top
      have hlow := H.low
      clear hc hl hA hi hi2 H0 hnil h
      obtain ⟨W2, hW2⟩ : ∃ W2, W2 = wr := ⟨_, rfl⟩
      subst hW2
      have hw2 := H.below.size
      go_wp2
      go_loopg [7, 8] (cost hs) (fun k s7 _ wr => ∃ (v : Value) (hs' : List Nd) (out : List Ent) (m : Nat) (bo : Option Addr) (cb : Nat), s7 = .slice bo m cb ∧ Hs w wr S w.heap.size v hs' ∧ HeapOn hs' hs'.length ∧ JI ls out hs' ∧ Hid (cost hs' ≤ k ∧ out.length + cost hs' ≤ 1000000 ∧ hs'.length ≤ 1000 ∧ (∀ n ∈ hs', n.ll ≤ 1000) ∧ m = out.length ∧ (∀ y ∈ out, y.k.length ≤ 1000000000)) ∧ Ls 26 3 (REx S) wr W2.heap.size (.slice bo m cb) out ∧ W2.heap.size ≤ wr.heap.size)
      case atStart => exact ⟨v, hs, [], 0, none, 0, rfl, H, hH, hJ, ⟨Nat.le_refl _, by simpa using hcN, hlN, hz.out, rfl, by simp⟩, Ls.nil _ _ _ _ _, Nat.le_refl _⟩
      case round =>
        clear H hH hJ hz hcN hlN
        obtain ⟨v, hs', out, m, bo, cb, rfl, H, hH, hJ, hK, hls, hw⟩ := hrel
        obtain ⟨c0, _⟩ := H.cell0
        cases hs' with
        | nil =>
          obtain ⟨ao', cap', rfl⟩ := H.form
          have hdone := hJ.done hI.rows
          obtain ⟨ao9, cap9, e9, hl9⟩ := hls.read (REx.st S) (REx.pl S)
          simp only [Value.slice.injEq] at e9
          obtain ⟨rfl, rfl, rfl⟩ := e9
          have hl9 : Lx 3 RE wr bo out.length cb out := ⟨hl9.len_eq, hl9.le, hl9.top, hl9.bare, fun ad ha j x hx => by
            obtain ⟨u, h1, k, v', hu, hk, hv⟩ := hl9.cell ad ha j x hx
            exact ⟨u, h1, k, v', hu, hk.off (.refl _ _) (by simp), hv.off (.refl _ _) (by simp)⟩⟩
          have hB := H.below
          clear hJ hK hls
          go_wp2
          go_ret
          exact ⟨bo, out.length, cb, rfl, by rw [← hdone]; exact hl9, hB⟩
        | cons t tl =>
          obtain ⟨ao', cap', hv⟩ := H.form
          subst hv
          obtain ⟨k1, k2, k3, k4, k5, k6⟩ := hK.out
          have hk5 : Hid (m = out.length) := k5
          clear k5
          have htk := take_any H hH (by simp at k3; omega) (by have := k4 t (by simp); omega)
          have hmin := hH.top (t := t) rfl
          have hnk := (H.nodes t (by simp)).2
          have hlenI : (0 : Int) < ((t :: tl).length : Int) := by rw [List.length_cons]; omega
          obtain ⟨ko, kl, kc, ek, tk, _⟩ := hnk.k
          obtain ⟨vo, vl, vc, ev, tv, _⟩ := hnk.v
          have sk := hnk.sk
          have sv := hnk.sv
          rw [tk.len_eq] at sk
          rw [tv.len_eq] at sv
          have hJs := fun hs1 (hn1 : nextsP t tl hs1) => hJ.step hI.rows hmin hn1
          obtain ⟨G, hG⟩ : ∃ G, Hid (t.e.g = G) := ⟨_, rfl⟩
          rw [ek, ev, hG.out] at htk
          go_wp2_with fail
          with_reducible refine htk.mono ?_
          clear htk
          rintro x V ⟨kv, vv, rfl, rfl, rfl, v', hs1, H1, hH1, ⟨hnx, hll⟩, O1⟩
          have hJ1 := hJs hs1 hnx
          have hc1 := cost_next hnx
          have hl1 := len_next hnx
          have bV : Below V.heap.size V (V.alloc (.cells #[.slice ko kl kc, .slice vo vl vc, .bool G] 26)) := (Below.refl _ _).alloc (Nat.le_refl _) _
          have hlsV := (hls.offX O1 hSt).later (REx.st S) bV
          have HV := H1.later bV
          have bx := Boxf.new' V (.slice ko kl kc) (.slice vo vl vc) G
          have hb1 := HV.below
          have tkV := tk.later hb1
          have tvV := tv.later hb1
          have hVw : W2.heap.size ≤ V.heap.size := Nat.le_trans hw O1.size
          have hV1 : V.heap.size < (V.alloc (.cells #[.slice ko kl kc, .slice vo vl vc, .bool G] 26)).heap.size := by simp
          go_wp2_with fail
          generalize V.alloc (.cells #[.slice ko kl kc, .slice vo vl vc, .bool G] 26) = V1 at *
          have hn2 : hs1.length ≤ 1000 ∧ (∀ n ∈ hs1, n.ll ≤ 1000) := ⟨by simp at k3; omega, fun n hn => by
            rcases hll n hn with h1 | h1
            · exact k4 n (by simp [h1])
            · have := k4 t (by simp); omega⟩
          have hcN : out.length + 1 + cost hs1 ≤ 1000000 ∧ cost hs1 < gk := by omega
          have hks : ∀ y ∈ out ++ [norm t.e], y.k.length ≤ 1000000000 := fun y hy => by
            rcases List.mem_append.1 hy with h1 | h1
            · exact k6 y h1
            · have : y = norm t.e := by simpa using h1
              subst this
              rw [norm_k]; exact hnk.sk
          clear hJs hll hmin hnx hH H hJ hls c0 hlenI O1 H1 hK k1 k2 k3 k4 hb1 bV
          generalize ht : t.e = te at *
          rcases List.eq_nil_or_concat out with he | ⟨o', y, he⟩
          · obtain rfl : m = 0 := by have := hk5.out; rw [he] at this; simpa using this
            have cb0 := fun d os => cell_regrown bx.c0 d os
            refine wp_region_quiet_below (by kernel_rfl) (by kernel_rfl) ?_
            repeat (go_big_quiet_step (fail))
            (with_reducible refine wpQuiet_nil ?_)
            intro _ hw'
            obtain ⟨⟨dq, osq⟩, hw''⟩ := hw'
            subst hw''
            have hbq := below_regrown V1 dq osq
            clear cb0
            generalize grow (redrawn V1 dq) osq = V2 at hbq ⊢
            have H2 := HV.later hbq
            have hls2 := hlsV.later (REx.st S) hbq
            have hst := outStep_app (out := out) (e := te) (.inl he)
            rw [hst] at hJ1
            have hown := own_any ko kl kc vo vl vc G te.k te.v V2 (tkV.later hbq) (tvV.later hbq) sk sv
            have bx2 := bx.off (S := []) (.of_below hbq) (by simp)
            obtain ⟨p0, p1, p2, _⟩ := bx2
            go_wp2_with fail
            with_reducible refine hown.mono ?_
            clear hown p0 p1 p2
            rintro x V3 ⟨ko', kc', vo', vl', vc', rfl, nk, nv, bV3⟩
            have bA : Below V3.heap.size V3 (V3.alloc (.cells #[.slice ko' kl kc', .slice vo' vl' vc', .bool G] 26)) := (Below.refl _ _).alloc (Nat.le_refl _) _
            have bV4 := bV3.trans (bA.mono bV3.size)
            have hS2 : ∀ k ∈ S, k < V2.heap.size := fun k hk => Nat.lt_of_lt_of_le (hSt k hk) (Nat.le_trans hVw (Nat.le_trans (Nat.le_of_lt hV1) hbq.size))
            have HR := rex_nw hls2 hS2 hG.out nk nv bA
            have HL := hls2.later (REx.st S) bV4
            have H3 := H2.later bV4
            have hC := cells3_at V3 V3.heap.size rfl (.slice ko' kl kc') (.slice vo' vl' vc') (.bool G)
            have hacc : out.length ≤ 1000000000 := by omega
            have hW4 : W2.heap.size ≤ (V3.alloc (.cells #[.slice ko' kl kc', .slice vo' vl' vc', .bool G] 26)).heap.size := by have := bV4.size; have := hbq.size; omega
            have hZ : Hid (out.length + 1 + cost hs1 ≤ 1000000 ∧ cost hs1 < gk ∧ hs1.length ≤ 1000 ∧ (∀ n ∈ hs1, n.ll ≤ 1000) ∧ (∀ y ∈ out ++ [norm te], y.k.length ≤ 1000000000)) := ⟨hcN.1, hcN.2, hn2.1, hn2.2, hks⟩
            clear nk nv bV3 bA HV hlsV tkV tvV bx hst hks hn2
            go_wp2_with (with_reducible show wpList _ _ _ (⟨some 47, _, _, _, _, _⟩ :: _) _ _; refine wpList_one (REx.st S) (REx.pl S) Try.underlying23 Try.info26 rfl (by omega) (by omega) rfl _ _ rfl W2.heap.size (.slice bo 0 cb) out rfl HL ⟨V3.heap.size, 0, none⟩ 1 [.slice ko' kl kc', .slice vo' vl' vc', .bool G] _ rfl hC HR hacc hW4 ?_; intro ao5 n5 c5 w5 hn5 hls5 hof5 hsub5; have hn6 := hid_eqJ hn5; clear hn5)
            have H5 := H3.off hof5 (fun k hk hkS => by have := (hls2.lt k hk).2; have := hSt k hkS; omega) (fun k hk => by have := (hls2.lt k hk).2; omega)
            go_roundg (cost hs1)
            case measure => exact hZ.out.2.1
            case rel => exact ⟨v', hs1, out ++ [norm te], n5, ao5, c5, rfl, H5, hH1, hJ1, ⟨Nat.le_refl _, by rw [List.length_append]; exact hZ.out.1, hZ.out.2.2.1, hZ.out.2.2.2.1, by rw [List.length_append]; exact hn6.out, hZ.out.2.2.2.2⟩, hls5, by have := hof5.size; omega⟩
          · have hy : out.getLast? = some y := by rw [he]; simp
            have hym : y ∈ out := by rw [he]; simp
            clear he
            obtain ⟨g, yo, yl, yc, rfl, -, cy, ty, hmc, hct⟩ := hlsV.last hy
            have sy := k6 y hym
            rw [ty.len_eq] at sy
            obtain ⟨r, hr⟩ : ∃ r, m = r + 1 := ⟨m - 1, by have := hk5.out; have := List.length_pos_of_mem hym; omega⟩
            subst hr
            unfold maxLen at hct
            rw [Nat.add_sub_cancel] at cy
            obtain ⟨F, hF⟩ : ∃ F, Hid (lessB y.k te.k = F) := ⟨_, rfl⟩
            have cyq := fun d os => cell_regrown cy d os
            have hord := fun d os => less_any yo ko yl yc kl kc y.k te.k _ (ty.later (below_regrown V1 d os)) (tkV.later (below_regrown V1 d os)) (by omega) (by omega)
            rw [hF.out] at hord
            have g0 : ((r : Int) + 1 == 0) = false := by simp; omega
            cases F with
            | true =>
              have cb0 := fun d os => cell_regrown bx.c0 d os
              refine wp_region_quiet_below (by kernel_rfl) (by kernel_rfl) ?_
              repeat (go_big_quiet_step (first | (go_at_call 21; exact Calls.regrown_of (hord _ _))))
              (with_reducible refine wpQuiet_nil ?_)
              intro _ hw'
              obtain ⟨⟨dq, osq⟩, hw''⟩ := hw'
              subst hw''
              have hbq := below_regrown V1 dq osq
              clear cb0
              generalize grow (redrawn V1 dq) osq = V2 at hbq ⊢
              have H2 := HV.later hbq
              have hls2 := hlsV.later (REx.st S) hbq
              have hst := outStep_app (out := out) (e := te) (.inr ⟨y, hy, hF.out⟩)
              rw [hst] at hJ1
              have hown := own_any ko kl kc vo vl vc G te.k te.v V2 (tkV.later hbq) (tvV.later hbq) sk sv
              have bx2 := bx.off (S := []) (.of_below hbq) (by simp)
              obtain ⟨p0, p1, p2, _⟩ := bx2
              go_wp2_with fail
              with_reducible refine hown.mono ?_
              clear hown p0 p1 p2
              rintro x V3 ⟨ko', kc', vo', vl', vc', rfl, nk, nv, bV3⟩
              have bA : Below V3.heap.size V3 (V3.alloc (.cells #[.slice ko' kl kc', .slice vo' vl' vc', .bool G] 26)) := (Below.refl _ _).alloc (Nat.le_refl _) _
              have bV4 := bV3.trans (bA.mono bV3.size)
              have hS2 : ∀ k ∈ S, k < V2.heap.size := fun k hk => Nat.lt_of_lt_of_le (hSt k hk) (Nat.le_trans hVw (Nat.le_trans (Nat.le_of_lt hV1) hbq.size))
              have HR := rex_nw hls2 hS2 hG.out nk nv bA
              have HL := hls2.later (REx.st S) bV4
              have H3 := H2.later bV4
              have hC := cells3_at V3 V3.heap.size rfl (.slice ko' kl kc') (.slice vo' vl' vc') (.bool G)
              have hacc : out.length ≤ 1000000000 := by omega
              have hW4 : W2.heap.size ≤ (V3.alloc (.cells #[.slice ko' kl kc', .slice vo' vl' vc', .bool G] 26)).heap.size := by have := bV4.size; have := hbq.size; omega
              have hZ : Hid (out.length + 1 + cost hs1 ≤ 1000000 ∧ cost hs1 < gk ∧ hs1.length ≤ 1000 ∧ (∀ n ∈ hs1, n.ll ≤ 1000) ∧ (∀ y ∈ out ++ [norm te], y.k.length ≤ 1000000000)) := ⟨hcN.1, hcN.2, hn2.1, hn2.2, hks⟩
              clear nk nv bV3 bA HV hlsV tkV tvV bx hst hks hn2
              go_wp2_with (with_reducible show wpList _ _ _ (⟨some 47, _, _, _, _, _⟩ :: _) _ _; refine wpList_one (REx.st S) (REx.pl S) Try.underlying23 Try.info26 rfl (by omega) (by omega) rfl _ _ rfl W2.heap.size (.slice (some ⟨g, 0, none⟩) (r + 1) cb) out rfl HL ⟨V3.heap.size, 0, none⟩ 1 [.slice ko' kl kc', .slice vo' vl' vc', .bool G] _ rfl hC HR hacc hW4 ?_; intro ao5 n5 c5 w5 hn5 hls5 hof5 hsub5; have hn6 := hid_eqJ hn5; clear hn5)
              have H5 := H3.off hof5 (fun k hk hkS => by have := (hls2.lt k hk).2; have := hSt k hkS; omega) (fun k hk => by have := (hls2.lt k hk).2; omega)
              go_roundg (cost hs1)
              case measure => exact hZ.out.2.1
              case rel => exact ⟨v', hs1, out ++ [norm te], n5, ao5, c5, rfl, H5, hH1, hJ1, ⟨Nat.le_refl _, by rw [List.length_append]; exact hZ.out.1, hZ.out.2.2.1, hZ.out.2.2.2.1, by rw [List.length_append]; exact hn6.out, hZ.out.2.2.2.2⟩, hls5, by have := hof5.size; omega⟩
            | false =>
              have cb0 := fun d os => cell_regrown bx.c0 d os
              refine wp_region_quiet_below (by kernel_rfl) (by kernel_rfl) ?_
              repeat (go_big_quiet_step (first | (go_at_call 21; exact Calls.regrown_of (hord _ _))))
              (with_reducible refine wpQuiet_nil ?_)
              intro _ hw'
              obtain ⟨⟨dq, osq⟩, hw''⟩ := hw'
              subst hw''
              have hbq := below_regrown V1 dq osq
              clear cb0
              generalize grow (redrawn V1 dq) osq = V2 at hbq ⊢
              have H2 := HV.later hbq
              have hls2 := hlsV.later (REx.st S) hbq
              have hst := outStep_not (out := out) (e := te) hy hF.out
              rw [hst] at hJ1
              have hZ : Hid (out.length + 1 + cost hs1 ≤ 1000000 ∧ cost hs1 < gk ∧ hs1.length ≤ 1000 ∧ (∀ n ∈ hs1, n.ll ≤ 1000)) := ⟨hcN.1, hcN.2, hn2.1, hn2.2⟩
              go_wp2
              go_roundg (cost hs1)
              case measure => exact hZ.out.2.1
              case rel => exact ⟨v', hs1, out, r + 1, _, cb, rfl, H2, hH1, hJ1, ⟨Nat.le_refl _, by have := hZ.out.1; omega, hZ.out.2.2.1, hZ.out.2.2.2, hk5.out, k6⟩, hls2, by have := hbq.size; omega⟩
end Go.Proofs.Ytjbppedphadenaa
