/- The walk of marigraphkeep.Rise. -/
import Derived.Test.YteeemfohehpaeaaBLaw
import Derived.Test.YteeemfohehpaeaaBRefA
import Derived.Test.YteeemfohehpaeaaPA
import Derived.Deep.RegionHeldLaw
namespace Go.Proofs.Yteeemfohehpaeaa
open Go.RowKit Go.Sort

theorem rise_take (l : List Ent) (i : Nat) (e : Ent) (h : l[i]? = some e) : riseL (l.take (i + 1)) = insR e (riseL (l.take i)) := by rw [take_snoc l i e h, rise_snoc]
/-- An entry's cells, read. -/
theorem Lx.headW {w0 w : World} {ao : Option Addr} {len cap : Nat} {l : List Ent} (h : Lx 3 (RW w0) w ao len cap l) (h0 : 0 < len) :
    ∃ b off, ao = some ⟨b, off, none⟩ ∧ ∀ j e, l[j]? = some e → ∃ ko kl kc vo vl vc, w.cell? ⟨b, off + j * 3, none⟩ = some (.slice ko kl kc) ∧ w.cell? ⟨b, off + j * 3 + 1, none⟩ = some (.slice vo vl vc) ∧ w.cell? ⟨b, off + j * 3 + 2, none⟩ = some (.bool e.g) ∧ Tx w0 ko kl kc e.k ∧ Tx w0 vo vl vc e.v := by
  obtain ⟨b, off, rfl, hc⟩ := h.head (RW.pl w0) (by omega) h0
  refine ⟨b, off, rfl, fun j e he => ?_⟩
  obtain ⟨u, h1, k, v, rfl, ⟨ko, kl, kc, rfl, tk, _⟩, ⟨vo, vl, vc, rfl, tv, _⟩⟩ := hc j e he
  exact ⟨ko, kl, kc, vo, vl, vc, by simpa using h1 0 _ rfl, by simpa [Nat.add_assoc] using h1 1 _ rfl, by simpa [Nat.add_assoc] using h1 2 _ rfl, tk, tv⟩

set_option maxHeartbeats 16000000 in
set_option maxRecDepth 100000 in
theorem rise_any (ao : Option Addr) (len cap : Nat) (l : List Ent) (w : World) (h : Lx 3 RE w ao len cap l) (hlen : len ≤ 1000) :
    Calls Try.prog 9 #[.slice ao len cap] w fun e w' => ∃ bo lb cb, e = .returned (.slice bo lb cb) ∧ Lx 3 RE w' bo lb cb (riseL l) ∧ Below w.heap.size w w' := by
  have hl := h.len_eq
  go_enter Try.func9, Try.ntmps9
  go_wp2
  go_loopw [3, 4, 5] (fun s3 s4 _ wr => ∃ (i m : Nat) (bo : Option Addr) (cb : Nat), i ≤ len ∧ s4 = .int .i64 i ∧ s3 = .slice bo m cb ∧ Hid (m = 0 → bo = none ∧ cb = 0) ∧ RO w wr bo m cb (riseL (l.take i)) ∧ Below w.heap.size w wr) (fun _ s4 _ _ => len - (intOf s4).toNat)
  case atStart => exact ⟨0, 0, none, 0, by omega, rfl, rfl, fun _ => ⟨rfl, rfl⟩, RO.nil _ _, Below.refl _ _⟩
  case round =>
    obtain ⟨i, m, bo, cb, hi, rfl, rfl, hm0, hro, hb⟩ := hrel
    have hml := hro.lx.len_eq
    have hm9 : m ≤ 1000 := by have := rise_len (l.take i); rw [List.length_take] at this; omega
    by_cases hi2 : i < len
    · have hx : l[i]? = some (l[i]'(by omega)) := by simp
      obtain ⟨b, off, rfl, hc⟩ := h.headE (by omega)
      obtain ⟨ko, kl, kc, vo, vl, vc, c0, c1, c2, tk, tv⟩ := hc i _ hx
      have hst := rise_take l i _ hx
      generalize l[i]'(by omega) = e at hx c2 tk tv hst
      have hX : Hid (l[i]? = some e) := hx
      have hst : Hid (riseL (l.take (i + 1)) = insR e (riseL (l.take i))) := hst
      clear hx
      obtain ⟨es, hes⟩ : ∃ es, Hid (riseL (l.take i) = es) := ⟨_, rfl⟩
      rw [hes.out] at hro hml
      obtain ⟨G, hG⟩ : ∃ G, Hid (e.g = G) := ⟨_, rfl⟩
      rw [hG.out] at c2
      have hRE : RE w [] [.slice ko kl kc, .slice vo vl vc, .bool G] e := ⟨_, _, by rw [hG.out], tk.at [] (by simp), tv.at [] (by simp)⟩
      have hmt := hro.lx.top
      have hmc := hro.lx.le
      unfold maxLen at hmt
      revert hro hb
      generalize wr = W0
      intro hb hro
      have c0w := cell_later hb c0
      have c1w := cell_later hb c1
      have c2w := cell_later hb c2
      go_wp2
      go_loopw [5] (fun s5 wz => ∃ k : Nat, k ≤ m ∧ s5 = .int .i64 k ∧ Hid (∀ (j : Nat) (y : Ent), j < k → es[j]? = some y → lessB y.k e.k = true) ∧ Below W0.heap.size W0 wz) (fun s5 _ => m - (intOf s5).toNat)
      case atStart => exact ⟨0, by omega, rfl, fun j y hj => (by omega), Below.refl _ _⟩
      case round =>
        obtain ⟨k, hk, rfl, hbef, hbz⟩ := hrel
        have hbw : Below w.heap.size w wr := hb.trans (hbz.mono hb.size)
        have cr0 := fun d os => cell_regrown (cell_later hbw c0) d os
        have sr0 := fun d os => ((tk.later hbw).later (below_regrown wr d os)).string
        by_cases hkm : k < m
        · obtain ⟨g, hbo, hg, hth⟩ := hro.th (by omega)
          subst hbo
          obtain ⟨g', o', hgo, hco⟩ := hro.lx.headW (by omega)
          cases hgo
          have hy : es[k]? = some (es[k]'(by omega)) := by simp
          obtain ⟨jo, jl, jc, uo, ul, uc, d0, d1, d2, tj, tu⟩ := hco k _ hy
          generalize es[k]'(by omega) = x at hy d2 tj tu
          have hY : Hid (es[k]? = some x) := hy
          clear hy
          rw [Nat.zero_add] at d0
          have dr0 := fun d os => cell_regrown (cell_later hbz d0) d os
          have sr1 := fun d os => ((tj.later hbw).later (below_regrown wr d os)).string
          have hless := str_less x.k e.k tj.rng tk.rng
          obtain ⟨F, hF⟩ : ∃ F, Hid (lessB x.k e.k = F) := ⟨_, rfl⟩
          rw [hF.out] at hless
          have hne := fun hh => str_ne (xs := x.k) (ys := e.k) tj.rng tk.rng hh
          have heq : x.k = e.k → strOfNums x.k = strOfNums e.k := fun hh => by rw [hh]
          have hki : (k : Int) < m := by omega
          cases F with
          | true =>
            have hnx : Hid (∀ (j : Nat) (y : Ent), j < k + 1 → es[j]? = some y → lessB y.k e.k = true) := fun j y hj hy => by
              by_cases hjk : j = k
              · subst hjk
                rw [hY.out] at hy
                cases hy
                exact hF.out
              · exact hbef.out j y (by omega) hy
            clear hne heq
            generalize strOfNums x.k = SX at sr1 hless
            generalize strOfNums e.k = SE at sr0 hless
            go_wp2_with fail
            refine wp_region_quiet_below (by kernel_rfl) (by kernel_rfl) ?_
            repeat (go_big_quiet_step (fail))
            (with_reducible refine wpQuiet_nil ?_)
            intro _ hw'
            obtain ⟨⟨dq, osq⟩, hw''⟩ := hw'
            subst hw''
            have hbq := hbz.trans ((below_regrown wr dq osq).mono hbz.size)
            go_wp2
            go_roundw
            case rel => exact ⟨k + 1, by omega, by go_num, hnx, hbq⟩
            case measure => simp [intOf]; omega
          | false =>
            by_cases hxe : x.k = e.k
            · have hins : Hid (insR e es = es.set k e) := ins_set e es k x hbef.out hY.out hxe
              have hss := heq hxe
              clear heq hne
              rw [hss] at sr1 hless
              generalize strOfNums e.k = SE at sr0 sr1 hless
              go_wp2_with fail
              refine wp_region_quiet_below (by kernel_rfl) (by kernel_rfl) ?_
              repeat (go_big_quiet_step (fail))
              (with_reducible refine wpQuiet_nil ?_)
              intro _ hw'
              obtain ⟨⟨dq, osq⟩, hw''⟩ := hw'
              subst hw''
              have hbq := hbz.trans ((below_regrown wr dq osq).mono hbz.size)
              have bq0 := below_regrown wr dq osq
              clear cr0 sr0 dr0 sr1
              have hbq2 := hbw.trans (bq0.mono hbw.size)
              generalize grow (redrawn wr dq) osq = V2 at hbq hbq2 ⊢
              have cr0 := fun d os => cell_regrown (cell_later hbq2 c0) d os
              have dr0 := fun d os => cell_regrown (cell_later hbq d0) d os
              have sr0' := fun d os => ((tk.later hbq2).later (below_regrown V2 d os)).string
              have sr1' := fun d os => ((tj.later hbq2).later (below_regrown V2 d os)).string
              rw [hss] at sr1'
              generalize strOfNums e.k = SE2 at sr0' sr1'
              go_wp2_with fail
              refine wp_region_quiet_below (by kernel_rfl) (by kernel_rfl) ?_
              repeat (go_big_quiet_step (fail))
              (with_reducible refine wpQuiet_nil ?_)
              intro _ hw'
              obtain ⟨⟨dq, osq⟩, hw''⟩ := hw'
              subst hw''
              have bq1 := below_regrown V2 dq osq
              have hbV := hbq2.trans (bq1.mono hbq2.size)
              have hroV := (hro.later hbq).later bq1
              clear cr0 dr0 sr0' sr1'
              generalize grow (redrawn V2 dq) osq = V at hbV hroV ⊢
              have cl0 := cell_later hbV c0
              have cl1 := cell_later hbV c1
              have cl2 := cell_later hbV c2
              go_wp2_with (with_reducible show wpList _ _ _ (⟨none, _, _, _, _, _⟩ :: _) _ _; refine wpList_putE rfl _ _ rfl g m cb k (.slice ko kl kc) (.slice vo vl vc) (.bool G) es e rfl rfl hroV hkm hRE hbV ?_; intro x2 ro2 b2)
              go_roundw
              case rel =>
                refine ⟨i + 1, m, some ⟨g, 0, none⟩, cb, by omega, by go_num, rfl, (fun h0 => by omega), ?_, b2⟩
                rw [hst.out, hes.out, hins.out]; exact ro2
              case measure => simp [intOf]; omega
            · have hins : Hid (insR e es = es.take k ++ [e] ++ es.drop k) := ins_mid e es k (by omega) hbef.out (fun z hz => by rw [hY.out] at hz; cases hz; exact ⟨hF.out, hxe⟩)
              have hss := hne hxe
              clear heq hne
              generalize strOfNums x.k = SX at sr1 hless hss
              generalize strOfNums e.k = SE at sr0 hless hss
              have hss2 : (SX.toList == SE.toList) = false := by simp [hss]
              go_wp2_with fail
              refine wp_region_quiet_below (by kernel_rfl) (by kernel_rfl) ?_
              repeat (go_big_quiet_step (fail))
              (with_reducible refine wpQuiet_nil ?_)
              intro _ hw'
              obtain ⟨⟨dq, osq⟩, hw''⟩ := hw'
              subst hw''
              have hbq := hbz.trans ((below_regrown wr dq osq).mono hbz.size)
              have bq0 := below_regrown wr dq osq
              have hbq2 := hbw.trans (bq0.mono hbw.size)
              have sr0b := fun d os => cell_regrown (cell_later hbq2 c0) d os
              clear cr0 dr0
              have hsa := fun d os => ((tk.later hbq2).later (below_regrown (grow (redrawn wr dq) osq) d os)).string
              have hsb := fun d os => ((tj.later hbq2).later (below_regrown (grow (redrawn wr dq) osq) d os)).string
              clear sr0b
              have hssn := str_ne tj.rng tk.rng hxe
              generalize grow (redrawn wr dq) osq = V2 at hbq hbq2 hsa hsb ⊢
              generalize strOfNums x.k = SX2 at hsb hssn
              generalize strOfNums e.k = SE2 at hsa hssn
              have hssn2 : (SX2.toList == SE2.toList) = false := by simp [hssn]
              have cr0 := fun d os => cell_regrown (cell_later hbq2 c0) d os
              have dr0 := fun d os => cell_regrown (cell_later hbq d0) d os
              clear sr0 sr1
              go_wp2_with fail
              refine wp_region_quiet_below (by kernel_rfl) (by kernel_rfl) ?_
              repeat (go_big_quiet_step (fail))
              (with_reducible refine wpQuiet_nil ?_)
              intro _ hw'
              obtain ⟨⟨dq, osq⟩, hw''⟩ := hw'
              subst hw''
              have bq1 := below_regrown V2 dq osq
              have hbV := hbq2.trans (bq1.mono hbq2.size)
              have hroV := (hro.later hbq).later bq1
              clear cr0 dr0 hsa hsb
              generalize grow (redrawn V2 dq) osq = V at hbV hroV ⊢
              have cl0 := cell_later hbV c0
              have cl1 := cell_later hbV c1
              have cl2 := cell_later hbV c2
              have lxK := hroV.lx.take k hk
              have hcbk : ¬ cb = k := by omega
              have lxD := hroV.lx.drop3 k hk
              rw [Nat.zero_add] at lxD
              go_wp2_with fail
              have hS := fun (W : World) (hW : Below V.heap.size V W) => (⟨cell_later hW cl0, cell_later hW cl1, cell_later hW cl2, hW⟩ : W.cell? ⟨b, off + i * 3, none⟩ = some (.slice ko kl kc) ∧ W.cell? ⟨b, off + i * 3 + 1, none⟩ = some (.slice vo vl vc) ∧ W.cell? ⟨b, off + i * 3 + 2, none⟩ = some (.bool G) ∧ Below V.heap.size V W)
              have b0 : Below V.heap.size V V.drew := (Below.refl _ _).drew
              have bA : Below V.heap.size V (V.alloc (.cells #[] 25)).drew := ((Below.refl _ _).alloc (Nat.le_refl _) _).drew
              have bC : Below V.heap.size V (V.alloc (.cells #[.slice ko kl kc, .slice vo vl vc, .bool G] 25)).drew := ((Below.refl _ _).alloc (Nat.le_refl _) _).drew
              have bAC : Below V.heap.size V ((V.alloc (.cells #[] 25)).alloc (.cells #[.slice ko kl kc, .slice vo vl vc, .bool G] 25)).drew := (((Below.refl _ _).alloc (Nat.le_refl _) _).alloc (by simp) _).drew
              have bCA : Below V.heap.size V ((V.alloc (.cells #[.slice ko kl kc, .slice vo vl vc, .bool G] 25)).alloc (.cells #[] 25)).drew := (((Below.refl _ _).alloc (Nat.le_refl _) _).alloc (by simp) _).drew
              have lsA := ls_empty_at w (V.alloc (.cells #[] 25)).drew V.heap.size V.heap.size (heap_alloc_new V _) (Nat.le_refl _)
              have lsAC := ls_empty_at w ((V.alloc (.cells #[] 25)).alloc (.cells #[.slice ko kl kc, .slice vo vl vc, .bool G] 25)).drew V.heap.size V.heap.size (by show (World.alloc _ _).heap[_]? = _; rw [Below.heap_alloc _ _ _ (by simp)]; exact heap_alloc_new V _) (Nat.le_refl _)
              have lsCA := ls_empty_at w ((V.alloc (.cells #[.slice ko kl kc, .slice vo vl vc, .bool G] 25)).alloc (.cells #[] 25)).drew (V.heap.size + 1) V.heap.size (by show (World.alloc _ _).heap[_]? = _; have := heap_alloc_new (V.alloc (.cells #[.slice ko kl kc, .slice vo vl vc, .bool G] 25)) (.cells #[] 25); rwa [show (V.alloc (.cells #[.slice ko kl kc, .slice vo vl vc, .bool G] 25)).heap.size = V.heap.size + 1 by simp] at this) (by omega)
              have cAC : ∀ j x, [.slice ko kl kc, .slice vo vl vc, .bool G][j]? = some x → ((V.alloc (.cells #[] 25)).alloc (.cells #[.slice ko kl kc, .slice vo vl vc, .bool G] 25)).drew.cell? ((⟨V.heap.size + 1, 0, none⟩ : Addr).add j) = some x := cells3_at (V.alloc (.cells #[] 25)) (V.heap.size + 1) (by simp) _ _ _
              have cCA : ∀ j x, [.slice ko kl kc, .slice vo vl vc, .bool G][j]? = some x → ((V.alloc (.cells #[.slice ko kl kc, .slice vo vl vc, .bool G] 25)).alloc (.cells #[] 25)).drew.cell? ((⟨V.heap.size, 0, none⟩ : Addr).add j) = some x := fun j x hx => cell_later (((Below.refl _ _).alloc (Nat.le_refl _) _).drew) (cells3_new V _ _ _ j x hx)
              have hVz : V.heap.size + 1 ∉ own (.slice (some ⟨V.heap.size, 0, none⟩) 0 0) := by simp [own, Value.ownBlock]
              have hVz2 : V.heap.size ∉ own (.slice (some ⟨V.heap.size + 1, 0, none⟩) 0 0) := by simp [own, Value.ownBlock]
              have ho1 : ∀ q ∈ own (.slice (some ⟨V.heap.size, 0, none⟩) 0 0), V.heap.size ≤ q := by simp [own, Value.ownBlock]
              have ho2 : ∀ q ∈ own (.slice (some ⟨V.heap.size + 1, 0, none⟩) 0 0), V.heap.size ≤ q := by simp [own, Value.ownBlock]
              have hcadd : ∀ (W : World) (g j : Nat), ((⟨g, 0, none⟩ : Addr).add j).block = g := fun W g j => add_block _ j
              go_region_held_law (fun w' => w'.cell? ⟨b, off + i * 3, none⟩ = some (.slice ko kl kc) ∧ w'.cell? ⟨b, off + i * 3 + 1, none⟩ = some (.slice vo vl vc) ∧ w'.cell? ⟨b, off + i * 3 + 2, none⟩ = some (.bool G) ∧ Below V.heap.size V w') (first | assumption | exact hS _ b0 | exact hS _ bA | exact hS _ bC | exact hS _ bAC | exact hS _ bCA | exact hS _ b6 | exact hS _ b6C | exact hS _ b7 | exact hS _ b8) (first
                | (refine step_allE rfl (.tmp 59) (.tmp 62) rfl w V.heap.size (.slice (some ⟨V.heap.size, 0, none⟩) 0 0) [] (by simp [Act.eval]) lsA (some ⟨g, 0, none⟩) k cb (es.take k) (by simp [Act.eval]) (lxK.later (RW.st w) bA) (by simp; omega) bA.size ?_; intro a6 n6 c6 w6 hn6 ls6 of6 sub6; have b6 : Below V.heap.size V w6 := bA.trans (of6.below ho1 bA.size); have b6C : Below V.heap.size V (w6.alloc (.cells #[.slice ko kl kc, .slice vo vl vc, .bool G] 25)) := b6.alloc b6.size _; have e6 := ls6.later (RW.st w) ((Below.refl w6.heap.size w6).alloc (Nat.le_refl _) (.cells #[.slice ko kl kc, .slice vo vl vc, .bool G] 25)); have f6 := cells3_new w6 (.slice ko kl kc) (.slice vo vl vc) (.bool G))
                | (refine step_allE rfl (.tmp 59) (.tmp 62) rfl w V.heap.size (.slice (some ⟨V.heap.size, 0, none⟩) 0 0) [] (by simp [Act.eval]) lsAC (some ⟨g, 0, none⟩) k cb (es.take k) (by simp [Act.eval]) (lxK.later (RW.st w) bAC) (by simp; omega) bAC.size ?_; intro a6 n6 c6 w6 hn6 ls6 of6 sub6; have b6 : Below V.heap.size V w6 := bAC.trans (of6.below ho1 bAC.size); have b6C := b6; have e6 := ls6; have f6 := fun (j : Nat) (x : Value) (hx : [.slice ko kl kc, .slice vo vl vc, .bool G][j]? = some x) => of6.cell (cAC j x hx) (by rw [hcadd w6]; exact hVz))
                | (refine step_allE rfl (.tmp 59) (.tmp 62) rfl w V.heap.size (.slice (some ⟨V.heap.size + 1, 0, none⟩) 0 0) [] (by simp [Act.eval]) lsCA (some ⟨g, 0, none⟩) k cb (es.take k) (by simp [Act.eval]) (lxK.later (RW.st w) bCA) (by simp; omega) bCA.size ?_; intro a6 n6 c6 w6 hn6 ls6 of6 sub6; have b6 : Below V.heap.size V w6 := bCA.trans (of6.below ho2 bCA.size); have b6C := b6; have e6 := ls6; have f6 := fun (j : Nat) (x : Value) (hx : [.slice ko kl kc, .slice vo vl vc, .bool G][j]? = some x) => of6.cell (cCA j x hx) (by rw [hcadd w6]; exact hVz2))
                | (refine step_one (RW.st w) (RW.pl w) Try.underlying22 Try.info25 rfl (by omega) (by omega) rfl (.tmp 63) (.tmp 68) rfl V.heap.size (.slice a6 n6 c6) ([] ++ es.take k) (by simp [Act.eval]) e6 ⟨w6.heap.size, 0, none⟩ 1 [.slice ko kl kc, .slice vo vl vc, .bool G] e (by simp [Act.eval]) f6 hRE (by simp; omega) b6C.size ?_; intro a7 n7 c7 w7 hn7 ls7 of7 sub7; have b7 : Below V.heap.size V w7 := b6C.trans (of7.below (fun q hq => (ls6.lt q hq).2) b6C.size); clear hn7)
                | (refine step_one (RW.st w) (RW.pl w) Try.underlying22 Try.info25 rfl (by omega) (by omega) rfl (.tmp 63) (.tmp 68) rfl V.heap.size (.slice a6 n6 c6) ([] ++ es.take k) (by simp [Act.eval, Act.put]) e6 ⟨V.heap.size + 1, 0, none⟩ 1 [.slice ko kl kc, .slice vo vl vc, .bool G] e (by simp [Act.eval, Act.put]) f6 hRE (by simp; omega) b6C.size ?_; intro a7 n7 c7 w7 hn7 ls7 of7 sub7; have b7 : Below V.heap.size V w7 := b6C.trans (of7.below (fun q hq => (ls6.lt q hq).2) b6C.size); clear hn7)
                | (refine step_one (RW.st w) (RW.pl w) Try.underlying22 Try.info25 rfl (by omega) (by omega) rfl (.tmp 63) (.tmp 68) rfl V.heap.size (.slice a6 n6 c6) ([] ++ es.take k) (by simp [Act.eval, Act.put]) e6 ⟨V.heap.size, 0, none⟩ 1 [.slice ko kl kc, .slice vo vl vc, .bool G] e (by simp [Act.eval, Act.put]) f6 hRE (by simp; omega) b6C.size ?_; intro a7 n7 c7 w7 hn7 ls7 of7 sub7; have b7 : Below V.heap.size V w7 := b6C.trans (of7.below (fun q hq => (ls6.lt q hq).2) b6C.size); clear hn7)
                | (refine step_allE rfl (.tmp 69) (.tmp 72) rfl w V.heap.size (.slice a7 n7 c7) ([] ++ es.take k ++ [e]) (by simp [Act.eval, Act.put]) ls7 (some ⟨g, k * 3, none⟩) (m - k) (cb - k) (es.drop k) (by simp [Act.eval, Act.put] <;> omega) (lxD.later (RW.st w) b7) (by simp; omega) b7.size ?_; intro a8 n8 c8 w8 hn8 ls8 of8 sub8; have b8 : Below V.heap.size V w8 := b7.trans (of8.below (fun q hq => (ls7.lt q hq).2) b7.size)))
              all_goals
                try simp only [List.getElem_toArray, List.getElem_cons_succ, List.getElem_cons_zero, List.setIfInBounds_toArray, List.set_cons_zero, List.set_cons_succ]
                have hB8 : Below w.heap.size w w8 := hbV.trans (b8.mono hbV.size)
                have hro8 := RO.of_ls ls8 hbV.size
                have hn8' : Hid (0 < n8) := by show _ < _; have := hn8.out; simp at this; omega
                clear hn8
                go_wp2
                go_roundw
                case rel =>
                  refine ⟨i + 1, n8, a8, c8, by omega, by go_num, rfl, (fun h0 => by have := hn8'.out; omega), ?_, hB8⟩
                  rw [hst.out, hes.out, hins.out]; simpa using hro8
                case measure => simp [intOf]; omega
        · have hkm2 : k = m := by omega
          subst hkm2
          have hins : Hid (insR e es = es.take k ++ [e] ++ es.drop k) := ins_mid e es k (by omega) hbef.out (fun z hz => by have := (List.getElem?_eq_some_iff.1 hz).1; omega)
          have hki : ¬ (k : Int) < k := by omega
          have hdn : es.drop k = [] := List.drop_eq_nil_of_le (by omega)
          clear cr0 sr0
          by_cases hz : k = 0
          · obtain ⟨rfl, rfl⟩ := hm0.out hz
            subst hz
            go_wp2_with fail
            refine wp_region_quiet_below (by kernel_rfl) (by kernel_rfl) ?_
            repeat (go_big_quiet_step (fail))
            (with_reducible refine wpQuiet_nil ?_)
            intro _ hw'
            obtain ⟨⟨dq, osq⟩, hw''⟩ := hw'
            subst hw''
            have hbq := hbz.trans ((below_regrown wr dq osq).mono hbz.size)
            have hbq2 := hbw.trans ((below_regrown wr dq osq).mono hbw.size)
            generalize grow (redrawn wr dq) osq = V2 at hbq hbq2 ⊢
            go_wp2_with fail
            refine wp_region_quiet_below (by kernel_rfl) (by kernel_rfl) ?_
            repeat (go_big_quiet_step (fail))
            (with_reducible refine wpQuiet_nil ?_)
            intro _ hw'
            obtain ⟨⟨dq, osq⟩, hw''⟩ := hw'
            subst hw''
            have bq1 := below_regrown V2 dq osq
            have hbV := hbq2.trans (bq1.mono hbq2.size)
            have hroV := (hro.later hbq).later bq1
            generalize grow (redrawn V2 dq) osq = V at hbV hroV ⊢
            have cl0 := cell_later hbV c0
            have cl1 := cell_later hbV c1
            have cl2 := cell_later hbV c2
            have hes0 : es = [] := List.eq_nil_of_length_eq_zero (by omega)
            go_wp2_with fail
            have hS := fun (W : World) (hW : Below V.heap.size V W) => (⟨cell_later hW cl0, cell_later hW cl1, cell_later hW cl2, hW⟩ : W.cell? ⟨b, off + i * 3, none⟩ = some (.slice ko kl kc) ∧ W.cell? ⟨b, off + i * 3 + 1, none⟩ = some (.slice vo vl vc) ∧ W.cell? ⟨b, off + i * 3 + 2, none⟩ = some (.bool G) ∧ Below V.heap.size V W)
            have b0 : Below V.heap.size V V.drew := (Below.refl _ _).drew
            have bA : Below V.heap.size V (V.alloc (.cells #[] 25)).drew := ((Below.refl _ _).alloc (Nat.le_refl _) _).drew
            have bC : Below V.heap.size V (V.alloc (.cells #[.slice ko kl kc, .slice vo vl vc, .bool G] 25)).drew := ((Below.refl _ _).alloc (Nat.le_refl _) _).drew
            have bAC : Below V.heap.size V ((V.alloc (.cells #[] 25)).alloc (.cells #[.slice ko kl kc, .slice vo vl vc, .bool G] 25)).drew := (((Below.refl _ _).alloc (Nat.le_refl _) _).alloc (by simp) _).drew
            have bCA : Below V.heap.size V ((V.alloc (.cells #[.slice ko kl kc, .slice vo vl vc, .bool G] 25)).alloc (.cells #[] 25)).drew := (((Below.refl _ _).alloc (Nat.le_refl _) _).alloc (by simp) _).drew
            have lsA := ls_empty_at w (V.alloc (.cells #[] 25)).drew V.heap.size V.heap.size (heap_alloc_new V _) (Nat.le_refl _)
            have lsAC := ls_empty_at w ((V.alloc (.cells #[] 25)).alloc (.cells #[.slice ko kl kc, .slice vo vl vc, .bool G] 25)).drew V.heap.size V.heap.size (by show (World.alloc _ _).heap[_]? = _; rw [Below.heap_alloc _ _ _ (by simp)]; exact heap_alloc_new V _) (Nat.le_refl _)
            have lsCA := ls_empty_at w ((V.alloc (.cells #[.slice ko kl kc, .slice vo vl vc, .bool G] 25)).alloc (.cells #[] 25)).drew (V.heap.size + 1) V.heap.size (by show (World.alloc _ _).heap[_]? = _; have := heap_alloc_new (V.alloc (.cells #[.slice ko kl kc, .slice vo vl vc, .bool G] 25)) (.cells #[] 25); rwa [show (V.alloc (.cells #[.slice ko kl kc, .slice vo vl vc, .bool G] 25)).heap.size = V.heap.size + 1 by simp] at this) (by omega)
            have cAC : ∀ j x, [.slice ko kl kc, .slice vo vl vc, .bool G][j]? = some x → ((V.alloc (.cells #[] 25)).alloc (.cells #[.slice ko kl kc, .slice vo vl vc, .bool G] 25)).drew.cell? ((⟨V.heap.size + 1, 0, none⟩ : Addr).add j) = some x := cells3_at (V.alloc (.cells #[] 25)) (V.heap.size + 1) (by simp) _ _ _
            have cCA : ∀ j x, [.slice ko kl kc, .slice vo vl vc, .bool G][j]? = some x → ((V.alloc (.cells #[.slice ko kl kc, .slice vo vl vc, .bool G] 25)).alloc (.cells #[] 25)).drew.cell? ((⟨V.heap.size, 0, none⟩ : Addr).add j) = some x := fun j x hx => cell_later (((Below.refl _ _).alloc (Nat.le_refl _) _).drew) (cells3_new V _ _ _ j x hx)
            have hVz : V.heap.size + 1 ∉ own (.slice (some ⟨V.heap.size, 0, none⟩) 0 0) := by simp [own, Value.ownBlock]
            have hVz2 : V.heap.size ∉ own (.slice (some ⟨V.heap.size + 1, 0, none⟩) 0 0) := by simp [own, Value.ownBlock]
            have ho1 : ∀ q ∈ own (.slice (some ⟨V.heap.size, 0, none⟩) 0 0), V.heap.size ≤ q := by simp [own, Value.ownBlock]
            have ho2 : ∀ q ∈ own (.slice (some ⟨V.heap.size + 1, 0, none⟩) 0 0), V.heap.size ≤ q := by simp [own, Value.ownBlock]
            have hcadd : ∀ (W : World) (g j : Nat), ((⟨g, 0, none⟩ : Addr).add j).block = g := fun W g j => add_block _ j
            go_region_held_law (fun w' => w'.cell? ⟨b, off + i * 3, none⟩ = some (.slice ko kl kc) ∧ w'.cell? ⟨b, off + i * 3 + 1, none⟩ = some (.slice vo vl vc) ∧ w'.cell? ⟨b, off + i * 3 + 2, none⟩ = some (.bool G) ∧ Below V.heap.size V w') (first | assumption | exact hS _ b0 | exact hS _ bA | exact hS _ bC | exact hS _ bAC | exact hS _ bCA | exact hS _ b7 | exact hS _ b8) (first
              | (refine step_one (RW.st w) (RW.pl w) Try.underlying22 Try.info25 rfl (by omega) (by omega) rfl (.tmp 63) (.tmp 68) rfl V.heap.size (.slice (some ⟨V.heap.size, 0, none⟩) 0 0) [] (by simp [Act.eval]) lsAC ⟨V.heap.size + 1, 0, none⟩ 1 [.slice ko kl kc, .slice vo vl vc, .bool G] e (by simp [Act.eval]) cAC hRE (by simp) bAC.size ?_; intro a7 n7 c7 w7 hn7 ls7 of7 sub7; have b7 : Below V.heap.size V w7 := bAC.trans (of7.below ho1 bAC.size))
              | (refine step_one (RW.st w) (RW.pl w) Try.underlying22 Try.info25 rfl (by omega) (by omega) rfl (.tmp 63) (.tmp 68) rfl V.heap.size (.slice (some ⟨V.heap.size + 1, 0, none⟩) 0 0) [] (by simp [Act.eval]) lsCA ⟨V.heap.size, 0, none⟩ 1 [.slice ko kl kc, .slice vo vl vc, .bool G] e (by simp [Act.eval]) cCA hRE (by simp) bCA.size ?_; intro a7 n7 c7 w7 hn7 ls7 of7 sub7; have b7 : Below V.heap.size V w7 := bCA.trans (of7.below ho2 bCA.size))
              | (refine step_allE rfl (.tmp 69) (.tmp 72) rfl w V.heap.size (.slice a7 n7 c7) ([] ++ [e]) (by simp [Act.eval, Act.put]) ls7 none 0 0 [] (by simp [Act.eval, Act.put]) (Lx.nil _ _ _) (by simp) b7.size ?_; intro a8 n8 c8 w8 hn8 ls8 of8 sub8; have b8 : Below V.heap.size V w8 := b7.trans (of8.below (fun q hq => (ls7.lt q hq).2) b7.size)))
            all_goals
              try simp only [List.getElem_toArray, List.getElem_cons_succ, List.getElem_cons_zero, List.setIfInBounds_toArray, List.set_cons_zero, List.set_cons_succ]
              have hB8 : Below w.heap.size w w8 := hbV.trans (b8.mono hbV.size)
              have hro8 := RO.of_ls ls8 hbV.size
              have hn8' : Hid (0 < n8) := by show _ < _; have := hn8.out; simp at this; omega
              clear hn8 hn7
              go_wp2
              go_roundw
              case rel =>
                refine ⟨i + 1, n8, a8, c8, by omega, by go_num, rfl, (fun h0 => by have := hn8'.out; omega), ?_, hB8⟩
                rw [hst.out, hes.out, hins.out, hes0]; simpa using hro8
              case measure => simp [intOf]; omega
          · obtain ⟨g, hbo, hg, hth⟩ := hro.th (by omega)
            subst hbo
            have hcs : (cb ≤ k ∧ k ≤ cb) ∨ (¬ cb = k) := by omega
            go_wp2_with fail
            refine wp_region_quiet_below (by kernel_rfl) (by kernel_rfl) ?_
            repeat (go_big_quiet_step (fail))
            (with_reducible refine wpQuiet_nil ?_)
            intro _ hw'
            obtain ⟨⟨dq, osq⟩, hw''⟩ := hw'
            subst hw''
            have hbq := hbz.trans ((below_regrown wr dq osq).mono hbz.size)
            have hbq2 := hbw.trans ((below_regrown wr dq osq).mono hbw.size)
            generalize grow (redrawn wr dq) osq = V2 at hbq hbq2 ⊢
            go_wp2_with fail
            refine wp_region_quiet_below (by kernel_rfl) (by kernel_rfl) ?_
            repeat (go_big_quiet_step (fail))
            (with_reducible refine wpQuiet_nil ?_)
            intro _ hw'
            obtain ⟨⟨dq, osq⟩, hw''⟩ := hw'
            subst hw''
            have bq1 := below_regrown V2 dq osq
            have hbV := hbq2.trans (bq1.mono hbq2.size)
            have hroV := (hro.later hbq).later bq1
            generalize grow (redrawn V2 dq) osq = V at hbV hroV ⊢
            have cl0 := cell_later hbV c0
            have cl1 := cell_later hbV c1
            have cl2 := cell_later hbV c2
            have lxK := hroV.lx.take k (by omega)
            rcases hcs with ⟨hc1, hc2⟩ | hcbk
            · have lxD : Lx 3 (RW w) V (some ⟨g, 0, none⟩) 0 0 (es.drop k) := by rw [hdn]; exact ⟨rfl, Nat.le_refl _, by unfold maxLen; omega, fun h => (by cases h), fun ad ha j e he => by simp at he⟩
              go_wp2_with fail
              have hS := fun (W : World) (hW : Below V.heap.size V W) => (⟨cell_later hW cl0, cell_later hW cl1, cell_later hW cl2, hW⟩ : W.cell? ⟨b, off + i * 3, none⟩ = some (.slice ko kl kc) ∧ W.cell? ⟨b, off + i * 3 + 1, none⟩ = some (.slice vo vl vc) ∧ W.cell? ⟨b, off + i * 3 + 2, none⟩ = some (.bool G) ∧ Below V.heap.size V W)
              have b0 : Below V.heap.size V V.drew := (Below.refl _ _).drew
              have bA : Below V.heap.size V (V.alloc (.cells #[] 25)).drew := ((Below.refl _ _).alloc (Nat.le_refl _) _).drew
              have bC : Below V.heap.size V (V.alloc (.cells #[.slice ko kl kc, .slice vo vl vc, .bool G] 25)).drew := ((Below.refl _ _).alloc (Nat.le_refl _) _).drew
              have bAC : Below V.heap.size V ((V.alloc (.cells #[] 25)).alloc (.cells #[.slice ko kl kc, .slice vo vl vc, .bool G] 25)).drew := (((Below.refl _ _).alloc (Nat.le_refl _) _).alloc (by simp) _).drew
              have bCA : Below V.heap.size V ((V.alloc (.cells #[.slice ko kl kc, .slice vo vl vc, .bool G] 25)).alloc (.cells #[] 25)).drew := (((Below.refl _ _).alloc (Nat.le_refl _) _).alloc (by simp) _).drew
              have lsA := ls_empty_at w (V.alloc (.cells #[] 25)).drew V.heap.size V.heap.size (heap_alloc_new V _) (Nat.le_refl _)
              have lsAC := ls_empty_at w ((V.alloc (.cells #[] 25)).alloc (.cells #[.slice ko kl kc, .slice vo vl vc, .bool G] 25)).drew V.heap.size V.heap.size (by show (World.alloc _ _).heap[_]? = _; rw [Below.heap_alloc _ _ _ (by simp)]; exact heap_alloc_new V _) (Nat.le_refl _)
              have lsCA := ls_empty_at w ((V.alloc (.cells #[.slice ko kl kc, .slice vo vl vc, .bool G] 25)).alloc (.cells #[] 25)).drew (V.heap.size + 1) V.heap.size (by show (World.alloc _ _).heap[_]? = _; have := heap_alloc_new (V.alloc (.cells #[.slice ko kl kc, .slice vo vl vc, .bool G] 25)) (.cells #[] 25); rwa [show (V.alloc (.cells #[.slice ko kl kc, .slice vo vl vc, .bool G] 25)).heap.size = V.heap.size + 1 by simp] at this) (by omega)
              have cAC : ∀ j x, [.slice ko kl kc, .slice vo vl vc, .bool G][j]? = some x → ((V.alloc (.cells #[] 25)).alloc (.cells #[.slice ko kl kc, .slice vo vl vc, .bool G] 25)).drew.cell? ((⟨V.heap.size + 1, 0, none⟩ : Addr).add j) = some x := cells3_at (V.alloc (.cells #[] 25)) (V.heap.size + 1) (by simp) _ _ _
              have cCA : ∀ j x, [.slice ko kl kc, .slice vo vl vc, .bool G][j]? = some x → ((V.alloc (.cells #[.slice ko kl kc, .slice vo vl vc, .bool G] 25)).alloc (.cells #[] 25)).drew.cell? ((⟨V.heap.size, 0, none⟩ : Addr).add j) = some x := fun j x hx => cell_later (((Below.refl _ _).alloc (Nat.le_refl _) _).drew) (cells3_new V _ _ _ j x hx)
              have hVz : V.heap.size + 1 ∉ own (.slice (some ⟨V.heap.size, 0, none⟩) 0 0) := by simp [own, Value.ownBlock]
              have hVz2 : V.heap.size ∉ own (.slice (some ⟨V.heap.size + 1, 0, none⟩) 0 0) := by simp [own, Value.ownBlock]
              have ho1 : ∀ q ∈ own (.slice (some ⟨V.heap.size, 0, none⟩) 0 0), V.heap.size ≤ q := by simp [own, Value.ownBlock]
              have ho2 : ∀ q ∈ own (.slice (some ⟨V.heap.size + 1, 0, none⟩) 0 0), V.heap.size ≤ q := by simp [own, Value.ownBlock]
              have hcadd : ∀ (W : World) (g j : Nat), ((⟨g, 0, none⟩ : Addr).add j).block = g := fun W g j => add_block _ j
              go_region_held_law (fun w' => w'.cell? ⟨b, off + i * 3, none⟩ = some (.slice ko kl kc) ∧ w'.cell? ⟨b, off + i * 3 + 1, none⟩ = some (.slice vo vl vc) ∧ w'.cell? ⟨b, off + i * 3 + 2, none⟩ = some (.bool G) ∧ Below V.heap.size V w') (first | assumption | exact hS _ b0 | exact hS _ bA | exact hS _ bC | exact hS _ bAC | exact hS _ bCA | exact hS _ b6 | exact hS _ b6C | exact hS _ b7 | exact hS _ b8) (first
                | (refine step_allE rfl (.tmp 59) (.tmp 62) rfl w V.heap.size (.slice (some ⟨V.heap.size, 0, none⟩) 0 0) [] (by simp [Act.eval]) lsA (some ⟨g, 0, none⟩) k cb (es.take k) (by simp [Act.eval]) (lxK.later (RW.st w) bA) (by simp; omega) bA.size ?_; intro a6 n6 c6 w6 hn6 ls6 of6 sub6; have b6 : Below V.heap.size V w6 := bA.trans (of6.below ho1 bA.size); have b6C : Below V.heap.size V (w6.alloc (.cells #[.slice ko kl kc, .slice vo vl vc, .bool G] 25)) := b6.alloc b6.size _; have e6 := ls6.later (RW.st w) ((Below.refl w6.heap.size w6).alloc (Nat.le_refl _) (.cells #[.slice ko kl kc, .slice vo vl vc, .bool G] 25)); have f6 := cells3_new w6 (.slice ko kl kc) (.slice vo vl vc) (.bool G))
                | (refine step_allE rfl (.tmp 59) (.tmp 62) rfl w V.heap.size (.slice (some ⟨V.heap.size, 0, none⟩) 0 0) [] (by simp [Act.eval]) lsAC (some ⟨g, 0, none⟩) k cb (es.take k) (by simp [Act.eval]) (lxK.later (RW.st w) bAC) (by simp; omega) bAC.size ?_; intro a6 n6 c6 w6 hn6 ls6 of6 sub6; have b6 : Below V.heap.size V w6 := bAC.trans (of6.below ho1 bAC.size); have b6C := b6; have e6 := ls6; have f6 := fun (j : Nat) (x : Value) (hx : [.slice ko kl kc, .slice vo vl vc, .bool G][j]? = some x) => of6.cell (cAC j x hx) (by rw [hcadd w6]; exact hVz))
                | (refine step_allE rfl (.tmp 59) (.tmp 62) rfl w V.heap.size (.slice (some ⟨V.heap.size + 1, 0, none⟩) 0 0) [] (by simp [Act.eval]) lsCA (some ⟨g, 0, none⟩) k cb (es.take k) (by simp [Act.eval]) (lxK.later (RW.st w) bCA) (by simp; omega) bCA.size ?_; intro a6 n6 c6 w6 hn6 ls6 of6 sub6; have b6 : Below V.heap.size V w6 := bCA.trans (of6.below ho2 bCA.size); have b6C := b6; have e6 := ls6; have f6 := fun (j : Nat) (x : Value) (hx : [.slice ko kl kc, .slice vo vl vc, .bool G][j]? = some x) => of6.cell (cCA j x hx) (by rw [hcadd w6]; exact hVz2))
                | (refine step_one (RW.st w) (RW.pl w) Try.underlying22 Try.info25 rfl (by omega) (by omega) rfl (.tmp 63) (.tmp 68) rfl V.heap.size (.slice a6 n6 c6) ([] ++ es.take k) (by simp [Act.eval]) e6 ⟨w6.heap.size, 0, none⟩ 1 [.slice ko kl kc, .slice vo vl vc, .bool G] e (by simp [Act.eval]) f6 hRE (by simp; omega) b6C.size ?_; intro a7 n7 c7 w7 hn7 ls7 of7 sub7; have b7 : Below V.heap.size V w7 := b6C.trans (of7.below (fun q hq => (ls6.lt q hq).2) b6C.size); clear hn7)
                | (refine step_one (RW.st w) (RW.pl w) Try.underlying22 Try.info25 rfl (by omega) (by omega) rfl (.tmp 63) (.tmp 68) rfl V.heap.size (.slice a6 n6 c6) ([] ++ es.take k) (by simp [Act.eval, Act.put]) e6 ⟨V.heap.size + 1, 0, none⟩ 1 [.slice ko kl kc, .slice vo vl vc, .bool G] e (by simp [Act.eval, Act.put]) f6 hRE (by simp; omega) b6C.size ?_; intro a7 n7 c7 w7 hn7 ls7 of7 sub7; have b7 : Below V.heap.size V w7 := b6C.trans (of7.below (fun q hq => (ls6.lt q hq).2) b6C.size); clear hn7)
                | (refine step_one (RW.st w) (RW.pl w) Try.underlying22 Try.info25 rfl (by omega) (by omega) rfl (.tmp 63) (.tmp 68) rfl V.heap.size (.slice a6 n6 c6) ([] ++ es.take k) (by simp [Act.eval, Act.put]) e6 ⟨V.heap.size, 0, none⟩ 1 [.slice ko kl kc, .slice vo vl vc, .bool G] e (by simp [Act.eval, Act.put]) f6 hRE (by simp; omega) b6C.size ?_; intro a7 n7 c7 w7 hn7 ls7 of7 sub7; have b7 : Below V.heap.size V w7 := b6C.trans (of7.below (fun q hq => (ls6.lt q hq).2) b6C.size); clear hn7)
                | (refine step_allE rfl (.tmp 69) (.tmp 72) rfl w V.heap.size (.slice a7 n7 c7) ([] ++ es.take k ++ [e]) (by simp [Act.eval, Act.put]) ls7 (some ⟨g, 0, none⟩) 0 0 (es.drop k) (by simp [Act.eval, Act.put] <;> omega) (lxD.later (RW.st w) b7) (by simp; omega) b7.size ?_; intro a8 n8 c8 w8 hn8 ls8 of8 sub8; have b8 : Below V.heap.size V w8 := b7.trans (of8.below (fun q hq => (ls7.lt q hq).2) b7.size)))
              all_goals
                try simp only [List.getElem_toArray, List.getElem_cons_succ, List.getElem_cons_zero, List.setIfInBounds_toArray, List.set_cons_zero, List.set_cons_succ]
                have hB8 : Below w.heap.size w w8 := hbV.trans (b8.mono hbV.size)
                have hro8 := RO.of_ls ls8 hbV.size
                have hn8' : Hid (0 < n8) := by show _ < _; have := hn8.out; simp at this; omega
                clear hn8
                go_wp2
                go_roundw
                case rel =>
                  refine ⟨i + 1, n8, a8, c8, by omega, by go_num, rfl, (fun h0 => by have := hn8'.out; omega), ?_, hB8⟩
                  rw [hst.out, hes.out, hins.out]; simpa using hro8
                case measure => simp [intOf]; omega
            · have lxD := hroV.lx.drop3 k (by omega)
              rw [Nat.zero_add, Nat.sub_self] at lxD
              go_wp2_with fail
              have hS := fun (W : World) (hW : Below V.heap.size V W) => (⟨cell_later hW cl0, cell_later hW cl1, cell_later hW cl2, hW⟩ : W.cell? ⟨b, off + i * 3, none⟩ = some (.slice ko kl kc) ∧ W.cell? ⟨b, off + i * 3 + 1, none⟩ = some (.slice vo vl vc) ∧ W.cell? ⟨b, off + i * 3 + 2, none⟩ = some (.bool G) ∧ Below V.heap.size V W)
              have b0 : Below V.heap.size V V.drew := (Below.refl _ _).drew
              have bA : Below V.heap.size V (V.alloc (.cells #[] 25)).drew := ((Below.refl _ _).alloc (Nat.le_refl _) _).drew
              have bC : Below V.heap.size V (V.alloc (.cells #[.slice ko kl kc, .slice vo vl vc, .bool G] 25)).drew := ((Below.refl _ _).alloc (Nat.le_refl _) _).drew
              have bAC : Below V.heap.size V ((V.alloc (.cells #[] 25)).alloc (.cells #[.slice ko kl kc, .slice vo vl vc, .bool G] 25)).drew := (((Below.refl _ _).alloc (Nat.le_refl _) _).alloc (by simp) _).drew
              have bCA : Below V.heap.size V ((V.alloc (.cells #[.slice ko kl kc, .slice vo vl vc, .bool G] 25)).alloc (.cells #[] 25)).drew := (((Below.refl _ _).alloc (Nat.le_refl _) _).alloc (by simp) _).drew
              have lsA := ls_empty_at w (V.alloc (.cells #[] 25)).drew V.heap.size V.heap.size (heap_alloc_new V _) (Nat.le_refl _)
              have lsAC := ls_empty_at w ((V.alloc (.cells #[] 25)).alloc (.cells #[.slice ko kl kc, .slice vo vl vc, .bool G] 25)).drew V.heap.size V.heap.size (by show (World.alloc _ _).heap[_]? = _; rw [Below.heap_alloc _ _ _ (by simp)]; exact heap_alloc_new V _) (Nat.le_refl _)
              have lsCA := ls_empty_at w ((V.alloc (.cells #[.slice ko kl kc, .slice vo vl vc, .bool G] 25)).alloc (.cells #[] 25)).drew (V.heap.size + 1) V.heap.size (by show (World.alloc _ _).heap[_]? = _; have := heap_alloc_new (V.alloc (.cells #[.slice ko kl kc, .slice vo vl vc, .bool G] 25)) (.cells #[] 25); rwa [show (V.alloc (.cells #[.slice ko kl kc, .slice vo vl vc, .bool G] 25)).heap.size = V.heap.size + 1 by simp] at this) (by omega)
              have cAC : ∀ j x, [.slice ko kl kc, .slice vo vl vc, .bool G][j]? = some x → ((V.alloc (.cells #[] 25)).alloc (.cells #[.slice ko kl kc, .slice vo vl vc, .bool G] 25)).drew.cell? ((⟨V.heap.size + 1, 0, none⟩ : Addr).add j) = some x := cells3_at (V.alloc (.cells #[] 25)) (V.heap.size + 1) (by simp) _ _ _
              have cCA : ∀ j x, [.slice ko kl kc, .slice vo vl vc, .bool G][j]? = some x → ((V.alloc (.cells #[.slice ko kl kc, .slice vo vl vc, .bool G] 25)).alloc (.cells #[] 25)).drew.cell? ((⟨V.heap.size, 0, none⟩ : Addr).add j) = some x := fun j x hx => cell_later (((Below.refl _ _).alloc (Nat.le_refl _) _).drew) (cells3_new V _ _ _ j x hx)
              have hVz : V.heap.size + 1 ∉ own (.slice (some ⟨V.heap.size, 0, none⟩) 0 0) := by simp [own, Value.ownBlock]
              have hVz2 : V.heap.size ∉ own (.slice (some ⟨V.heap.size + 1, 0, none⟩) 0 0) := by simp [own, Value.ownBlock]
              have ho1 : ∀ q ∈ own (.slice (some ⟨V.heap.size, 0, none⟩) 0 0), V.heap.size ≤ q := by simp [own, Value.ownBlock]
              have ho2 : ∀ q ∈ own (.slice (some ⟨V.heap.size + 1, 0, none⟩) 0 0), V.heap.size ≤ q := by simp [own, Value.ownBlock]
              have hcadd : ∀ (W : World) (g j : Nat), ((⟨g, 0, none⟩ : Addr).add j).block = g := fun W g j => add_block _ j
              go_region_held_law (fun w' => w'.cell? ⟨b, off + i * 3, none⟩ = some (.slice ko kl kc) ∧ w'.cell? ⟨b, off + i * 3 + 1, none⟩ = some (.slice vo vl vc) ∧ w'.cell? ⟨b, off + i * 3 + 2, none⟩ = some (.bool G) ∧ Below V.heap.size V w') (first | assumption | exact hS _ b0 | exact hS _ bA | exact hS _ bC | exact hS _ bAC | exact hS _ bCA | exact hS _ b6 | exact hS _ b6C | exact hS _ b7 | exact hS _ b8) (first
                | (refine step_allE rfl (.tmp 59) (.tmp 62) rfl w V.heap.size (.slice (some ⟨V.heap.size, 0, none⟩) 0 0) [] (by simp [Act.eval]) lsA (some ⟨g, 0, none⟩) k cb (es.take k) (by simp [Act.eval]) (lxK.later (RW.st w) bA) (by simp; omega) bA.size ?_; intro a6 n6 c6 w6 hn6 ls6 of6 sub6; have b6 : Below V.heap.size V w6 := bA.trans (of6.below ho1 bA.size); have b6C : Below V.heap.size V (w6.alloc (.cells #[.slice ko kl kc, .slice vo vl vc, .bool G] 25)) := b6.alloc b6.size _; have e6 := ls6.later (RW.st w) ((Below.refl w6.heap.size w6).alloc (Nat.le_refl _) (.cells #[.slice ko kl kc, .slice vo vl vc, .bool G] 25)); have f6 := cells3_new w6 (.slice ko kl kc) (.slice vo vl vc) (.bool G))
                | (refine step_allE rfl (.tmp 59) (.tmp 62) rfl w V.heap.size (.slice (some ⟨V.heap.size, 0, none⟩) 0 0) [] (by simp [Act.eval]) lsAC (some ⟨g, 0, none⟩) k cb (es.take k) (by simp [Act.eval]) (lxK.later (RW.st w) bAC) (by simp; omega) bAC.size ?_; intro a6 n6 c6 w6 hn6 ls6 of6 sub6; have b6 : Below V.heap.size V w6 := bAC.trans (of6.below ho1 bAC.size); have b6C := b6; have e6 := ls6; have f6 := fun (j : Nat) (x : Value) (hx : [.slice ko kl kc, .slice vo vl vc, .bool G][j]? = some x) => of6.cell (cAC j x hx) (by rw [hcadd w6]; exact hVz))
                | (refine step_allE rfl (.tmp 59) (.tmp 62) rfl w V.heap.size (.slice (some ⟨V.heap.size + 1, 0, none⟩) 0 0) [] (by simp [Act.eval]) lsCA (some ⟨g, 0, none⟩) k cb (es.take k) (by simp [Act.eval]) (lxK.later (RW.st w) bCA) (by simp; omega) bCA.size ?_; intro a6 n6 c6 w6 hn6 ls6 of6 sub6; have b6 : Below V.heap.size V w6 := bCA.trans (of6.below ho2 bCA.size); have b6C := b6; have e6 := ls6; have f6 := fun (j : Nat) (x : Value) (hx : [.slice ko kl kc, .slice vo vl vc, .bool G][j]? = some x) => of6.cell (cCA j x hx) (by rw [hcadd w6]; exact hVz2))
                | (refine step_one (RW.st w) (RW.pl w) Try.underlying22 Try.info25 rfl (by omega) (by omega) rfl (.tmp 63) (.tmp 68) rfl V.heap.size (.slice a6 n6 c6) ([] ++ es.take k) (by simp [Act.eval]) e6 ⟨w6.heap.size, 0, none⟩ 1 [.slice ko kl kc, .slice vo vl vc, .bool G] e (by simp [Act.eval]) f6 hRE (by simp; omega) b6C.size ?_; intro a7 n7 c7 w7 hn7 ls7 of7 sub7; have b7 : Below V.heap.size V w7 := b6C.trans (of7.below (fun q hq => (ls6.lt q hq).2) b6C.size); clear hn7)
                | (refine step_one (RW.st w) (RW.pl w) Try.underlying22 Try.info25 rfl (by omega) (by omega) rfl (.tmp 63) (.tmp 68) rfl V.heap.size (.slice a6 n6 c6) ([] ++ es.take k) (by simp [Act.eval, Act.put]) e6 ⟨V.heap.size + 1, 0, none⟩ 1 [.slice ko kl kc, .slice vo vl vc, .bool G] e (by simp [Act.eval, Act.put]) f6 hRE (by simp; omega) b6C.size ?_; intro a7 n7 c7 w7 hn7 ls7 of7 sub7; have b7 : Below V.heap.size V w7 := b6C.trans (of7.below (fun q hq => (ls6.lt q hq).2) b6C.size); clear hn7)
                | (refine step_one (RW.st w) (RW.pl w) Try.underlying22 Try.info25 rfl (by omega) (by omega) rfl (.tmp 63) (.tmp 68) rfl V.heap.size (.slice a6 n6 c6) ([] ++ es.take k) (by simp [Act.eval, Act.put]) e6 ⟨V.heap.size, 0, none⟩ 1 [.slice ko kl kc, .slice vo vl vc, .bool G] e (by simp [Act.eval, Act.put]) f6 hRE (by simp; omega) b6C.size ?_; intro a7 n7 c7 w7 hn7 ls7 of7 sub7; have b7 : Below V.heap.size V w7 := b6C.trans (of7.below (fun q hq => (ls6.lt q hq).2) b6C.size); clear hn7)
                | (refine step_allE rfl (.tmp 69) (.tmp 72) rfl w V.heap.size (.slice a7 n7 c7) ([] ++ es.take k ++ [e]) (by simp [Act.eval, Act.put]) ls7 (some ⟨g, k * 3, none⟩) 0 (cb - k) (es.drop k) (by simp [Act.eval, Act.put] <;> omega) (lxD.later (RW.st w) b7) (by simp; omega) b7.size ?_; intro a8 n8 c8 w8 hn8 ls8 of8 sub8; have b8 : Below V.heap.size V w8 := b7.trans (of8.below (fun q hq => (ls7.lt q hq).2) b7.size)))
              all_goals
                try simp only [List.getElem_toArray, List.getElem_cons_succ, List.getElem_cons_zero, List.setIfInBounds_toArray, List.set_cons_zero, List.set_cons_succ]
                have hB8 : Below w.heap.size w w8 := hbV.trans (b8.mono hbV.size)
                have hro8 := RO.of_ls ls8 hbV.size
                have hn8' : Hid (0 < n8) := by show _ < _; have := hn8.out; simp at this; omega
                clear hn8
                go_wp2
                go_roundw
                case rel =>
                  refine ⟨i + 1, n8, a8, c8, by omega, by go_num, rfl, (fun h0 => by have := hn8'.out; omega), ?_, hB8⟩
                  rw [hst.out, hes.out, hins.out]; simpa using hro8
                case measure => simp [intOf]; omega
    · have hfin := hro.lx.rw hb
      rw [List.take_of_length_le (by omega)] at hfin
      go_wp2
      go_ret
      exact ⟨bo, m, cb, rfl, hfin, hb⟩

end Go.Proofs.Yteeemfohehpaeaa
