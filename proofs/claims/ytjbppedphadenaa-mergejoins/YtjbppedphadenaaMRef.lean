/- The walk of the document's own Put. -/
import Derived.Test.YtjbppedphadenaaMLaw
import Derived.Deep.CutRange
namespace Go.Proofs.Ytjbppedphadenaa
set_option maxRecDepth 100000
open Go.RowKit Go.Sort

theorem ls_empty_R {X : List Nat} (w : World) : Ls 26 3 (REx X) (w.alloc (.cells #[] 26)) w.heap.size (.slice (some ⟨w.heap.size, 0, none⟩) 0 0) [] :=
  ⟨[], rfl, ⟨by simp, .inr ⟨w.heap.size, 0, #[], rfl, Nat.le_refl _, heap_alloc_new w _, Nat.le_refl _, by unfold maxLen; omega, rfl, by simp⟩⟩, by simp⟩
theorem Lx.fresh {X Y : List Nat} {w w' : World} {ao : Option Addr} {len cap : Nat} {es : List Ent} (h : Lx 3 (REx X) w ao len cap es) (hb : Below w.heap.size w w') (hY : ∀ k ∈ Y, w.heap.size ≤ k) : Lx 3 (REx (Y ++ X)) w' ao len cap es :=
  ⟨h.len_eq, h.le, h.top, h.bare, fun ad ha j e he => by
    obtain ⟨u, h1, h2⟩ := h.cell ad ha j e he
    exact ⟨u, fun i x hx => cell_later hb (h1 i x hx), RE.stable _ _ _ _ _ _ h2 (.of_below hb) (fun k hk => by
      rcases List.mem_append.1 (by simpa using hk : k ∈ Y ++ X) with h | h
      · exact .inr (hY k h)
      · exact .inl (by simpa using h))⟩⟩
theorem own_some {w : World} {B n c : Nat} {ao : Option Addr} {es : List Ent} {R : Reads Ent} (h : Ls 26 3 R w B (.slice ao n c) es) (hne : own (.slice ao n c) ≠ []) : ∃ g, ao = some ⟨g, 0, none⟩ := by
  obtain ⟨us, h1, h2, h3⟩ := h
  rcases h2.2 with ⟨h', _⟩ | ⟨g, c', cur, h', _⟩
  · simp only [Value.slice.injEq] at h'
    rw [h'.1] at hne
    exact absurd rfl hne
  · simp only [Value.slice.injEq] at h'
    exact ⟨g, h'.1⟩
theorem own_at5 (w : World) (g B : Nat) (hg : w.heap[g]? = some (.cells #[] 5)) (hB : B ≤ g) : w.ownsRow B 5 1 (.slice (some ⟨g, 0, none⟩) 0 0) 0 (([] : List Int).map (Value.int .u8)) :=
  ⟨rfl, .inr ⟨g, 0, #[], rfl, hB, hg, Nat.le_refl _, by unfold maxLen; omega, rfl, rfl⟩⟩
theorem app_tx {w : World} {B : Nat} {a : Option Addr} {l c : Nat} {xs : List Int} (h : w.ownsRow B 5 1 (.slice a (0 + l) c) (0 + l) (([] ++ xs).map (Value.int .u8))) (hr : ∀ x ∈ xs, 0 ≤ x ∧ x ≤ 255) : Tx w a l c xs ∧ ∀ ad, a = some ad → B ≤ ad.block := by
  have hlt := own_lt h
  obtain ⟨ao9, cap9, e9, hx9⟩ := Tx.own h (by simpa using hr)
  simp only [Value.slice.injEq, true_and] at e9
  obtain ⟨rfl, rfl⟩ := e9
  rw [Nat.zero_add] at hx9
  exact ⟨hx9, fun ad ha => (hlt ad.block (by subst ha; simp [own, Value.ownBlock])).2⟩
theorem Lx.empty {α : Type} {c : Nat} (R : Reads α) (w : World) (a : Addr) (cap : Nat) (hc : cap ≤ maxLen) : Lx c R w (some a) 0 cap [] := ⟨rfl, Nat.zero_le _, hc, fun h => (by cases h), fun _ _ j e he => (by simp at he)⟩
/-- What a round has made: an entry in a box of its own. -/
structure Xe (W U : World) (X : List Nat) (p : Nat) (e : Ent) (ko : Option Addr) (kl kc : Nat) (vo : Option Addr) (vl vc : Nat) (G : Bool) (k v : List Int) : Prop where
  bx : Boxf U p (.slice ko kl kc) (.slice vo vl vc) G
  pge : W.heap.size ≤ p
  tk : Tx U ko kl kc k
  tv : Tx U vo vl vc v
  kf : ∀ ad, ko = some ad → 0 < kl → W.heap.size ≤ ad.block ∧ ad.block ≠ p
  vf : ∀ ad, vo = some ad → 0 < vl → W.heap.size ≤ ad.block ∧ ad.block ≠ p
  b : Below W.heap.size W U

set_option maxHeartbeats 16000000 in
theorem rput_any (X : List Nat) (ao : Option Addr) (la ca : Nat) (l : List Ent) (bo : Option Addr) (lb cb : Nat) (more : List Ent) (w : World) (h : Lx 3 (REx X) w ao la ca l) (hm : Lx 3 RE w bo lb cb more) (sl : la ≤ 1000) (sm : lb ≤ 1000) (hX : ∀ k ∈ X, k < w.heap.size) (skk : ∀ e ∈ more, e.k.length ≤ 1000000 ∧ e.v.length ≤ 1000000) :
    Calls Try.prog 17 #[.slice ao la ca, .slice bo lb cb] w fun e w' => ∃ ro rl rc, e = .returned (.slice ro rl rc) ∧ RQ X w.heap.size w' ro rl rc (putL l more) ∧ Below w.heap.size w w' := by
  have hla := h.len_eq
  have hlb := hm.len_eq
  have bE : Below w.heap.size w (w.alloc (.cells #[] 26)) := (Below.refl _ _).alloc (Nat.le_refl _) _
  have hx1 := h.fresh (Y := own (.slice (some ⟨w.heap.size, 0, none⟩) 0 0)) bE (by simp [own, Value.ownBlock])
  go_enter Try.func17, Try.ntmps17
  go_wp2_with (with_reducible show wpList _ _ _ (⟨some 11, _, _, _, _, _⟩ :: _) _ _; refine wpList_allY rfl _ _ rfl w.heap.size (.slice (some ⟨w.heap.size, 0, none⟩) 0 0) [] rfl (ls_empty_R (X := X) w) ao la ca l rfl hx1 (by simp; omega) (by simp) ?_; intro a5 n5 c5 w5 hn5 ls5 of5 sub5 ne5)
  obtain ⟨g5, rfl⟩ := own_some ls5 (ne5 (by simp [own, Value.ownBlock]))
  have b5 := bE.trans (of5.below (B := w.heap.size) (by simp [own, Value.ownBlock]) bE.size)
  have q5 := RQ.of ls5
  rw [List.nil_append] at q5
  clear hn5 ls5 of5 sub5 ne5 hx1 bE
  go_loopw [5, 6, 7, 8] (fun s5 s6 _ _ wr => ∃ (i g m cc : Nat), i ≤ lb ∧ s6 = .int .i64 i ∧ s5 = .slice (some ⟨g, 0, none⟩) m cc ∧ RQ X w.heap.size wr (some ⟨g, 0, none⟩) m cc (putL l (more.take i)) ∧ Below w.heap.size w wr) (fun _ s6 _ _ _ => lb - (intOf s6).toNat)
  case atStart => exact ⟨0, g5, n5, c5, by omega, rfl, rfl, q5, b5⟩
  case round =>
    obtain ⟨i, g, m, cc, hi, rfl, rfl, hq, hb⟩ := hrel
    revert hq hb
    generalize wr = W1
    intro hq hb
    by_cases hi2 : i < lb
    · obtain ⟨b, off, rfl, hc⟩ := hm.headE (by omega)
      have hx : more[i]? = some (more[i]'(by omega)) := by simp
      obtain ⟨jo, jl, jc, uo, ul, uc, c0, c1, c2, tj, tu⟩ := hc i _ hx
      have hst := putL_take l more i _ hx
      have hsk := skk _ (List.getElem_mem (l := more) (n := i) (by omega))
      have hml := hq.lx.len_eq
      have hgW : 0 < m → g < W1.heap.size := fun h0 => by
        obtain ⟨g9, h9, _, h10⟩ := hq.th h0
        cases h9
        obtain ⟨h11, _⟩ := h10 0 (by omega)
        obtain ⟨u, hu⟩ := Option.isSome_iff_exists.1 h11
        exact World.block_lt_of_cell? _ _ hu
      have hm9 : m ≤ 2000 := by have := putL_len (more.take i) l; rw [List.length_take] at this; omega
      have hmc := hq.lx.le
      have hmt := hq.lx.top
      unfold maxLen at hmt
      generalize more[i]'(by omega) = e at hx c2 tj tu hst hsk
      have hjl := tj.len_eq
      have hul := tu.len_eq
      rw [hjl, hul] at hsk
      obtain ⟨es, hes⟩ : ∃ es, Hid (putL l (more.take i) = es) := ⟨_, rfl⟩
      rw [hes.out] at hq hst hml
      have hst : Hid (putL l (more.take (i + 1)) = insR (norm e) es) := hst
      obtain ⟨G, hG⟩ : ∃ G, Hid (e.g = G) := ⟨_, rfl⟩
      rw [hG.out] at c2
      have c0 := cell_later hb c0
      have c1 := cell_later hb c1
      have c2 := cell_later hb c2
      have tj := tj.later hb
      have tu := tu.later hb
      clear hx hc hjl hul
      have hiI : (i : Int) < lb := by omega
      go_wp2_with fail
      have bA : Below W1.heap.size W1 (W1.alloc (.cells #[] 5)).drew := ((Below.refl _ _).alloc (Nat.le_refl _) _).drew
      have bAB : Below W1.heap.size W1 ((W1.alloc (.cells #[] 5)).alloc (.cells #[.slice none 0 0, .slice none 0 0, .bool false] 26)).drew := (((Below.refl _ _).alloc (Nat.le_refl _) _).alloc (by simp) _).drew
      have bBA : Below W1.heap.size W1 ((W1.alloc (.cells #[.slice none 0 0, .slice none 0 0, .bool false] 26)).alloc (.cells #[] 5)).drew := (((Below.refl _ _).alloc (Nat.le_refl _) _).alloc (by simp) _).drew
      have bB : Below W1.heap.size W1 (W1.alloc (.cells #[.slice none 0 0, .slice none 0 0, .bool false] 26)).drew := ((Below.refl _ _).alloc (Nat.le_refl _) _).drew
      have b0 : Below W1.heap.size W1 W1.drew := (Below.refl _ _).drew
      have oA := own_at5 (W1.alloc (.cells #[] 5)).drew W1.heap.size W1.heap.size (heap_alloc_new W1 _) (Nat.le_refl _)
      have oAB := own_at5 ((W1.alloc (.cells #[] 5)).alloc (.cells #[.slice none 0 0, .slice none 0 0, .bool false] 26)).drew W1.heap.size W1.heap.size (by show (World.alloc _ _).heap[_]? = _; rw [Below.heap_alloc _ _ _ (by simp)]; exact heap_alloc_new W1 _) (Nat.le_refl _)
      have oBA := own_at5 ((W1.alloc (.cells #[.slice none 0 0, .slice none 0 0, .bool false] 26)).alloc (.cells #[] 5)).drew (W1.heap.size + 1) W1.heap.size (by show (World.alloc _ _).heap[_]? = _; have := heap_alloc_new (W1.alloc (.cells #[.slice none 0 0, .slice none 0 0, .bool false] 26)) (.cells #[] 5); rwa [show (W1.alloc (.cells #[.slice none 0 0, .slice none 0 0, .bool false] 26)).heap.size = W1.heap.size + 1 by simp] at this) (by omega)
      have xAB : Boxf ((W1.alloc (.cells #[] 5)).alloc (.cells #[.slice none 0 0, .slice none 0 0, .bool false] 26)).drew (W1.heap.size + 1) (.slice none 0 0) (.slice none 0 0) false := by
        have := Boxf.new (W1.alloc (.cells #[] 5)) (.slice none 0 0) (.slice none 0 0) false
        rwa [show (W1.alloc (.cells #[] 5)).heap.size = W1.heap.size + 1 by simp] at this
      have xBA : Boxf ((W1.alloc (.cells #[.slice none 0 0, .slice none 0 0, .bool false] 26)).alloc (.cells #[] 5)).drew W1.heap.size (.slice none 0 0) (.slice none 0 0) false := (Boxf.new W1 (.slice none 0 0) (.slice none 0 0) false).off (S := []) (w' := ((W1.alloc (.cells #[.slice none 0 0, .slice none 0 0, .bool false] 26)).alloc (.cells #[] 5)).drew) (.of_below (((Below.refl _ _).alloc (Nat.le_refl _) _))) (by simp)
      have tA := tj.later bA
      have tAB := tj.later bAB
      have tBA := tj.later bBA
      have hS := fun (W : World) (hW : Below W1.heap.size W1 W) => held2 c0 c2 hW
      have hv1 : ∀ q ∈ own (.slice (some ⟨W1.heap.size, 0, none⟩) 0 0), W1.heap.size ≤ q := by simp [own, Value.ownBlock]
      have hv2 : ∀ q ∈ own (.slice (some ⟨W1.heap.size + 1, 0, none⟩) 0 0), W1.heap.size ≤ q := by simp [own, Value.ownBlock]
      have hn1 : W1.heap.size + 1 ∉ own (.slice (some ⟨W1.heap.size, 0, none⟩) 0 0) := by simp [own, Value.ownBlock]
      have hn2 : W1.heap.size ∉ own (.slice (some ⟨W1.heap.size + 1, 0, none⟩) 0 0) := by simp [own, Value.ownBlock]
      go_cut [7] from 12 to 91 (fun s7 wx => ∃ (p : Nat) (ko : Option Addr) (kc : Nat), s7 = .pointer (some ⟨p, 0, none⟩) ∧ Xe W1 wx X p e ko jl kc none 0 0 G e.k [])
      case first =>
        go_region_held_law (fun w' => w'.cell? ⟨b, off + i * 3, none⟩ = some (.slice jo jl jc) ∧ w'.cell? ⟨b, off + i * 3 + 2, none⟩ = some (.bool G) ∧ Below W1.heap.size W1 w') (first | assumption | exact hS _ b0 | exact hS _ bA | exact hS _ bB | exact hS _ bAB | exact hS _ bBA | exact hS _ b6 | exact hS _ b6B | exact hS _ b6C) (first
          | (refine step_app rfl (.tmp 18) (.tmp 23) rfl W1.heap.size (.slice (some ⟨W1.heap.size, 0, none⟩) 0 0) 0 [] (by simp [Act.eval]) oA jo jl jc e.k (by simp [Act.eval]) tA (by omega) bA.size ?_; intro a6 k6 w6 own6 of6 sub6; have b6 : Below W1.heap.size W1 w6 := bA.trans (of6.below hv1 bA.size); have b6B : Below W1.heap.size W1 (w6.alloc (.cells #[.slice none 0 0, .slice none 0 0, .bool false] 26)) := b6.alloc b6.size _; have b6C : Below W1.heap.size W1 (w6.alloc (.cells #[.slice a6 jl k6, .slice none 0 0, .bool G] 26)) := b6.alloc b6.size _)
          | (refine step_app rfl (.tmp 18) (.tmp 23) rfl W1.heap.size (.slice (some ⟨W1.heap.size, 0, none⟩) 0 0) 0 [] (by simp [Act.eval]) oAB jo jl jc e.k (by simp [Act.eval]) tAB (by omega) bAB.size ?_; intro a6 k6 w6 own6 of6 sub6; have b6 : Below W1.heap.size W1 w6 := bAB.trans (of6.below hv1 bAB.size); have x6 := xAB.off of6 hn1; have y0 := x6.c0; have y1 := x6.c1; have y2 := x6.c2; have z0 := x6.z 0; have z1 := x6.z 1; have z2 := x6.z 2; have b6C := below_set3 b6 (p := W1.heap.size + 1) (by omega) (.slice a6 jl k6) (.slice none 0 0) (.bool G))
          | (refine step_app rfl (.tmp 18) (.tmp 23) rfl W1.heap.size (.slice (some ⟨W1.heap.size + 1, 0, none⟩) 0 0) 0 [] (by simp [Act.eval]) oBA jo jl jc e.k (by simp [Act.eval]) tBA (by omega) bBA.size ?_; intro a6 k6 w6 own6 of6 sub6; have b6 : Below W1.heap.size W1 w6 := bBA.trans (of6.below hv2 bBA.size); have x6 := xBA.off of6 hn2; have y0 := x6.c0; have y1 := x6.c1; have y2 := x6.c2; have z0 := x6.z 0; have z1 := x6.z 1; have z2 := x6.z 2; have b6C := below_set3 b6 (p := W1.heap.size) (Nat.le_refl _) (.slice a6 jl k6) (.slice none 0 0) (.bool G)))
        all_goals
          try simp only [List.getElem_toArray, List.getElem_cons_succ, List.getElem_cons_zero, List.setIfInBounds_toArray, List.set_cons_zero, List.set_cons_succ]
          go_wp2_with fail
          go_meet
        · obtain ⟨t6, f6⟩ := app_tx own6 tj.rng
          have hlt : ∀ ad, a6 = some ad → ad.block < w6.heap.size := fun ad ha => (own_lt own6 ad.block (by subst ha; simp [own, Value.ownBlock])).1
          exact ⟨_, a6, k6, rfl, ⟨Boxf.new' w6 _ _ _, b6.size, t6.alloc _, Tx.nil _, fun ad ha _ => ⟨f6 ad ha, by have := hlt ad ha; omega⟩, fun _ ha => (by cases ha), b6C⟩⟩
        · obtain ⟨t6, f6⟩ := app_tx own6 tj.rng
          have hne : ∀ ad, a6 = some ad → ad.block ≠ W1.heap.size + 1 := fun ad ha he => by
            rcases sub6 ad.block (by subst ha; simp [own, Value.ownBlock]) with h1 | h1
            · exact hn1 (by rw [he] at h1; exact h1)
            · have := xAB.lt; omega
          exact ⟨_, a6, k6, rfl, ⟨Boxf.set _ _ _ _ _ _ x6 _, by omega, t6.off (off_set3 _ _ _ _ _) (fun ad ha _ hk => by simp at hk; exact hne ad ha hk), Tx.nil _, fun ad ha _ => ⟨f6 ad ha, hne ad ha⟩, fun _ ha => (by cases ha), b6C⟩⟩
        · obtain ⟨t6, f6⟩ := app_tx own6 tj.rng
          have hne : ∀ ad, a6 = some ad → ad.block ≠ W1.heap.size := fun ad ha he => by
            rcases sub6 ad.block (by subst ha; simp [own, Value.ownBlock]) with h1 | h1
            · exact hn2 (by rw [he] at h1; exact h1)
            · have := xBA.lt; omega
          exact ⟨_, a6, k6, rfl, ⟨Boxf.set _ _ _ _ _ _ x6 _, Nat.le_refl _, t6.off (off_set3 _ _ _ _ _) (fun ad ha _ hk => by simp at hk; exact hne ad ha hk), Tx.nil _, fun ad ha _ => ⟨f6 ad ha, hne ad ha⟩, fun _ ha => (by cases ha), b6C⟩⟩
      case rest =>
        clear bA bAB bBA bB b0 oA oAB oBA xAB xBA tA tAB tBA hS hv1 hv2 hn1 hn2
        obtain ⟨p, ko, kc, rfl, hXe⟩ := hcut
        have hXH : Hid (Xe W1 wc X p e ko jl kc none 0 0 G e.k []) := hXe
        obtain ⟨x0, x1, x2, xz⟩ := hXe.bx
        have c0c := cell_later hXe.b c0
        have c1c := cell_later hXe.b c1
        clear hXe
        go_upto_if 33 with fail
        go_cut [] from 12 to 91 (fun wx => ∃ (vo : Option Addr) (vc : Nat), Xe W1 wx X p e ko jl kc vo (if G = true then 0 else ul) vc G e.k (norm e).v)
        case first =>
          have hX2 := hXH.out
          have tuc := tu.later hX2.b
          have gE := own_empty2 wc
          have bE : Below wc.heap.size wc (wc.alloc (.cells #[] 5)) := (Below.refl _ _).alloc (Nat.le_refl _) _
          have tuE := tuc.later bE
          have c1E := cell_later bE c1c
          have hpc : p < wc.heap.size := hX2.bx.lt
          cases G with
          | true =>
            clear hX2 gE bE tuE tuc
            go_wp2_with fail
            go_meet
            exact ⟨none, 0, by rw [norm_val e hG.out]; exact hXH.out⟩
          | false =>
            clear hX2
            go_wp2_with (with_reducible show wpList _ _ _ (⟨some 40, _, _, _, _, _⟩ :: _) _ _; refine wpList_gr rfl _ _ rfl wc.heap.size (some ⟨wc.heap.size, 0, none⟩) 0 0 [] rfl gE uo ul uc e.v rfl tuE (by omega) ?_; intro a8 n8 c8 w8 hn8 g8 m8; have b8 := bE.trans (m8.below gE); have x8 := (hXH.out.bx).off (S := []) (.of_below b8) (by simp); have y0 := x8.c0; have y1 := x8.c1; have y2 := x8.c2; have z1 := x8.z 1)
            go_meet
            have hn : n8 = ul := by have := hn8.out; omega
            subst hn
            have hX2 := hXH.out
            have hO := (Off.refl [p] w8).setCell (p := ⟨p, 1, none⟩) (by simp) (.slice a8 n8 c8)
            have hlt8 : ∀ ad, a8 = some ad → wc.heap.size ≤ ad.block := fun ad ha => (g8.lt ad.block (by subst ha; simp [own, Value.ownBlock])).2
            have t8 := g8.tx
            rw [List.nil_append] at t8
            exact ⟨a8, c8, ⟨Box.set1 x8, hX2.pge, (hX2.tk.later b8).off hO (fun ad ha h0 hk => by simp at hk; exact (hX2.kf ad ha h0).2 hk), by rw [norm_val e hG.out]; exact t8.off hO (fun ad ha h0 hk => by simp at hk; have := hlt8 ad ha; omega), hX2.kf, fun ad ha h0 => ⟨by have := hlt8 ad ha; have := hX2.b.size; omega, by have := hlt8 ad ha; omega⟩, (hX2.b.trans (b8.mono hX2.b.size)).setCell (p := ⟨p, 1, none⟩) hX2.pge _⟩⟩
        case rest =>
          clear hXH x0 x1 x2 xz c0c c1c
          obtain ⟨vo, vc, hXe⟩ := hcut
          obtain ⟨VL, hVL⟩ : ∃ VL, Hid ((if G = true then 0 else ul) = VL) := ⟨_, rfl⟩
          rw [hVL.out] at hXe
          generalize wc = W0 at hXe ⊢
          have hq0 := hq.later hXe.b
          have hB0 : Below w.heap.size w W0 := hb.trans (hXe.b.mono hb.size)
          have hw1 : w.heap.size ≤ W1.heap.size := hb.size
          have hL := hq0.read
          have c0 := hXe.bx.c0
          have c1 := hXe.bx.c1
          have c2 := hXe.bx.c2
          have tk := hXe.tk
          have tv := hXe.tv
          have hXp : ∀ k ∈ X, k < W1.heap.size := fun k hk => by have := hX k hk; omega
          have hRX : RE W0 X [.slice ko jl kc, .slice vo VL vc, .bool G] (norm e) := ⟨_, _, by rw [norm_g, hG.out], by rw [norm_k]; exact tk.at _ (fun ad ha h0 hk => by have := (hXe.kf ad ha h0).1; have := hXp _ hk; omega), tv.at _ (fun ad ha h0 hk => by have := (hXe.vf ad ha h0).1; have := hXp _ hk; omega)⟩
          have hkr := tj.rng
          have hXH : Hid (Xe W1 W0 X p e ko jl kc vo VL vc G e.k (norm e).v) := hXe
          clear hXe hq tj tu
          go_wp2
          go_loopw [8] (fun s8 wz => ∃ k : Nat, k ≤ m ∧ s8 = .int .i64 k ∧ Hid (∀ (j : Nat) (y : Ent), j < k → es[j]? = some y → lessB y.k e.k = true) ∧ Below W0.heap.size W0 wz) (fun s8 _ => m - (intOf s8).toNat)
          case atStart => exact ⟨0, by omega, rfl, fun j y hj => (by omega), Below.refl _ _⟩
          case round =>
            obtain ⟨k, hk, rfl, hbef, hbz⟩ := hrel
            have cr0 := fun d os => cell_regrown (cell_later hbz c0) d os
            have sr0 := fun d os => ((tk.later hbz).later (below_regrown wr d os)).string
            by_cases hkm : k < m
            · obtain ⟨g', o', hgo, hco⟩ := hL.headWX (by omega)
              cases hgo
              have hy : es[k]? = some (es[k]'(by omega)) := by simp
              obtain ⟨jo', jl', jc', uo', ul', uc', d0, d1, d2, tj', tu'⟩ := hco k _ hy
              generalize es[k]'(by omega) = x at hy d2 tj' tu'
              have hY : Hid (es[k]? = some x) := hy
              clear hy
              rw [Nat.zero_add] at d0
              have dr0 := fun d os => cell_regrown (cell_later hbz d0) d os
              have sr1 := fun d os => ((tj'.later hbz).later (below_regrown wr d os)).string
              have hless := str_less x.k e.k tj'.rng hkr
              obtain ⟨F, hF⟩ : ∃ F, Hid (lessB x.k e.k = F) := ⟨_, rfl⟩
              rw [hF.out] at hless
              have hne := fun hh => str_ne (xs := x.k) (ys := e.k) tj'.rng hkr hh
              have heq : x.k = e.k → strOfNums x.k = strOfNums e.k := fun hh => by rw [hh]
              have hki : (k : Int) < m := by omega
              cases F with
              | true =>
                have hnx : Hid (∀ (j : Nat) (y : Ent), j < k + 1 → es[j]? = some y → lessB y.k e.k = true) := fun j y hj hy => by
                  by_cases hjk : j = k
                  · subst hjk
                    rw [hY.out] at hy
                    cases hy
                    exact hF.out
                  · exact hbef.out j y (by omega) hy
                clear hne heq
                generalize strOfNums x.k = SX at sr1 hless
                generalize strOfNums e.k = SE at sr0 hless
                go_wp2_with fail
                refine wp_region_quiet_below (by kernel_rfl) (by kernel_rfl) ?_
                repeat (go_big_quiet_step (fail))
                (with_reducible refine wpQuiet_nil ?_)
                intro _ hw'
                obtain ⟨⟨dq, osq⟩, hw''⟩ := hw'
                subst hw''
                have hbq := hbz.trans ((below_regrown wr dq osq).mono hbz.size)
                go_wp2
                go_roundw
                case rel => exact ⟨k + 1, by omega, by go_num, hnx, hbq⟩
                case measure => simp [intOf]; omega
              | false =>
                by_cases hxe : x.k = e.k
                · have hins : Hid (insR (norm e) es = es.set k (norm e)) := ins_set (norm e) es k x (by rw [norm_k]; exact hbef.out) hY.out (by rw [norm_k]; exact hxe)
                  have hss := heq hxe
                  clear heq hne
                  rw [hss] at sr1 hless
                  generalize strOfNums e.k = SE at sr0 sr1 hless
                  go_wp2_with fail
                  refine wp_region_quiet_below (by kernel_rfl) (by kernel_rfl) ?_
                  repeat (go_big_quiet_step (fail))
                  (with_reducible refine wpQuiet_nil ?_)
                  intro _ hw'
                  obtain ⟨⟨dq, osq⟩, hw''⟩ := hw'
                  subst hw''
                  have hbq := hbz.trans ((below_regrown wr dq osq).mono hbz.size)
                  have bq0 := below_regrown wr dq osq
                  clear cr0 sr0 dr0 sr1
                  generalize grow (redrawn wr dq) osq = V2 at hbq ⊢
                  have cr0 := fun d os => cell_regrown (cell_later hbq c0) d os
                  have dr0 := fun d os => cell_regrown (cell_later hbq d0) d os
                  have sr0' := fun d os => ((tk.later hbq).later (below_regrown V2 d os)).string
                  have sr1' := fun d os => ((tj'.later hbq).later (below_regrown V2 d os)).string
                  rw [hss] at sr1'
                  generalize strOfNums e.k = SE2 at sr0' sr1'
                  go_wp2_with fail
                  refine wp_region_quiet_below (by kernel_rfl) (by kernel_rfl) ?_
                  repeat (go_big_quiet_step (fail))
                  (with_reducible refine wpQuiet_nil ?_)
                  intro _ hw'
                  obtain ⟨⟨dq, osq⟩, hw''⟩ := hw'
                  subst hw''
                  have bq1 := below_regrown V2 dq osq
                  have hbV := hbq.trans (bq1.mono hbq.size)
                  have hqV := hq0.later hbV
                  clear cr0 dr0 sr0' sr1'
                  generalize grow (redrawn V2 dq) osq = V at hbV hqV ⊢
                  have cl0 := cell_later hbV c0
                  have cl1 := cell_later hbV c1
                  have cl2 := cell_later hbV c2
                  have hBV : Below w.heap.size w V := hB0.trans (hbV.mono hB0.size)
                  have hgth : w.heap.size ≤ g ∧ g < W1.heap.size := by
                    obtain ⟨g9, h9, h10, _⟩ := hq0.th (by omega)
                    cases h9
                    exact ⟨h10, hgW (by omega)⟩
                  have hRV : RE V (g :: X) [.slice ko jl kc, .slice vo VL vc, .bool G] (norm e) := ⟨_, _, by rw [norm_g, hG.out], by rw [norm_k]; exact (tk.later hbV).at _ (fun ad ha h0 hk => by have := (hXH.out.kf ad ha h0).1; rcases List.mem_cons.1 hk with h | h; omega; have := hXp _ h; omega), (tv.later hbV).at _ (fun ad ha h0 hk => by have := (hXH.out.vf ad ha h0).1; rcases List.mem_cons.1 hk with h | h; omega; have := hXp _ h; omega)⟩
                  go_wp2_with (with_reducible show wpList _ _ _ (⟨none, _, _, _, _, _⟩ :: _) _ _; refine wpList_putQ rfl _ _ rfl X w.heap.size g m cc k (.slice ko jl kc) (.slice vo VL vc) (.bool G) es (norm e) rfl rfl hqV hkm hRV ?_; intro x2 ro2 b2)
                  go_roundw
                  case rel =>
                    refine ⟨i + 1, g, m, cc, by omega, by go_num, rfl, ?_, hBV.trans (b2.below (by simpa using hgth.1) hBV.size)⟩
                    rw [hst.out, hins.out]; exact ro2
                  case measure => simp [intOf]; omega
                · have hins : Hid (insR (norm e) es = es.take k ++ [norm e] ++ es.drop k) := ins_mid (norm e) es k (by omega) (by rw [norm_k]; exact hbef.out) (fun z hz => by rw [hY.out] at hz; cases hz; rw [norm_k]; exact ⟨hF.out, hxe⟩)
                  have hss := hne hxe
                  clear heq hne
                  generalize strOfNums x.k = SX at sr1 hless hss
                  generalize strOfNums e.k = SE at sr0 hless hss
                  have hss2 : (SX.toList == SE.toList) = false := by simp [hss]
                  go_wp2_with fail
                  refine wp_region_quiet_below (by kernel_rfl) (by kernel_rfl) ?_
                  repeat (go_big_quiet_step (fail))
                  (with_reducible refine wpQuiet_nil ?_)
                  intro _ hw'
                  obtain ⟨⟨dq, osq⟩, hw''⟩ := hw'
                  subst hw''
                  have hbq := hbz.trans ((below_regrown wr dq osq).mono hbz.size)
                  clear cr0 dr0 sr0 sr1
                  have hsa := fun d os => ((tk.later hbq).later (below_regrown (grow (redrawn wr dq) osq) d os)).string
                  have hsb := fun d os => ((tj'.later hbq).later (below_regrown (grow (redrawn wr dq) osq) d os)).string
                  have hssn := str_ne tj'.rng hkr hxe
                  generalize grow (redrawn wr dq) osq = V2 at hbq hsa hsb ⊢
                  generalize strOfNums x.k = SX2 at hsb hssn
                  generalize strOfNums e.k = SE2 at hsa hssn
                  have hssn2 : (SX2.toList == SE2.toList) = false := by simp [hssn]
                  have cr0 := fun d os => cell_regrown (cell_later hbq c0) d os
                  have dr0 := fun d os => cell_regrown (cell_later hbq d0) d os
                  go_wp2_with fail
                  refine wp_region_quiet_below (by kernel_rfl) (by kernel_rfl) ?_
                  repeat (go_big_quiet_step (fail))
                  (with_reducible refine wpQuiet_nil ?_)
                  intro _ hw'
                  obtain ⟨⟨dq, osq⟩, hw''⟩ := hw'
                  subst hw''
                  have bq1 := below_regrown V2 dq osq
                  have hbV := hbq.trans (bq1.mono hbq.size)
                  have hqV := hq0.later hbV
                  clear cr0 dr0 hsa hsb
                  generalize grow (redrawn V2 dq) osq = V at hbV hqV ⊢
                  have cl0 := cell_later hbV c0
                  have cl1 := cell_later hbV c1
                  have cl2 := cell_later hbV c2
                  have hBV : Below w.heap.size w V := hB0.trans (hbV.mono hB0.size)
                  have hwV := hBV.size
                  have hLV := hqV.read
                  have hRE : RWX X V V [] [.slice ko jl kc, .slice vo VL vc, .bool G] (norm e) := RE.stable _ _ _ _ _ _ hRX (.of_below hbV) (fun k hk => .inl hk)
                  have hREw : ∀ (W : World) (S : List Nat), RWX X V W S [.slice ko jl kc, .slice vo VL vc, .bool G] (norm e) := fun _ _ => hRE
                  have hcbk : ¬ cc = k := by omega
                  have lxD := hLV.drop3X k hk
                  rw [Nat.zero_add] at lxD
                  have lxK := hLV.take k hk
                  have hS := fun (W : World) (hW : Below V.heap.size V W) => (⟨cell_later hW cl0, cell_later hW cl1, cell_later hW cl2, hW⟩ : W.cell? ⟨p, 0, none⟩ = some (.slice ko jl kc) ∧ W.cell? ⟨p, 1, none⟩ = some (.slice vo VL vc) ∧ W.cell? ⟨p, 2, none⟩ = some (.bool G) ∧ Below V.heap.size V W)
                  have b0 : Below V.heap.size V V.drew := (Below.refl _ _).drew
                  have bA : Below V.heap.size V (V.alloc (.cells #[] 26)).drew := ((Below.refl _ _).alloc (Nat.le_refl _) _).drew
                  have bC : Below V.heap.size V (V.alloc (.cells #[.slice ko jl kc, .slice vo VL vc, .bool G] 26)).drew := ((Below.refl _ _).alloc (Nat.le_refl _) _).drew
                  have bAC : Below V.heap.size V ((V.alloc (.cells #[] 26)).alloc (.cells #[.slice ko jl kc, .slice vo VL vc, .bool G] 26)).drew := (((Below.refl _ _).alloc (Nat.le_refl _) _).alloc (by simp) _).drew
                  have bCA : Below V.heap.size V ((V.alloc (.cells #[.slice ko jl kc, .slice vo VL vc, .bool G] 26)).alloc (.cells #[] 26)).drew := (((Below.refl _ _).alloc (Nat.le_refl _) _).alloc (by simp) _).drew
                  have lsA := ls_empty_atX X V (V.alloc (.cells #[] 26)).drew V.heap.size V.heap.size (heap_alloc_new V _) (Nat.le_refl _)
                  have lsAC := ls_empty_atX X V ((V.alloc (.cells #[] 26)).alloc (.cells #[.slice ko jl kc, .slice vo VL vc, .bool G] 26)).drew V.heap.size V.heap.size (by show (World.alloc _ _).heap[_]? = _; rw [Below.heap_alloc _ _ _ (by simp)]; exact heap_alloc_new V _) (Nat.le_refl _)
                  have lsCA := ls_empty_atX X V ((V.alloc (.cells #[.slice ko jl kc, .slice vo VL vc, .bool G] 26)).alloc (.cells #[] 26)).drew (V.heap.size + 1) V.heap.size (by show (World.alloc _ _).heap[_]? = _; have := heap_alloc_new (V.alloc (.cells #[.slice ko jl kc, .slice vo VL vc, .bool G] 26)) (.cells #[] 26); rwa [show (V.alloc (.cells #[.slice ko jl kc, .slice vo VL vc, .bool G] 26)).heap.size = V.heap.size + 1 by simp] at this) (by omega)
                  have cAC : ∀ j x, [.slice ko jl kc, .slice vo VL vc, .bool G][j]? = some x → ((V.alloc (.cells #[] 26)).alloc (.cells #[.slice ko jl kc, .slice vo VL vc, .bool G] 26)).drew.cell? ((⟨V.heap.size + 1, 0, none⟩ : Addr).add j) = some x := cells3_at (V.alloc (.cells #[] 26)) (V.heap.size + 1) (by simp) _ _ _
                  have cCA : ∀ j x, [.slice ko jl kc, .slice vo VL vc, .bool G][j]? = some x → ((V.alloc (.cells #[.slice ko jl kc, .slice vo VL vc, .bool G] 26)).alloc (.cells #[] 26)).drew.cell? ((⟨V.heap.size, 0, none⟩ : Addr).add j) = some x := fun j x hx => cell_later (((Below.refl _ _).alloc (Nat.le_refl _) _).drew) (cells3_new V _ _ _ j x hx)
                  have hVz : V.heap.size + 1 ∉ own (.slice (some ⟨V.heap.size, 0, none⟩) 0 0) := by simp [own, Value.ownBlock]
                  have hVz2 : V.heap.size ∉ own (.slice (some ⟨V.heap.size + 1, 0, none⟩) 0 0) := by simp [own, Value.ownBlock]
                  have ho1 : ∀ q ∈ own (.slice (some ⟨V.heap.size, 0, none⟩) 0 0), V.heap.size ≤ q := by simp [own, Value.ownBlock]
                  have ho2 : ∀ q ∈ own (.slice (some ⟨V.heap.size + 1, 0, none⟩) 0 0), V.heap.size ≤ q := by simp [own, Value.ownBlock]
                  have hcadd : ∀ (W : World) (g j : Nat), ((⟨g, 0, none⟩ : Addr).add j).block = g := fun W g j => add_block _ j
                  go_wp2_with fail
                  go_region_held_law (fun w' => w'.cell? ⟨p, 0, none⟩ = some (.slice ko jl kc) ∧ w'.cell? ⟨p, 1, none⟩ = some (.slice vo VL vc) ∧ w'.cell? ⟨p, 2, none⟩ = some (.bool G) ∧ Below V.heap.size V w') (first | assumption | exact hS _ b0 | exact hS _ bA | exact hS _ bC | exact hS _ bAC | exact hS _ bCA | exact hS _ b6 | exact hS _ b6C | exact hS _ b7 | exact hS _ b8) (first
                    | (refine step_allEX rfl (.tmp 80) (.tmp 83) rfl X V V.heap.size (.slice (some ⟨V.heap.size, 0, none⟩) 0 0) [] (by simp [Act.eval]) lsA (some ⟨g, 0, none⟩) k cc (es.take k) (by simp [Act.eval]) (lxK.later (RWX.st X V) bA) (by simp; omega) bA.size ?_; intro a6 n6 c6 w6 hn6 ls6 of6 sub6; have b6 : Below V.heap.size V w6 := bA.trans (of6.below ho1 bA.size); have b6C : Below V.heap.size V (w6.alloc (.cells #[.slice ko jl kc, .slice vo VL vc, .bool G] 26)) := b6.alloc b6.size _; have e6 := ls6.later (RWX.st X V) ((Below.refl w6.heap.size w6).alloc (Nat.le_refl _) (.cells #[.slice ko jl kc, .slice vo VL vc, .bool G] 26)); have f6 := cells3_new w6 (.slice ko jl kc) (.slice vo VL vc) (.bool G))
                    | (refine step_allEX rfl (.tmp 80) (.tmp 83) rfl X V V.heap.size (.slice (some ⟨V.heap.size, 0, none⟩) 0 0) [] (by simp [Act.eval]) lsAC (some ⟨g, 0, none⟩) k cc (es.take k) (by simp [Act.eval]) (lxK.later (RWX.st X V) bAC) (by simp; omega) bAC.size ?_; intro a6 n6 c6 w6 hn6 ls6 of6 sub6; have b6 : Below V.heap.size V w6 := bAC.trans (of6.below ho1 bAC.size); have b6C := b6; have e6 := ls6; have f6 := fun (j : Nat) (x : Value) (hx : [.slice ko jl kc, .slice vo VL vc, .bool G][j]? = some x) => of6.cell (cAC j x hx) (by rw [hcadd w6]; exact hVz))
                    | (refine step_allEX rfl (.tmp 80) (.tmp 83) rfl X V V.heap.size (.slice (some ⟨V.heap.size + 1, 0, none⟩) 0 0) [] (by simp [Act.eval]) lsCA (some ⟨g, 0, none⟩) k cc (es.take k) (by simp [Act.eval]) (lxK.later (RWX.st X V) bCA) (by simp; omega) bCA.size ?_; intro a6 n6 c6 w6 hn6 ls6 of6 sub6; have b6 : Below V.heap.size V w6 := bCA.trans (of6.below ho2 bCA.size); have b6C := b6; have e6 := ls6; have f6 := fun (j : Nat) (x : Value) (hx : [.slice ko jl kc, .slice vo VL vc, .bool G][j]? = some x) => of6.cell (cCA j x hx) (by rw [hcadd w6]; exact hVz2))
                    | (refine step_one (RWX.st X V) (RWX.pl X V) Try.underlying23 Try.info26 rfl (by omega) (by omega) rfl (.tmp 84) (.tmp 86) rfl V.heap.size (.slice a6 n6 c6) ([] ++ es.take k) (by simp [Act.eval]) e6 ⟨w6.heap.size, 0, none⟩ 1 [.slice ko jl kc, .slice vo VL vc, .bool G] (norm e) (by simp [Act.eval]) f6 (hREw _ _) (by simp; omega) b6C.size ?_; intro a7 n7 c7 w7 hn7 ls7 of7 sub7; have b7 : Below V.heap.size V w7 := b6C.trans (of7.below (fun q hq => (ls6.lt q hq).2) b6C.size); clear hn7)
                    | (refine step_one (RWX.st X V) (RWX.pl X V) Try.underlying23 Try.info26 rfl (by omega) (by omega) rfl (.tmp 84) (.tmp 86) rfl V.heap.size (.slice a6 n6 c6) ([] ++ es.take k) (by simp [Act.eval, Act.put]) e6 ⟨V.heap.size + 1, 0, none⟩ 1 [.slice ko jl kc, .slice vo VL vc, .bool G] (norm e) (by simp [Act.eval, Act.put]) f6 (hREw _ _) (by simp; omega) b6C.size ?_; intro a7 n7 c7 w7 hn7 ls7 of7 sub7; have b7 : Below V.heap.size V w7 := b6C.trans (of7.below (fun q hq => (ls6.lt q hq).2) b6C.size); clear hn7)
                    | (refine step_one (RWX.st X V) (RWX.pl X V) Try.underlying23 Try.info26 rfl (by omega) (by omega) rfl (.tmp 84) (.tmp 86) rfl V.heap.size (.slice a6 n6 c6) ([] ++ es.take k) (by simp [Act.eval, Act.put]) e6 ⟨V.heap.size, 0, none⟩ 1 [.slice ko jl kc, .slice vo VL vc, .bool G] (norm e) (by simp [Act.eval, Act.put]) f6 (hREw _ _) (by simp; omega) b6C.size ?_; intro a7 n7 c7 w7 hn7 ls7 of7 sub7; have b7 : Below V.heap.size V w7 := b6C.trans (of7.below (fun q hq => (ls6.lt q hq).2) b6C.size); clear hn7)
                    | (refine step_allEX rfl (.tmp 87) (.tmp 90) rfl X V V.heap.size (.slice a7 n7 c7) ([] ++ es.take k ++ [norm e]) (by simp [Act.eval, Act.put]) ls7 (some ⟨g, k * 3, none⟩) (m - k) (cc - k) (es.drop k) (by simp [Act.eval, Act.put] <;> omega) (lxD.later (RWX.st X V) b7) (by simp; omega) b7.size ?_; intro a8 n8 c8 w8 hn8 ls8 of8 sub8; have b8 : Below V.heap.size V w8 := b7.trans (of8.below (fun q hq => (ls7.lt q hq).2) b7.size)))
                  all_goals
                    try simp only [List.getElem_toArray, List.getElem_cons_succ, List.getElem_cons_zero, List.setIfInBounds_toArray, List.set_cons_zero, List.set_cons_succ]
                    have hq8 := RQ.of (ls8.back b8 hwV)
                    have hn8' : Hid (0 < n8) := by show _ < _; have := hn8.out; simp at this; omega
                    clear hn8
                    have hB8 : Below w.heap.size w w8 := hBV.trans (b8.mono hBV.size)
                    obtain ⟨g8, hg8, _, _⟩ := hq8.th hn8'.out
                    subst hg8
                    go_wp2
                    go_roundw
                    case rel =>
                      refine ⟨i + 1, g8, n8, c8, by omega, by go_num, rfl, ?_, hB8⟩
                      rw [hst.out, hins.out]; simpa using hq8
                    case measure => simp [intOf]; omega
            · have hkm2 : k = m := by omega
              subst hkm2
              have hins : Hid (insR (norm e) es = es.take k ++ [norm e] ++ es.drop k) := ins_mid (norm e) es k (by omega) (by rw [norm_k]; exact hbef.out) (fun z hz => by have := (List.getElem?_eq_some_iff.1 hz).1; omega)
              have hki : ¬ (k : Int) < k := by omega
              go_wp2_with fail
              refine wp_region_quiet_below (by kernel_rfl) (by kernel_rfl) ?_
              repeat (go_big_quiet_step (fail))
              (with_reducible refine wpQuiet_nil ?_)
              intro _ hw'
              obtain ⟨⟨dq, osq⟩, hw''⟩ := hw'
              subst hw''
              have hbq := hbz.trans ((below_regrown wr dq osq).mono hbz.size)
              clear cr0 sr0
              generalize grow (redrawn wr dq) osq = V2 at hbq ⊢
              go_wp2_with fail
              refine wp_region_quiet_below (by kernel_rfl) (by kernel_rfl) ?_
              repeat (go_big_quiet_step (fail))
              (with_reducible refine wpQuiet_nil ?_)
              intro _ hw'
              obtain ⟨⟨dq, osq⟩, hw''⟩ := hw'
              subst hw''
              have bq1 := below_regrown V2 dq osq
              have hbV := hbq.trans (bq1.mono hbq.size)
              have hqV := hq0.later hbV
              generalize grow (redrawn V2 dq) osq = V at hbV hqV ⊢
              have cl0 := cell_later hbV c0
              have cl1 := cell_later hbV c1
              have cl2 := cell_later hbV c2
              have hBV : Below w.heap.size w V := hB0.trans (hbV.mono hB0.size)
              have hwV := hBV.size
              have hLV := hqV.read
              have hRE : RWX X V V [] [.slice ko jl kc, .slice vo VL vc, .bool G] (norm e) := RE.stable _ _ _ _ _ _ hRX (.of_below hbV) (fun k hk => .inl hk)
              have hREw : ∀ (W : World) (S : List Nat), RWX X V W S [.slice ko jl kc, .slice vo VL vc, .bool G] (norm e) := fun _ _ => hRE
              have hdn : es.drop k = [] := List.drop_eq_nil_of_le (by omega)
              have hemp := fun (a : Addr) (c : Nat) (hc : c ≤ maxLen) => Lx.empty (c := 3) (RWX X V) V a c hc
              by_cases hcb : cc = k
              · subst hcb
                have lxD : Lx 3 (RWX X V) V (some ⟨g, 0, none⟩) 0 0 (es.drop cc) := by rw [hdn]; exact hemp _ _ (by unfold maxLen; omega)
                have lxK := hLV.take cc hk
                have hS := fun (W : World) (hW : Below V.heap.size V W) => (⟨cell_later hW cl0, cell_later hW cl1, cell_later hW cl2, hW⟩ : W.cell? ⟨p, 0, none⟩ = some (.slice ko jl kc) ∧ W.cell? ⟨p, 1, none⟩ = some (.slice vo VL vc) ∧ W.cell? ⟨p, 2, none⟩ = some (.bool G) ∧ Below V.heap.size V W)
                have b0 : Below V.heap.size V V.drew := (Below.refl _ _).drew
                have bA : Below V.heap.size V (V.alloc (.cells #[] 26)).drew := ((Below.refl _ _).alloc (Nat.le_refl _) _).drew
                have bC : Below V.heap.size V (V.alloc (.cells #[.slice ko jl kc, .slice vo VL vc, .bool G] 26)).drew := ((Below.refl _ _).alloc (Nat.le_refl _) _).drew
                have bAC : Below V.heap.size V ((V.alloc (.cells #[] 26)).alloc (.cells #[.slice ko jl kc, .slice vo VL vc, .bool G] 26)).drew := (((Below.refl _ _).alloc (Nat.le_refl _) _).alloc (by simp) _).drew
                have bCA : Below V.heap.size V ((V.alloc (.cells #[.slice ko jl kc, .slice vo VL vc, .bool G] 26)).alloc (.cells #[] 26)).drew := (((Below.refl _ _).alloc (Nat.le_refl _) _).alloc (by simp) _).drew
                have lsA := ls_empty_atX X V (V.alloc (.cells #[] 26)).drew V.heap.size V.heap.size (heap_alloc_new V _) (Nat.le_refl _)
                have lsAC := ls_empty_atX X V ((V.alloc (.cells #[] 26)).alloc (.cells #[.slice ko jl kc, .slice vo VL vc, .bool G] 26)).drew V.heap.size V.heap.size (by show (World.alloc _ _).heap[_]? = _; rw [Below.heap_alloc _ _ _ (by simp)]; exact heap_alloc_new V _) (Nat.le_refl _)
                have lsCA := ls_empty_atX X V ((V.alloc (.cells #[.slice ko jl kc, .slice vo VL vc, .bool G] 26)).alloc (.cells #[] 26)).drew (V.heap.size + 1) V.heap.size (by show (World.alloc _ _).heap[_]? = _; have := heap_alloc_new (V.alloc (.cells #[.slice ko jl kc, .slice vo VL vc, .bool G] 26)) (.cells #[] 26); rwa [show (V.alloc (.cells #[.slice ko jl kc, .slice vo VL vc, .bool G] 26)).heap.size = V.heap.size + 1 by simp] at this) (by omega)
                have cAC : ∀ j x, [.slice ko jl kc, .slice vo VL vc, .bool G][j]? = some x → ((V.alloc (.cells #[] 26)).alloc (.cells #[.slice ko jl kc, .slice vo VL vc, .bool G] 26)).drew.cell? ((⟨V.heap.size + 1, 0, none⟩ : Addr).add j) = some x := cells3_at (V.alloc (.cells #[] 26)) (V.heap.size + 1) (by simp) _ _ _
                have cCA : ∀ j x, [.slice ko jl kc, .slice vo VL vc, .bool G][j]? = some x → ((V.alloc (.cells #[.slice ko jl kc, .slice vo VL vc, .bool G] 26)).alloc (.cells #[] 26)).drew.cell? ((⟨V.heap.size, 0, none⟩ : Addr).add j) = some x := fun j x hx => cell_later (((Below.refl _ _).alloc (Nat.le_refl _) _).drew) (cells3_new V _ _ _ j x hx)
                have hVz : V.heap.size + 1 ∉ own (.slice (some ⟨V.heap.size, 0, none⟩) 0 0) := by simp [own, Value.ownBlock]
                have hVz2 : V.heap.size ∉ own (.slice (some ⟨V.heap.size + 1, 0, none⟩) 0 0) := by simp [own, Value.ownBlock]
                have ho1 : ∀ q ∈ own (.slice (some ⟨V.heap.size, 0, none⟩) 0 0), V.heap.size ≤ q := by simp [own, Value.ownBlock]
                have ho2 : ∀ q ∈ own (.slice (some ⟨V.heap.size + 1, 0, none⟩) 0 0), V.heap.size ≤ q := by simp [own, Value.ownBlock]
                have hcadd : ∀ (W : World) (g j : Nat), ((⟨g, 0, none⟩ : Addr).add j).block = g := fun W g j => add_block _ j
                go_wp2_with fail
                go_region_held_law (fun w' => w'.cell? ⟨p, 0, none⟩ = some (.slice ko jl kc) ∧ w'.cell? ⟨p, 1, none⟩ = some (.slice vo VL vc) ∧ w'.cell? ⟨p, 2, none⟩ = some (.bool G) ∧ Below V.heap.size V w') (first | assumption | exact hS _ b0 | exact hS _ bA | exact hS _ bC | exact hS _ bAC | exact hS _ bCA | exact hS _ b6 | exact hS _ b6C | exact hS _ b7 | exact hS _ b8) (first
                  | (refine step_allEX rfl (.tmp 80) (.tmp 83) rfl X V V.heap.size (.slice (some ⟨V.heap.size, 0, none⟩) 0 0) [] (by simp [Act.eval]) lsA (some ⟨g, 0, none⟩) cc cc (es.take cc) (by simp [Act.eval]) (lxK.later (RWX.st X V) bA) (by simp; omega) bA.size ?_; intro a6 n6 c6 w6 hn6 ls6 of6 sub6; have b6 : Below V.heap.size V w6 := bA.trans (of6.below ho1 bA.size); have b6C : Below V.heap.size V (w6.alloc (.cells #[.slice ko jl kc, .slice vo VL vc, .bool G] 26)) := b6.alloc b6.size _; have e6 := ls6.later (RWX.st X V) ((Below.refl w6.heap.size w6).alloc (Nat.le_refl _) (.cells #[.slice ko jl kc, .slice vo VL vc, .bool G] 26)); have f6 := cells3_new w6 (.slice ko jl kc) (.slice vo VL vc) (.bool G))
                  | (refine step_allEX rfl (.tmp 80) (.tmp 83) rfl X V V.heap.size (.slice (some ⟨V.heap.size, 0, none⟩) 0 0) [] (by simp [Act.eval]) lsAC (some ⟨g, 0, none⟩) cc cc (es.take cc) (by simp [Act.eval]) (lxK.later (RWX.st X V) bAC) (by simp; omega) bAC.size ?_; intro a6 n6 c6 w6 hn6 ls6 of6 sub6; have b6 : Below V.heap.size V w6 := bAC.trans (of6.below ho1 bAC.size); have b6C := b6; have e6 := ls6; have f6 := fun (j : Nat) (x : Value) (hx : [.slice ko jl kc, .slice vo VL vc, .bool G][j]? = some x) => of6.cell (cAC j x hx) (by rw [hcadd w6]; exact hVz))
                  | (refine step_allEX rfl (.tmp 80) (.tmp 83) rfl X V V.heap.size (.slice (some ⟨V.heap.size + 1, 0, none⟩) 0 0) [] (by simp [Act.eval]) lsCA (some ⟨g, 0, none⟩) cc cc (es.take cc) (by simp [Act.eval]) (lxK.later (RWX.st X V) bCA) (by simp; omega) bCA.size ?_; intro a6 n6 c6 w6 hn6 ls6 of6 sub6; have b6 : Below V.heap.size V w6 := bCA.trans (of6.below ho2 bCA.size); have b6C := b6; have e6 := ls6; have f6 := fun (j : Nat) (x : Value) (hx : [.slice ko jl kc, .slice vo VL vc, .bool G][j]? = some x) => of6.cell (cCA j x hx) (by rw [hcadd w6]; exact hVz2))
                  | (refine step_one (RWX.st X V) (RWX.pl X V) Try.underlying23 Try.info26 rfl (by omega) (by omega) rfl (.tmp 84) (.tmp 86) rfl V.heap.size (.slice a6 n6 c6) ([] ++ es.take cc) (by simp [Act.eval]) e6 ⟨w6.heap.size, 0, none⟩ 1 [.slice ko jl kc, .slice vo VL vc, .bool G] (norm e) (by simp [Act.eval]) f6 (hREw _ _) (by simp; omega) b6C.size ?_; intro a7 n7 c7 w7 hn7 ls7 of7 sub7; have b7 : Below V.heap.size V w7 := b6C.trans (of7.below (fun q hq => (ls6.lt q hq).2) b6C.size); clear hn7)
                  | (refine step_one (RWX.st X V) (RWX.pl X V) Try.underlying23 Try.info26 rfl (by omega) (by omega) rfl (.tmp 84) (.tmp 86) rfl V.heap.size (.slice a6 n6 c6) ([] ++ es.take cc) (by simp [Act.eval, Act.put]) e6 ⟨V.heap.size + 1, 0, none⟩ 1 [.slice ko jl kc, .slice vo VL vc, .bool G] (norm e) (by simp [Act.eval, Act.put]) f6 (hREw _ _) (by simp; omega) b6C.size ?_; intro a7 n7 c7 w7 hn7 ls7 of7 sub7; have b7 : Below V.heap.size V w7 := b6C.trans (of7.below (fun q hq => (ls6.lt q hq).2) b6C.size); clear hn7)
                  | (refine step_one (RWX.st X V) (RWX.pl X V) Try.underlying23 Try.info26 rfl (by omega) (by omega) rfl (.tmp 84) (.tmp 86) rfl V.heap.size (.slice a6 n6 c6) ([] ++ es.take cc) (by simp [Act.eval, Act.put]) e6 ⟨V.heap.size, 0, none⟩ 1 [.slice ko jl kc, .slice vo VL vc, .bool G] (norm e) (by simp [Act.eval, Act.put]) f6 (hREw _ _) (by simp; omega) b6C.size ?_; intro a7 n7 c7 w7 hn7 ls7 of7 sub7; have b7 : Below V.heap.size V w7 := b6C.trans (of7.below (fun q hq => (ls6.lt q hq).2) b6C.size); clear hn7)
                  | (refine step_allEX rfl (.tmp 87) (.tmp 90) rfl X V V.heap.size (.slice a7 n7 c7) ([] ++ es.take cc ++ [norm e]) (by simp [Act.eval, Act.put]) ls7 (some ⟨g, 0, none⟩) 0 0 (es.drop cc) (by simp [Act.eval, Act.put] <;> omega) (lxD.later (RWX.st X V) b7) (by simp; omega) b7.size ?_; intro a8 n8 c8 w8 hn8 ls8 of8 sub8; have b8 : Below V.heap.size V w8 := b7.trans (of8.below (fun q hq => (ls7.lt q hq).2) b7.size)))
                all_goals
                  try simp only [List.getElem_toArray, List.getElem_cons_succ, List.getElem_cons_zero, List.setIfInBounds_toArray, List.set_cons_zero, List.set_cons_succ]
                  have hq8 := RQ.of (ls8.back b8 hwV)
                  have hn8' : Hid (0 < n8) := by show _ < _; have := hn8.out; simp at this; omega
                  clear hn8
                  have hB8 : Below w.heap.size w w8 := hBV.trans (b8.mono hBV.size)
                  obtain ⟨g8, hg8, _, _⟩ := hq8.th hn8'.out
                  subst hg8
                  go_wp2
                  go_roundw
                  case rel =>
                    refine ⟨i + 1, g8, n8, c8, by omega, by go_num, rfl, ?_, hB8⟩
                    rw [hst.out, hins.out]; simpa using hq8
                  case measure => simp [intOf]; omega
              · have hkc2 : ¬ k = cc := by omega
                have lxD : Lx 3 (RWX X V) V (some ⟨g, k * 3, none⟩) 0 (cc - k) (es.drop k) := by rw [hdn]; exact hemp _ _ (by unfold maxLen; omega)
                have lxK := hLV.take k hk
                have hS := fun (W : World) (hW : Below V.heap.size V W) => (⟨cell_later hW cl0, cell_later hW cl1, cell_later hW cl2, hW⟩ : W.cell? ⟨p, 0, none⟩ = some (.slice ko jl kc) ∧ W.cell? ⟨p, 1, none⟩ = some (.slice vo VL vc) ∧ W.cell? ⟨p, 2, none⟩ = some (.bool G) ∧ Below V.heap.size V W)
                have b0 : Below V.heap.size V V.drew := (Below.refl _ _).drew
                have bA : Below V.heap.size V (V.alloc (.cells #[] 26)).drew := ((Below.refl _ _).alloc (Nat.le_refl _) _).drew
                have bC : Below V.heap.size V (V.alloc (.cells #[.slice ko jl kc, .slice vo VL vc, .bool G] 26)).drew := ((Below.refl _ _).alloc (Nat.le_refl _) _).drew
                have bAC : Below V.heap.size V ((V.alloc (.cells #[] 26)).alloc (.cells #[.slice ko jl kc, .slice vo VL vc, .bool G] 26)).drew := (((Below.refl _ _).alloc (Nat.le_refl _) _).alloc (by simp) _).drew
                have bCA : Below V.heap.size V ((V.alloc (.cells #[.slice ko jl kc, .slice vo VL vc, .bool G] 26)).alloc (.cells #[] 26)).drew := (((Below.refl _ _).alloc (Nat.le_refl _) _).alloc (by simp) _).drew
                have lsA := ls_empty_atX X V (V.alloc (.cells #[] 26)).drew V.heap.size V.heap.size (heap_alloc_new V _) (Nat.le_refl _)
                have lsAC := ls_empty_atX X V ((V.alloc (.cells #[] 26)).alloc (.cells #[.slice ko jl kc, .slice vo VL vc, .bool G] 26)).drew V.heap.size V.heap.size (by show (World.alloc _ _).heap[_]? = _; rw [Below.heap_alloc _ _ _ (by simp)]; exact heap_alloc_new V _) (Nat.le_refl _)
                have lsCA := ls_empty_atX X V ((V.alloc (.cells #[.slice ko jl kc, .slice vo VL vc, .bool G] 26)).alloc (.cells #[] 26)).drew (V.heap.size + 1) V.heap.size (by show (World.alloc _ _).heap[_]? = _; have := heap_alloc_new (V.alloc (.cells #[.slice ko jl kc, .slice vo VL vc, .bool G] 26)) (.cells #[] 26); rwa [show (V.alloc (.cells #[.slice ko jl kc, .slice vo VL vc, .bool G] 26)).heap.size = V.heap.size + 1 by simp] at this) (by omega)
                have cAC : ∀ j x, [.slice ko jl kc, .slice vo VL vc, .bool G][j]? = some x → ((V.alloc (.cells #[] 26)).alloc (.cells #[.slice ko jl kc, .slice vo VL vc, .bool G] 26)).drew.cell? ((⟨V.heap.size + 1, 0, none⟩ : Addr).add j) = some x := cells3_at (V.alloc (.cells #[] 26)) (V.heap.size + 1) (by simp) _ _ _
                have cCA : ∀ j x, [.slice ko jl kc, .slice vo VL vc, .bool G][j]? = some x → ((V.alloc (.cells #[.slice ko jl kc, .slice vo VL vc, .bool G] 26)).alloc (.cells #[] 26)).drew.cell? ((⟨V.heap.size, 0, none⟩ : Addr).add j) = some x := fun j x hx => cell_later (((Below.refl _ _).alloc (Nat.le_refl _) _).drew) (cells3_new V _ _ _ j x hx)
                have hVz : V.heap.size + 1 ∉ own (.slice (some ⟨V.heap.size, 0, none⟩) 0 0) := by simp [own, Value.ownBlock]
                have hVz2 : V.heap.size ∉ own (.slice (some ⟨V.heap.size + 1, 0, none⟩) 0 0) := by simp [own, Value.ownBlock]
                have ho1 : ∀ q ∈ own (.slice (some ⟨V.heap.size, 0, none⟩) 0 0), V.heap.size ≤ q := by simp [own, Value.ownBlock]
                have ho2 : ∀ q ∈ own (.slice (some ⟨V.heap.size + 1, 0, none⟩) 0 0), V.heap.size ≤ q := by simp [own, Value.ownBlock]
                have hcadd : ∀ (W : World) (g j : Nat), ((⟨g, 0, none⟩ : Addr).add j).block = g := fun W g j => add_block _ j
                go_wp2_with fail
                go_region_held_law (fun w' => w'.cell? ⟨p, 0, none⟩ = some (.slice ko jl kc) ∧ w'.cell? ⟨p, 1, none⟩ = some (.slice vo VL vc) ∧ w'.cell? ⟨p, 2, none⟩ = some (.bool G) ∧ Below V.heap.size V w') (first | assumption | exact hS _ b0 | exact hS _ bA | exact hS _ bC | exact hS _ bAC | exact hS _ bCA | exact hS _ b6 | exact hS _ b6C | exact hS _ b7 | exact hS _ b8) (first
                  | (refine step_allEX rfl (.tmp 80) (.tmp 83) rfl X V V.heap.size (.slice (some ⟨V.heap.size, 0, none⟩) 0 0) [] (by simp [Act.eval]) lsA (some ⟨g, 0, none⟩) k cc (es.take k) (by simp [Act.eval]) (lxK.later (RWX.st X V) bA) (by simp; omega) bA.size ?_; intro a6 n6 c6 w6 hn6 ls6 of6 sub6; have b6 : Below V.heap.size V w6 := bA.trans (of6.below ho1 bA.size); have b6C : Below V.heap.size V (w6.alloc (.cells #[.slice ko jl kc, .slice vo VL vc, .bool G] 26)) := b6.alloc b6.size _; have e6 := ls6.later (RWX.st X V) ((Below.refl w6.heap.size w6).alloc (Nat.le_refl _) (.cells #[.slice ko jl kc, .slice vo VL vc, .bool G] 26)); have f6 := cells3_new w6 (.slice ko jl kc) (.slice vo VL vc) (.bool G))
                  | (refine step_allEX rfl (.tmp 80) (.tmp 83) rfl X V V.heap.size (.slice (some ⟨V.heap.size, 0, none⟩) 0 0) [] (by simp [Act.eval]) lsAC (some ⟨g, 0, none⟩) k cc (es.take k) (by simp [Act.eval]) (lxK.later (RWX.st X V) bAC) (by simp; omega) bAC.size ?_; intro a6 n6 c6 w6 hn6 ls6 of6 sub6; have b6 : Below V.heap.size V w6 := bAC.trans (of6.below ho1 bAC.size); have b6C := b6; have e6 := ls6; have f6 := fun (j : Nat) (x : Value) (hx : [.slice ko jl kc, .slice vo VL vc, .bool G][j]? = some x) => of6.cell (cAC j x hx) (by rw [hcadd w6]; exact hVz))
                  | (refine step_allEX rfl (.tmp 80) (.tmp 83) rfl X V V.heap.size (.slice (some ⟨V.heap.size + 1, 0, none⟩) 0 0) [] (by simp [Act.eval]) lsCA (some ⟨g, 0, none⟩) k cc (es.take k) (by simp [Act.eval]) (lxK.later (RWX.st X V) bCA) (by simp; omega) bCA.size ?_; intro a6 n6 c6 w6 hn6 ls6 of6 sub6; have b6 : Below V.heap.size V w6 := bCA.trans (of6.below ho2 bCA.size); have b6C := b6; have e6 := ls6; have f6 := fun (j : Nat) (x : Value) (hx : [.slice ko jl kc, .slice vo VL vc, .bool G][j]? = some x) => of6.cell (cCA j x hx) (by rw [hcadd w6]; exact hVz2))
                  | (refine step_one (RWX.st X V) (RWX.pl X V) Try.underlying23 Try.info26 rfl (by omega) (by omega) rfl (.tmp 84) (.tmp 86) rfl V.heap.size (.slice a6 n6 c6) ([] ++ es.take k) (by simp [Act.eval]) e6 ⟨w6.heap.size, 0, none⟩ 1 [.slice ko jl kc, .slice vo VL vc, .bool G] (norm e) (by simp [Act.eval]) f6 (hREw _ _) (by simp; omega) b6C.size ?_; intro a7 n7 c7 w7 hn7 ls7 of7 sub7; have b7 : Below V.heap.size V w7 := b6C.trans (of7.below (fun q hq => (ls6.lt q hq).2) b6C.size); clear hn7)
                  | (refine step_one (RWX.st X V) (RWX.pl X V) Try.underlying23 Try.info26 rfl (by omega) (by omega) rfl (.tmp 84) (.tmp 86) rfl V.heap.size (.slice a6 n6 c6) ([] ++ es.take k) (by simp [Act.eval, Act.put]) e6 ⟨V.heap.size + 1, 0, none⟩ 1 [.slice ko jl kc, .slice vo VL vc, .bool G] (norm e) (by simp [Act.eval, Act.put]) f6 (hREw _ _) (by simp; omega) b6C.size ?_; intro a7 n7 c7 w7 hn7 ls7 of7 sub7; have b7 : Below V.heap.size V w7 := b6C.trans (of7.below (fun q hq => (ls6.lt q hq).2) b6C.size); clear hn7)
                  | (refine step_one (RWX.st X V) (RWX.pl X V) Try.underlying23 Try.info26 rfl (by omega) (by omega) rfl (.tmp 84) (.tmp 86) rfl V.heap.size (.slice a6 n6 c6) ([] ++ es.take k) (by simp [Act.eval, Act.put]) e6 ⟨V.heap.size, 0, none⟩ 1 [.slice ko jl kc, .slice vo VL vc, .bool G] (norm e) (by simp [Act.eval, Act.put]) f6 (hREw _ _) (by simp; omega) b6C.size ?_; intro a7 n7 c7 w7 hn7 ls7 of7 sub7; have b7 : Below V.heap.size V w7 := b6C.trans (of7.below (fun q hq => (ls6.lt q hq).2) b6C.size); clear hn7)
                  | (refine step_allEX rfl (.tmp 87) (.tmp 90) rfl X V V.heap.size (.slice a7 n7 c7) ([] ++ es.take k ++ [norm e]) (by simp [Act.eval, Act.put]) ls7 (some ⟨g, k * 3, none⟩) 0 (cc - k) (es.drop k) (by simp [Act.eval, Act.put] <;> omega) (lxD.later (RWX.st X V) b7) (by simp; omega) b7.size ?_; intro a8 n8 c8 w8 hn8 ls8 of8 sub8; have b8 : Below V.heap.size V w8 := b7.trans (of8.below (fun q hq => (ls7.lt q hq).2) b7.size)))
                all_goals
                  try simp only [List.getElem_toArray, List.getElem_cons_succ, List.getElem_cons_zero, List.setIfInBounds_toArray, List.set_cons_zero, List.set_cons_succ]
                  have hq8 := RQ.of (ls8.back b8 hwV)
                  have hn8' : Hid (0 < n8) := by show _ < _; have := hn8.out; simp at this; omega
                  clear hn8
                  have hB8 : Below w.heap.size w w8 := hBV.trans (b8.mono hBV.size)
                  obtain ⟨g8, hg8, _, _⟩ := hq8.th hn8'.out
                  subst hg8
                  go_wp2
                  go_roundw
                  case rel =>
                    refine ⟨i + 1, g8, n8, c8, by omega, by go_num, rfl, ?_, hB8⟩
                    rw [hst.out, hins.out]; simpa using hq8
                  case measure => simp [intOf]; omega
    · have hil : i = lb := by omega
      have hiI : ¬ (i : Int) < lb := by omega
      rw [List.take_of_length_le (by omega)] at hq
      go_wp2
      go_ret
      exact ⟨_, m, cc, rfl, hq, hb⟩
end Go.Proofs.Ytjbppedphadenaa
