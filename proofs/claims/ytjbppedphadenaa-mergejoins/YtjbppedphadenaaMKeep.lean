/- The walk of marigraphkeep.Entries: what it keeps lies in none of the blocks X. -/
import Derived.Test.YtjbppedphadenaaFWalksH
namespace Go.Proofs.Ytjbppedphadenaa
set_option maxRecDepth 100000
open Go.RowKit Go.Sort

theorem Lx.headX {X : List Nat} {w : World} {ao : Option Addr} {len cap : Nat} {l : List Ent} (h : Lx 3 (Rx X RE) w ao len cap l) (h0 : 0 < len) :
    ∃ b off, ao = some ⟨b, off, none⟩ ∧ ∀ (j : Nat) (e : Ent), l[j]? = some e → ∃ ko kl kc vo vl vc, w.cell? ⟨b, off + j * 3, none⟩ = some (.slice ko kl kc) ∧ w.cell? ⟨b, off + j * 3 + 1, none⟩ = some (.slice vo vl vc) ∧ w.cell? ⟨b, off + j * 3 + 2, none⟩ = some (.bool e.g) ∧ Tx w ko kl kc e.k ∧ Tx w vo vl vc e.v ∧ (∀ ad, ko = some ad → 0 < kl → ad.block ∉ X) ∧ (∀ ad, vo = some ad → 0 < vl → ad.block ∉ X) := by
  obtain ⟨b, off, rfl, hc⟩ := h.head (Rx.pl X RE.plain) (by omega) h0
  refine ⟨b, off, rfl, fun j e he => ?_⟩
  obtain ⟨u, h1, k, v, rfl, ⟨ko, kl, kc, rfl, tk, nk⟩, ⟨vo, vl, vc, rfl, tv, nv⟩⟩ := hc j e he
  exact ⟨ko, kl, kc, vo, vl, vc, by simpa using h1 0 _ rfl, by simpa [Nat.add_assoc] using h1 1 _ rfl, by simpa [Nat.add_assoc] using h1 2 _ rfl, tk, tv, nk, nv⟩
theorem ls_kfar {Xs : List Nat} {X wr : World} {v : Value} {B : Nat} {es : List Ent} (hls : Ls 26 3 (Rx Xs RE) wr B v es) (hb : Below wr.heap.size wr X) (o : Obj) : Ls 26 3 (Rx Xs RE) (X.alloc o) B v es := hls.later (Rx.st _ RE.stable) (hb.alloc hb.size o)
theorem re_far {Xs : List Nat} {X wr : World} {B0 : Nat} (hX : ∀ k ∈ Xs, k < B0) (hB : B0 ≤ wr.heap.size) {v : Value} {B : Nat} {es : List Ent} (hls : Ls 26 3 (Rx Xs RE) wr B v es) {ao bo : Option Addr} {la ca lb cb : Nat} {e : Ent} {G : Bool} (hG : G = e.g) (ta : Tx X ao la ca e.k) (tb : Tx X bo lb cb e.v)
    (fa : ∀ ad, ao = some ad → 0 < la → (ad.block < B ∧ ad.block ∉ Xs) ∨ wr.heap.size ≤ ad.block) (fb : ∀ ad, bo = some ad → 0 < lb → (ad.block < B ∧ ad.block ∉ Xs) ∨ wr.heap.size ≤ ad.block) (o : Obj) : Rx Xs RE (X.alloc o) (own v) [.slice ao la ca, .slice bo lb cb, .bool G] e := by
  have hn : ∀ b, (b < B ∧ b ∉ Xs) ∨ wr.heap.size ≤ b → b ∉ own v ++ Xs := fun b hb hk => by
    rcases List.mem_append.1 hk with hk | hk
    · have := hls.lt _ hk; omega
    · rcases hb with hb | hb
      · exact hb.2 hk
      · have := hX _ hk; omega
  exact ⟨_, _, by rw [hG], (ta.alloc o).at _ (fun ad ha h0 => hn _ (fa ad ha h0)), (tb.alloc o).at _ (fun ad ha h0 => hn _ (fb ad ha h0))⟩
theorem below_kfar {Xs : List Nat} {w wr X w5 : World} {v : Value} {es : List Ent} {o : Obj} (hls : Ls 26 3 (Rx Xs RE) wr w.heap.size v es) (hb : Below w.heap.size w wr) (hX : Below wr.heap.size wr X) (ho : Off (own v) (X.alloc o) w5) : Below w.heap.size w w5 :=
  (hb.trans ((hX.alloc hX.size o).mono hb.size)).trans (ho.below (fun k hk => (hls.lt k hk).2) (by have := hb.size; have := hX.size; simp; omega))
set_option maxHeartbeats 4000000 in
theorem keep_far (Xs : List Nat) (ao : Option Addr) (len cap : Nat) (l : List Ent) (N K V : Int) (n k v : Nat) (hN : N = (n : Int)) (hK : K = (k : Int)) (hV : V = (v : Int)) (hn : n ≤ 1000) (hk : k ≤ 1000) (hv : v ≤ 1000) (w : World) (h : Lx 3 RE w ao len cap l) (hv0 : Lx 3 (Rx Xs RE) w ao len cap l) (hXs : ∀ k ∈ Xs, k < w.heap.size) :
    Calls Try.prog 15 #[.slice ao len cap, .int .i64 N, .int .i64 K, .int .i64 V] w fun e w' => ∃ bo lb cb, e = .returned (.slice bo lb cb) ∧ Lv 3 RE Xs w' bo lb cb (keepL n k v l) ∧ Below w.heap.size w w' := by
  subst hN hK hV
  have hl := h.len_eq
  have hle := h.le
  have htop := h.top
  unfold maxLen at htop
  go_enter Try.func15, Try.ntmps15
  go_wp2
  go_loopw [9, 10] (fun o i wr => ∃ (j m : Nat) (bo : Option Addr) (cb : Nat), j ≤ len ∧ j ≤ n ∧ i = .int .i64 j ∧ o = .slice bo m cb ∧ Hid (m = j) ∧ Ls 26 3 (Rx Xs RE) wr w.heap.size (.slice bo m cb) (keepL j k v l) ∧ Below w.heap.size w wr) (fun _ i _ => len - (intOf i).toNat)
  case atStart => exact ⟨0, 0, none, 0, by omega, by omega, rfl, rfl, rfl, Ls.nil _ _ _ _ _, Below.refl _ _⟩
  case round =>
    obtain ⟨j, m, bo, cb, hjl, hjn, rfl, rfl, hm, hls, hb⟩ := hrel
    by_cases hj : j < len ∧ j < n
    · obtain ⟨b, off, rfl, hc⟩ := hv0.headX (by omega)
      obtain ⟨ko, kl, kc, vo, vl, vc, c0, c1, c2, tk, tv, nk, nv⟩ := hc j (l[j]'(by omega)) (by simp)
      have c0 := cell_later hb c0
      have c1 := cell_later hb c1
      have c2 := cell_later hb c2
      have lowk := tk.low.low
      have lowv := tv.low.low
      have tk := tk.later hb
      have tv := tv.later hb
      have j1 : (j : Int) < len := by omega
      have j2 : (j : Int) < n := by omega
      have hsuc : Hid (keepL (j + 1) k v l = keepL j k v l ++ [cutE k v (l[j]'(by omega))]) := keepL_succ l j k v _ (by simp)
      have hlen1 : Hid ((keepL j k v l).length + 1 = m + 1) := by show _ = _; rw [keepL_len l j k v (by omega), hm.out]
      have hkl9 : Hid ((keepL j k v l).length ≤ 1000000000) := by show _ ≤ _; rw [keepL_len l j k v (by omega)]; omega
      generalize l[j]'(by omega) = e at c2 tk tv hsuc
      have hbz := hb.size
      have hcut := fun (V : World) (hV : Below wr.heap.size wr V) => cut_at ko kl kc k k e.k V rfl (tk.later hV) hk
      obtain ⟨G, hGe⟩ : ∃ G, Hid (e.g = G) := ⟨_, rfl⟩
      rw [hGe.out] at c2
      have cutw := fun (l2 : Nat) (h : l2 = (e.v.take v).length) => cut_w tv v l2 h
      have lowv2 : ∀ (l2 : Nat), Tx wr vo l2 vc (e.v.take v) → ∀ ad, vo = some ad → 0 < l2 → (ad.block < w.heap.size ∧ ad.block ∉ Xs) ∨ wr.heap.size ≤ ad.block := fun l2 t ad ha h0 => .inl (have hp : 0 < vl := (by have h1 := t.len_eq; have h2 := tv.len_eq; rw [List.length_take] at h1; omega); ⟨lowv ad ha hp, nv ad ha hp⟩)
      go_wp2_with fail
      go_region_held (fun w' => w'.cell? ⟨b, off + j * 3, none⟩ = some (.slice ko kl kc) ∧ w'.cell? ⟨b, off + j * 3 + 2, none⟩ = some (.bool G) ∧ Below wr.heap.size wr w') (first | assumption | exact held2 c0 c2 (by repeat (first | exact Below.refl _ _ | assumption | exact And.right (And.right (by assumption)) | refine Below.drew ?_ | refine below_drewN ?_ _ | refine Below.alloc ?_ (by simp) _ | refine Below.setCell ?_ (by simp) _))) (first | (go_at_call 26; with_reducible refine (hcut _ ?_).mono ?_; (exact (And.right (And.right (by assumption)))); rintro r w1 ⟨l1, rfl, hl1, t1, rfl⟩))
      all_goals
        have hB0 : Below wr.heap.size wr (wr.alloc (.cells #[.slice ko l1 kc, .slice none 0 0, .bool G] 26)).drew := ((Below.refl _ _).alloc (Nat.le_refl _) _).drew
        have bx := Boxf.new wr (.slice ko l1 kc) (.slice none 0 0) G
        have hsz : wr.heap.size < (wr.alloc (.cells #[.slice ko l1 kc, .slice none 0 0, .bool G] 26)).drew.heap.size := bx.lt
        have tkw : Tx wr ko l1 kc (e.k.take k) := cut_w tk k l1 t1.len_eq.symm
        have c10 : (wr.alloc (.cells #[.slice ko l1 kc, .slice none 0 0, .bool G] 26)).drew.cell? ⟨b, off + j * 3 + 1, none⟩ = some (.slice vo vl vc) := cell_later hB0 c1
        clear t1
        generalize (wr.alloc (.cells #[.slice ko l1 kc, .slice none 0 0, .bool G] 26)).drew = V at hB0 bx c10 hsz ⊢
        obtain ⟨x0, x1, x2, z⟩ := bx
        have z0 := z 0
        have z1 := z 1
        have hl1e := tkw.len_eq
        have hkle := tk.len_eq
        have lowk1 : ∀ ad, ko = some ad → 0 < l1 → (ad.block < w.heap.size ∧ ad.block ∉ Xs) ∨ wr.heap.size ≤ ad.block := fun ad ha h0 => .inl (have hp : 0 < kl := (by rw [List.length_take] at hl1e; omega); ⟨lowk ad ha hp, nk ad ha hp⟩)
        have tkV := tkw.later hB0
        have tvV := tv.later hB0
        by_cases hl0 : l1 = 0
        · have hX4 : Below wr.heap.size wr ((V.setCell ⟨wr.heap.size, 0, none⟩ (.slice (some ⟨V.heap.size, 0, none⟩) 1 1)).alloc (.cells #[.int .u8 107] 5)) := (hB0.setCell (p := ⟨wr.heap.size, 0, none⟩) (Nat.le_refl _) _).alloc (by simp [World.setCell]; omega) _
          have hkey : (cutE k v e).k = [107] := by simp only [cutE]; rw [if_pos (by omega)]
          have tnew : Tx ((V.setCell ⟨wr.heap.size, 0, none⟩ (.slice (some ⟨V.heap.size, 0, none⟩) 1 1)).alloc (.cells #[.int .u8 107] 5)) (some ⟨V.heap.size, 0, none⟩) 1 1 [107] := tx_one_at _ _ (by simp [World.setCell]) 107 (by omega)
          have fnew : ∀ ad, (some (⟨V.heap.size, 0, none⟩ : Addr)) = some ad → 0 < 1 → (ad.block < w.heap.size ∧ ad.block ∉ Xs) ∨ wr.heap.size ≤ ad.block := fun ad ha _ => .inr (by cases ha; simp; omega)
          have tv4 := tv.later hX4
          have hX3 : ∀ l2, Below wr.heap.size wr (((V.setCell ⟨wr.heap.size, 0, none⟩ (.slice (some ⟨V.heap.size, 0, none⟩) 1 1)).setCell ⟨wr.heap.size, 1, none⟩ (.slice vo l2 vc)).alloc (.cells #[.int .u8 107] 5)) := fun l2 => ((hB0.setCell (p := ⟨wr.heap.size, 0, none⟩) (Nat.le_refl _) _).setCell (p := ⟨wr.heap.size, 1, none⟩) (Nat.le_refl _) _).alloc (by simp [World.setCell]; omega) _
          have hbne : ¬ b = wr.heap.size := by have := World.block_lt_of_cell? _ _ c1; simp at this; omega
          have hbne2 : ¬ b = V.heap.size := by have := World.block_lt_of_cell? _ _ c1; simp at this; omega
          have c14 := cell_later hX4 c1
          cases G with
          | false =>
            have hval : (cutE k v e).v = e.v.take v := by simp [cutE, hGe.out]
            have hHR := fun (l2 : Nat) (t2 : Tx wr vo l2 vc (e.v.take v)) (HX : Below wr.heap.size wr (((V.setCell ⟨wr.heap.size, 0, none⟩ (.slice (some ⟨V.heap.size, 0, none⟩) 1 1)).setCell ⟨wr.heap.size, 1, none⟩ (.slice vo l2 vc)).alloc (.cells #[.int .u8 107] 5))) => re_far hXs hb.size (e := cutE k v e) (G := false) (X := (((V.setCell ⟨wr.heap.size, 0, none⟩ (.slice (some ⟨V.heap.size, 0, none⟩) 1 1)).setCell ⟨wr.heap.size, 1, none⟩ (.slice vo l2 vc)).alloc (.cells #[.int .u8 107] 5))) hls hGe.out.symm (by rw [hkey]; exact tx_one_at _ _ (by simp [World.setCell]) 107 (by omega)) (by rw [hval]; exact t2.later HX) fnew (lowv2 l2 t2) (.cells #[.slice (some ⟨V.heap.size, 0, none⟩) 1 1, .slice vo l2 vc, .bool false] 26)
            go_wp2_with (first | (go_at_call 26; with_reducible refine (cut_at vo vl vc v v e.v _ rfl tv4 hv).mono ?_; rintro r w1 ⟨l2, rfl, hl2, t2, rfl⟩; have t2w := cutw l2 t2.len_eq.symm; have HX := hX3 l2; have HL := ls_kfar hls HX (.cells #[.slice (some ⟨V.heap.size, 0, none⟩) 1 1, .slice vo l2 vc, .bool false] 26); have HB := size_ent (.cells #[.slice (some ⟨V.heap.size, 0, none⟩) 1 1, .slice vo l2 vc, .bool false] 26) hb HX; have HR := hHR l2 t2w HX) | (with_reducible show wpList _ _ _ (⟨some 56, _, _, _, _, _⟩ :: _) _ _; refine wpList_one (Rx.st Xs RE.stable) (Rx.pl Xs RE.plain) Try.underlying23 Try.info26 rfl (by omega) (by omega) rfl _ _ rfl w.heap.size (.slice bo m cb) (keepL j k v l) rfl HL ⟨V.heap.size + 1, 0, none⟩ 1 [.slice (some ⟨V.heap.size, 0, none⟩) 1 1, .slice vo l2 vc, .bool false] (cutE k v e) rfl (cells3_at (((V.setCell ⟨wr.heap.size, 0, none⟩ (.slice (some ⟨V.heap.size, 0, none⟩) 1 1)).setCell ⟨wr.heap.size, 1, none⟩ (.slice vo l2 vc)).alloc (.cells #[.int .u8 107] 5)) (V.heap.size + 1) (by simp [World.setCell]) _ _ _) HR hkl9.out HB ?_; intro ao5 n5 c5 w5 hn5 hls5 hof5 hsub5; have hn6 := hn5.trans hlen1.out; clear hn5; subst hn6))
            go_roundw
            case rel => exact ⟨j + 1, m + 1, ao5, c5, by omega, by omega, by go_num, rfl, by show _ = _; rw [hm.out], by rw [hsuc.out]; exact hls5, below_kfar hls hb HX hof5⟩
            case measure => simp [intOf]; omega
          | true =>
            have hval : (cutE k v e).v = [] := by simp [cutE, hGe.out]
            have HX := hX4
            have HL := ls_kfar hls HX (.cells #[.slice (some ⟨V.heap.size, 0, none⟩) 1 1, .slice none 0 0, .bool true] 26)
            have HB := size_ent (.cells #[.slice (some ⟨V.heap.size, 0, none⟩) 1 1, .slice none 0 0, .bool true] 26) hb HX
            have HR := re_far hXs hb.size (e := cutE k v e) (G := true) (X := ((V.setCell ⟨wr.heap.size, 0, none⟩ (.slice (some ⟨V.heap.size, 0, none⟩) 1 1)).alloc (.cells #[.int .u8 107] 5))) hls hGe.out.symm (by rw [hkey]; exact tnew) (by rw [hval]; exact Tx.nil _) fnew (fun _ h => by cases h) (.cells #[.slice (some ⟨V.heap.size, 0, none⟩) 1 1, .slice none 0 0, .bool true] 26)
            go_wp2_with (with_reducible show wpList _ _ _ (⟨some 56, _, _, _, _, _⟩ :: _) _ _; refine wpList_one (Rx.st Xs RE.stable) (Rx.pl Xs RE.plain) Try.underlying23 Try.info26 rfl (by omega) (by omega) rfl _ _ rfl w.heap.size (.slice bo m cb) (keepL j k v l) rfl HL ⟨V.heap.size + 1, 0, none⟩ 1 [.slice (some ⟨V.heap.size, 0, none⟩) 1 1, .slice none 0 0, .bool true] (cutE k v e) rfl (cells3_at ((V.setCell ⟨wr.heap.size, 0, none⟩ (.slice (some ⟨V.heap.size, 0, none⟩) 1 1)).alloc (.cells #[.int .u8 107] 5)) (V.heap.size + 1) (by simp [World.setCell]) _ _ _) HR hkl9.out HB ?_; intro ao5 n5 c5 w5 hn5 hls5 hof5 hsub5; have hn6 := hn5.trans hlen1.out; clear hn5; subst hn6)
            go_roundw
            case rel => exact ⟨j + 1, m + 1, ao5, c5, by omega, by omega, by go_num, rfl, by show _ = _; rw [hm.out], by rw [hsuc.out]; exact hls5, below_kfar hls hb HX hof5⟩
            case measure => simp [intOf]; omega
        · have hl0' : ((l1 : Int) == 0) = false := by simp [hl0]
          have hkey : (cutE k v e).k = e.k.take k := by simp only [cutE]; rw [if_neg (by omega)]
          cases G with
          | false =>
            have hval : (cutE k v e).v = e.v.take v := by simp [cutE, hGe.out]
            have hHR := fun (l2 : Nat) (t2 : Tx wr vo l2 vc (e.v.take v)) (HX : Below wr.heap.size wr (V.setCell ⟨wr.heap.size, 1, none⟩ (.slice vo l2 vc))) => re_far hXs hb.size (e := cutE k v e) (G := false) (X := (V.setCell ⟨wr.heap.size, 1, none⟩ (.slice vo l2 vc))) hls hGe.out.symm (by rw [hkey]; exact tkw.later HX) (by rw [hval]; exact t2.later HX) lowk1 (lowv2 l2 t2) (.cells #[.slice ko l1 kc, .slice vo l2 vc, .bool false] 26)
            go_wp2_with (first | (go_at_call 26; with_reducible refine (cut_at vo vl vc v v e.v _ rfl tvV hv).mono ?_; rintro r w1 ⟨l2, rfl, hl2, t2, rfl⟩; have t2w := cutw l2 t2.len_eq.symm; have HX : Below wr.heap.size wr (V.setCell ⟨wr.heap.size, 1, none⟩ (.slice vo l2 vc)) := hB0.setCell (p := ⟨wr.heap.size, 1, none⟩) (Nat.le_refl _) _; have HL := ls_kfar hls HX (.cells #[.slice ko l1 kc, .slice vo l2 vc, .bool false] 26); have HB := size_ent (.cells #[.slice ko l1 kc, .slice vo l2 vc, .bool false] 26) hb HX; have HR := hHR l2 t2w HX) | (with_reducible show wpList _ _ _ (⟨some 56, _, _, _, _, _⟩ :: _) _ _; refine wpList_one (Rx.st Xs RE.stable) (Rx.pl Xs RE.plain) Try.underlying23 Try.info26 rfl (by omega) (by omega) rfl _ _ rfl w.heap.size (.slice bo m cb) (keepL j k v l) rfl HL ⟨V.heap.size, 0, none⟩ 1 [.slice ko l1 kc, .slice vo l2 vc, .bool false] (cutE k v e) rfl (cells3_at (V.setCell ⟨wr.heap.size, 1, none⟩ (.slice vo l2 vc)) (V.heap.size) (by simp [World.setCell]) _ _ _) HR hkl9.out HB ?_; intro ao5 n5 c5 w5 hn5 hls5 hof5 hsub5; have hn6 := hn5.trans hlen1.out; clear hn5; subst hn6))
            go_roundw
            case rel => exact ⟨j + 1, m + 1, ao5, c5, by omega, by omega, by go_num, rfl, by show _ = _; rw [hm.out], by rw [hsuc.out]; exact hls5, below_kfar hls hb HX hof5⟩
            case measure => simp [intOf]; omega
          | true =>
            have hval : (cutE k v e).v = [] := by simp [cutE, hGe.out]
            have HX := hB0
            have HL := ls_kfar hls HX (.cells #[.slice ko l1 kc, .slice none 0 0, .bool true] 26)
            have HB := size_ent (.cells #[.slice ko l1 kc, .slice none 0 0, .bool true] 26) hb HX
            have HR := re_far hXs hb.size (e := cutE k v e) (G := true) (X := V) hls hGe.out.symm (by rw [hkey]; exact tkw.later HX) (by rw [hval]; exact Tx.nil _) lowk1 (fun _ h => by cases h) (.cells #[.slice ko l1 kc, .slice none 0 0, .bool true] 26)
            go_wp2_with (with_reducible show wpList _ _ _ (⟨some 56, _, _, _, _, _⟩ :: _) _ _; refine wpList_one (Rx.st Xs RE.stable) (Rx.pl Xs RE.plain) Try.underlying23 Try.info26 rfl (by omega) (by omega) rfl _ _ rfl w.heap.size (.slice bo m cb) (keepL j k v l) rfl HL ⟨V.heap.size, 0, none⟩ 1 [.slice ko l1 kc, .slice none 0 0, .bool true] (cutE k v e) rfl (cells3_new V _ _ _) HR hkl9.out HB ?_; intro ao5 n5 c5 w5 hn5 hls5 hof5 hsub5; have hn6 := hn5.trans hlen1.out; clear hn5; subst hn6)
            go_roundw
            case rel => exact ⟨j + 1, m + 1, ao5, c5, by omega, by omega, by go_num, rfl, by show _ = _; rw [hm.out], by rw [hsuc.out]; exact hls5, below_kfar hls hb HX hof5⟩
            case measure => simp [intOf]; omega
    · have hq : (j : Int) < (len : Int) → ¬ (j : Int) < (n : Int) := by omega
      have hend : keepL j k v l = keepL n k v l := by
        rw [keepL, keepL]
        congr 1
        by_cases hjn2 : j = n
        · rw [hjn2]
        · rw [List.take_of_length_le (by omega), List.take_of_length_le (by omega)]
      have hx9 := hls.lv RE.stable RE.plain hXs
      rw [hend] at hx9
      clear hls hend
      go_wp2
      all_goals go_ret
      all_goals exact ⟨bo, m, cb, rfl, hx9, hb⟩

end Go.Proofs.Ytjbppedphadenaa
