/- The walks of mem's Get, Range, Bytes. -/
import Derived.Test.YtjajpnlhdbcnkaaMGat
namespace Go.Proofs.Ytjajpnlhdbcnkaa
set_option maxRecDepth 100000
open Go.RowKit Go.Sort

theorem keys_of {n : Nat} {es : List Ent} (h : Held n es) : ∀ e ∈ es, e.k.length ≤ 900000000 := fun e he => by
  have h1 := (fitsE_iff e).1 (h.fits e he)
  omega

set_option maxHeartbeats 4000000 in
theorem mget_any (mb : Nat) (S : List Nat) (es : List Ent) (n : Nat) (ko : Option Addr) (kl kc : Nat) (ks : List Int) (w : World) (h : Mm w mb S es) (hh : Held n es) (sm : n ≤ 1000000) (tk : Tx w ko kl kc ks) (sk : kl ≤ 900000000) :
    Calls Try.prog 20 #[.pointer (some ⟨mb, 0, none⟩), .slice ko kl kc] w fun e w' => GetPost w es ks e w' := by
  have b0 : Below w.heap.size w (w.alloc (.cells #[.slice none 0 0, .slice none 0 0, .bool false] 27)) := (Below.refl _ _).alloc (Nat.le_refl _) _
  have bx0 := Boxf.new' w (.slice none 0 0) (.slice none 0 0) false
  go_enter Try.func20, Try.ntmps20
  go_wp2_with fail
  generalize w.alloc (.cells #[.slice none 0 0, .slice none 0 0, .bool false] 27) = V0 at b0 bx0 ⊢
  have hf := find_any mb S es ko kl kc ks V0 (h.later b0) hh.rises (tk.later b0) (by have := hh.len; omega) sk (keys_of hh)
  with_reducible refine hf.mono ?_
  clear hf
  rintro e V1 ⟨rfl, b1⟩
  have bw1 := b0.trans (b1.mono b0.size)
  have bx1 := bx0.off (S := []) (.of_below b1) (by simp)
  clear b0 bx0
  cases hF : isAt es ks with
  | false =>
    have hno := getL_not hh.rises hF
    have q := box_set V1 w.heap.size (.slice none 0 0) (.slice none 0 0) _ _ bx1 (.bool false)
    have hend := get_miss (w := w) (V := V1) hno bw1
    have z0 := bx1.z 0
    have z1 := bx1.z 1
    have z2 := bx1.z 2
    obtain ⟨x0, x1, x2, _⟩ := bx1
    clear hno hF
    generalize plN es ks = p
    go_wp2
    generalize ((V1.setCell ⟨w.heap.size, 0, none⟩ (.slice none 0 0)).setCell ⟨w.heap.size, 1, none⟩ (.slice none 0 0)).setCell ⟨w.heap.size, 2, none⟩ (.bool false) = F at q hend ⊢
    obtain ⟨q0, q1, q2⟩ := q
    exact bodyPost_ret (v := .tuple #[.agg #[.slice none 0 0, .slice none 0 0, .bool false], .bool false]) (by simp [results, Try.results20, go_sem, q0, q1, q2]) rfl hend
  | true =>
    obtain ⟨x, hx, hyes⟩ := getL_is hh.rises hF
    obtain ⟨ao, m, cap, hv⟩ := (h.later bw1).view
    have hpl := (List.getElem?_eq_some_iff.1 hx).1
    have hml := hv.len
    have hcm := hv.le
    obtain ⟨g, rfl, hc⟩ := hv.at_ (by omega)
    have c0 := hv.c0
    obtain ⟨pb, jo, jl, jc, uo, ul, uc, p0, ⟨q0, q1, q2⟩, tj, tu⟩ := hc _ _ hx
    have hsz := sizes_of hh x (List.mem_of_getElem? hx)
    have hvn := norm_v (hh.nm x (List.mem_of_getElem? hx))
    obtain ⟨G, hG⟩ : ∃ G, Hid (x.g = G) := ⟨_, rfl⟩
    rw [hG.out] at q2 hvn
    rw [tj.len_eq, tu.len_eq] at hsz
    have ho := own_any jo jl jc uo ul uc G x.k x.v V1 tj tu hsz.1 hsz.2
    rw [hvn] at ho
    have hX : Hid (getL es ks = some x) := hyes
    have hpm : plN es ks < m := by omega
    clear hyes hF hx hc hvn hpl hml
    generalize plN es ks = p at p0 hpm ⊢
    have hpI : (p : Int) < m := by omega
    go_wp2_with fail
    with_reducible refine ho.mono ?_
    clear ho
    rintro r V ⟨ko', kc', vo', vl', vc', rfl, nk, nv, bV⟩
    have bw2 := bw1.trans (bV.mono bw1.size)
    have bx2 := bx1.off (S := []) (.of_below bV) (by simp)
    have hlt : w.heap.size < V1.heap.size := bx1.lt
    have q := box_set V w.heap.size (.slice ko' jl kc') (.slice vo' vl' vc') _ _ bx2 (.bool G)
    have hend := get_hit (w := w) (V := V) hG.out hX.out (fun ad ha _ => by have := nk.far ad ha; omega) (fun ad ha _ => by have := nv.far ad ha; omega) nk.tx nv.tx bw2
    have z0 := bx2.z 0
    have z1 := bx2.z 1
    have z2 := bx2.z 2
    obtain ⟨x0, x1, x2, _⟩ := bx2
    go_wp2
    generalize ((V.setCell ⟨w.heap.size, 0, none⟩ (.slice ko' jl kc')).setCell ⟨w.heap.size, 1, none⟩ (.slice vo' vl' vc')).setCell ⟨w.heap.size, 2, none⟩ (.bool G) = F at q hend ⊢
    obtain ⟨q0, q1, q2⟩ := q
    exact bodyPost_ret (v := .tuple #[.agg #[.slice ko' jl kc', .slice vo' vl' vc', .bool G], .bool true]) (by simp [results, Try.results20, go_sem, q0, q1, q2]) rfl hend

theorem Mv.part {w : World} {mb : Nat} {ao : Option Addr} {n cap : Nat} {es : List Ent} (h : Mv w mb ao n cap es) (b k c : Nat) (hk : b + k ≤ n) (a : Option Addr) (ha : 0 < k → ∀ g, ao = some ⟨g, 0, none⟩ → a = some ⟨g, b, none⟩) : Pv w a k c ((es.drop b).take k) := by
  have hl := h.len
  refine ⟨by simp; omega, fun h0 => ?_⟩
  obtain ⟨g, rfl, hc⟩ := h.at_ (by omega)
  refine ⟨g, b, ha h0 g rfl, fun j e he => ?_⟩
  rw [List.getElem?_take] at he
  split at he
  · rw [List.getElem?_drop] at he
    exact hc _ _ he
  · cases he

theorem Mv.later2 {w w' : World} {mb : Nat} {ao : Option Addr} {n cap : Nat} {es : List Ent} (h : Mv w mb ao n cap es) (hb : Below w.heap.size w w') : Mv w' mb ao n cap es :=
  ⟨cell_later hb h.c0, h.len, h.le, h.top, fun h0 => by
    obtain ⟨g, rfl, hc⟩ := h.at_ h0
    refine ⟨g, rfl, fun j e he => ?_⟩
    obtain ⟨pb, ko, kl, kc, vo, vl, vc, p0, q, tk, tv⟩ := hc j e he
    exact ⟨pb, ko, kl, kc, vo, vl, vc, cell_later hb p0, q.later hb, tk.later hb, tv.later hb⟩⟩
theorem own_mono {B C n : Nat} {w : World} {e : TypeId} {size : Nat} {v : Value} {xs : List Value} (h : w.ownsRow C e size v n xs) (hBC : B ≤ C) : w.ownsRow B e size v n xs :=
  ⟨h.1, h.2.imp id (fun ⟨g, cap, cur, e, hb, r⟩ => ⟨g, cap, cur, e, Nat.le_trans hBC hb, r⟩)⟩
theorem Ls.mono {B C : Nat} {w : World} {v : Value} {es : List Ent} (h : Ls 27 3 (RN C) w C v es) (hBC : B ≤ C) : Ls 27 3 (RN B) w B v es := by
  obtain ⟨us, h1, h2, h3⟩ := h
  refine ⟨us, h1, own_mono h2 hBC, fun i u e a b => ?_⟩
  obtain ⟨h4, h5, h6⟩ := h3 i u e a b
  exact ⟨h4, fun ko kl kc hu ad ha h0 => ⟨Nat.le_trans hBC (h5 ko kl kc hu ad ha h0).1, (h5 ko kl kc hu ad ha h0).2⟩, fun vo vl vc hu ad ha h0 => Nat.le_trans hBC (h6 vo vl vc hu ad ha h0)⟩

set_option maxHeartbeats 4000000 in
theorem mrange_any (mb : Nat) (S : List Nat) (es : List Ent) (n : Nat) (fo : Option Addr) (fl fc : Nat) (fs : List Int) (to : Option Addr) (tl tc : Nat) (ts : List Int) (w : World) (h : Mm w mb S es) (hh : Held n es) (sm : n ≤ 1000000) (tf : Tx w fo fl fc fs) (tt : Tx w to tl tc ts) (sf : fl ≤ 900000000) (st : tl ≤ 900000000) :
    Calls Try.prog 19 #[.pointer (some ⟨mb, 0, none⟩), .slice fo fl fc, .slice to tl tc] w fun e w' => ∃ bo lb cb, e = .returned (.slice bo lb cb) ∧ Ls 27 3 (RN w.heap.size) w' w.heap.size (.slice bo lb cb) (es.filter (fun e => !delK fs ts e.k)) ∧ lb = (es.filter (fun e => !delK fs ts e.k)).length ∧ Below w.heap.size w w' := by
  have hcut := range_cut hh.rises fs ts
  have hf1 := find_any mb S es fo fl fc fs w h hh.rises tf (by have := hh.len; omega) sf (keys_of hh)
  have hp1 := (place_of hh.rises fs).le
  have hp2 := (place_of hh.rises ts).le
  have htl := tt.len_eq
  go_enter Try.func19, Try.ntmps19
  go_wp2_with fail
  with_reducible refine hf1.mono ?_
  clear hf1
  rintro e V ⟨rfl, b1⟩
  obtain ⟨ao, m, cap, hv⟩ := (h.later b1).view
  have c0 := hv.c0
  have hml := hv.len
  have hcm := hv.le
  have htop := hv.top
  unfold maxLen at htop
  have hes := hh.len
  have hf2 := find_any mb S es to tl tc ts V (h.later b1) hh.rises (tt.later b1) (by omega) st (keys_of hh)
  have fin : ∀ (W : World) (bW : Below V.heap.size V W) (b k c : Nat) (a : Option Addr), b + k ≤ m → (0 < k → ∀ g, ao = some ⟨g, 0, none⟩ → a = some ⟨g, b, none⟩) → es.filter (fun e => !delK fs ts e.k) = (es.drop b).take k → Calls Try.prog 27 #[.slice a k c] W fun e w' => ∃ bo lb cb, e = .returned (.slice bo lb cb) ∧ Ls 27 3 (RN w.heap.size) w' w.heap.size (.slice bo lb cb) (es.filter (fun e => !delK fs ts e.k)) ∧ lb = (es.filter (fun e => !delK fs ts e.k)).length ∧ Below w.heap.size w w' := fun W bW b k c a hk ha he => by
    have hpv := (hv.later2 bW).part b k c hk a ha
    have hg := gather_any a k c _ W hpv (by omega) (fun e he => hh.nm e (List.mem_of_mem_drop (List.mem_of_mem_take he))) (fun e he => sizes_of hh e (List.mem_of_mem_drop (List.mem_of_mem_take he)))
    refine hg.mono ?_
    rintro e U ⟨bo, cb, rfl, hls, b3⟩
    have bw := b1.trans (bW.mono b1.size)
    rw [he]
    refine ⟨bo, k, cb, rfl, hls.mono bw.size, ?_, bw.trans (b3.mono bw.size)⟩
    rw [List.length_take, List.length_drop]; omega
  by_cases h0 : tl = 0
  · subst h0
    have hz : ¬ (0 < ts.length) := by omega
    rw [if_neg hz, hml] at hcut
    clear hf2 hp2
    generalize plN es fs = b at hp1 hcut ⊢
    have hbm : b ≤ m := by omega
    have hcut : Hid (es.filter (fun e => !delK fs ts e.k) = (es.drop b).take (max b m - b)) := hcut
    go_wp2_with fail
    all_goals
      with_reducible refine (fin V (Below.refl _ _) b _ _ _ ?hk ?ha ?he).mono ?_
      case hk => omega
      case ha =>
        intro h0 g hg
        first
        | omega
        | (subst hg; exact congrArg some (by rw [Addr.add_lit, Nat.zero_add]))
        | (subst hg; simp [Addr.add]; omega)
      case he => first | exact hcut.out | (rw [hcut.out]; congr 1; omega)
      rintro e U ⟨bo, lb, cb, rfl, hls, hlb, b3⟩
      replace hlb : Hid (lb = (es.filter (fun e => !delK fs ts e.k)).length) := hlb
      go_wp2
      go_ret
      exact ⟨bo, lb, cb, rfl, hls, hlb.out, b3⟩
  · have hz : 0 < ts.length := by omega
    rw [if_pos hz] at hcut
    generalize plN es fs = b at hp1 hcut ⊢
    generalize plN es ts = E at hp2 hcut hf2 ⊢
    have hbm : b ≤ m := by omega
    have hEm : E ≤ m := by omega
    have hcut : Hid (es.filter (fun e => !delK fs ts e.k) = (es.drop b).take (max b E - b)) := hcut
    go_wp2_with fail
    with_reducible refine hf2.mono ?_
    clear hf2
    rintro e W ⟨rfl, b2⟩
    have c0W := cell_later b2 c0
    go_wp2_with fail
    all_goals
      with_reducible refine (fin W b2 b _ _ _ ?hk ?ha ?he).mono ?_
      case hk => omega
      case ha =>
        intro h0 g hg
        first
        | omega
        | (subst hg; exact congrArg some (by rw [Addr.add_lit, Nat.zero_add]))
        | (subst hg; simp [Addr.add]; omega)
      case he => first | exact hcut.out | (rw [hcut.out]; congr 1; omega)
      rintro e U ⟨bo, lb, cb, rfl, hls, hlb, b3⟩
      replace hlb : Hid (lb = (es.filter (fun e => !delK fs ts e.k)).length) := hlb
      go_wp2
      go_ret
      exact ⟨bo, lb, cb, rfl, hls, hlb.out, b3⟩
/-- All Keys' and Values' bytes. -/
def bytesL (es : List Ent) : Nat := (es.map fun e => e.k.length + e.v.length).sum
theorem bytesL_take (es : List Ent) (i : Nat) (e : Ent) (h : es[i]? = some e) : bytesL (es.take (i + 1)) = bytesL (es.take i) + (e.k.length + e.v.length) := by
  rw [take_snoc es i e h]; simp [bytesL]
theorem bytesL_le : ∀ (es : List Ent) (M : Nat), (∀ e ∈ es, e.k.length + e.v.length ≤ M) → bytesL es ≤ es.length * M
  | [], M, _ => by simp [bytesL]
  | e :: es, M, h => by
    have h1 := bytesL_le es M (fun x hx => h x (by simp [hx]))
    have h2 := h e (by simp)
    simp only [bytesL, List.map_cons, List.sum_cons, List.length_cons, Nat.add_mul] at h1 ⊢
    omega
theorem small_of {n : Nat} {es : List Ent} (h : Held n es) : ∀ e ∈ es, e.k.length + e.v.length ≤ 4350 := fun e he => by
  have h1 := (fitsE_iff e).1 (h.fits e he)
  have h2 := norm_v (h.nm e he)
  rcases h1.2.2 with hg | hv
  · rw [if_pos hg] at h2; rw [← h2]; simp; omega
  · omega

set_option maxHeartbeats 4000000 in
theorem mbytes_any (mb : Nat) (S : List Nat) (es : List Ent) (n : Nat) (w : World) (h : Mm w mb S es) (hh : Held n es) (sm : n ≤ 1000000) :
    Calls Try.prog 25 #[.pointer (some ⟨mb, 0, none⟩)] w fun e w' => e = .returned (.int .i64 (bytesL es : Nat)) ∧ Below w.heap.size w w' := by
  obtain ⟨ao, m, cap, hv⟩ := h.view
  have c0 := hv.c0
  have hml := hv.len
  have hln := hh.len
  have hbl : ∀ i, bytesL (es.take i) ≤ 1000000 * 4350 := fun i => by
    have h1 := bytesL_le (es.take i) 4350 (fun e he => small_of hh e (List.mem_of_mem_take he))
    rw [List.length_take] at h1
    have h2 : min i es.length * 4350 ≤ 1000000 * 4350 := Nat.mul_le_mul_right _ (by omega)
    omega
  go_enter Try.func25, Try.ntmps25
  go_wp2
  go_loopw [3, 5, 11] (fun s3 _ s11 wr => ∃ (i z : Nat), i ≤ m ∧ s11 = .int .i64 i ∧ s3 = .int .i64 z ∧ Hid (z = bytesL (es.take i)) ∧ z ≤ 4350000000 ∧ Below w.heap.size w wr) (fun _ _ s11 _ => m - (intOf s11).toNat)
  case atStart => exact ⟨0, 0, by omega, rfl, rfl, rfl, by omega, Below.refl _ _⟩
  case round =>
    obtain ⟨i, z, hi, rfl, rfl, hz, hz9, hb⟩ := hrel
    by_cases hi2 : i < m
    · obtain ⟨g, rfl, hc⟩ := hv.at_ (by omega)
      have hx : es[i]? = some (es[i]'(by omega)) := by simp
      obtain ⟨pb, ko, kl, kc, vo, vl, vc, p0, ⟨q0, q1, q2⟩, tk, tv⟩ := hc _ _ hx
      have hst := bytesL_take es i _ hx
      have hnx := hbl (i + 1)
      generalize es[i]'(by omega) = e at hx q2 tk tv hst
      rw [hst, ← hz.out, tk.len_eq, tv.len_eq] at hnx
      rw [← hz.out, tk.len_eq, tv.len_eq] at hst
      have hst : Hid (bytesL (es.take (i + 1)) = z + (kl + vl)) := hst
      have p0r := cell_later hb p0
      have q0r := fun d os => cell_regrown (cell_later hb q0) d os
      have q1r := fun d os => cell_regrown (cell_later hb q1) d os
      have hkv : IntKind.i64.wrap ((kl : Int) + (vl : Int)) = (kl : Int) + (vl : Int) := by rw [IntKind.wrap_i64]; omega
      have hzkv : IntKind.i64.wrap ((z : Int) + ((kl : Int) + (vl : Int))) = (z : Int) + ((kl : Int) + (vl : Int)) := by rw [IntKind.wrap_i64]; omega
      clear hx hc p0 q0 q1 q2
      go_wp2_with fail
      refine wp_region_quiet_below (by kernel_rfl) (by kernel_rfl) ?_
      repeat (go_big_quiet_step (fail))
      (with_reducible refine wpQuiet_nil ?_)
      intro _ hw'
      obtain ⟨⟨dq, osq⟩, hw''⟩ := hw'
      subst hw''
      have hb2 := hb.trans ((below_regrown wr dq osq).mono hb.size)
      clear q0r q1r
      generalize grow (redrawn wr dq) osq = V at hb2 ⊢
      go_wp2
      go_roundw
      case rel => exact ⟨i + 1, z + (kl + vl), by omega, by go_num, by go_num, hst.out.symm, by omega, hb2⟩
      case measure => simp [intOf]; omega
    · have him : i = m := by omega
      have hiI : ¬ (i : Int) < m := by omega
      have htk : es.take i = es := List.take_of_length_le (by omega)
      rw [htk] at hz
      go_wp2
      go_ret
      exact ⟨by rw [← hz.out]; rfl, hb⟩
end Go.Proofs.Ytjajpnlhdbcnkaa
