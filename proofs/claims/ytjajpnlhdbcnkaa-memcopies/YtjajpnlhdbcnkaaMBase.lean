/- What texts of elder seats are wanted here: plain facts, the walks of bytes.Equal, the document's own Range and Get. -/
import Derived.Test.YtjajpnlhdbcnkaaPA
import Derived.Test.YtjajpnlhdbcnkaaPB
import Derived.Test.YtjajpnlhdbcnkaaPC
import Derived.Test.YtjajpnlhdbcnkaaFWalksH
import Derived.Test.YtjajpnlhdbcnkaaFWalksI
import Derived.Test.YtjajpnlhdbcnkaaBLaw
import Derived.Lib.SmallJoins
namespace Go.Proofs.Ytjajpnlhdbcnkaa
set_option maxRecDepth 100000
open Go.RowKit Go.Sort

theorem lessB_pos {p k : List Int} (h : lessB p k = true) : 1 ≤ k.length := by
  cases k with
  | nil => cases p <;> simp [lessB] at h
  | cons a k => simp
theorem take_snoc (l : List Ent) (k : Nat) (e : Ent) (h : l[k]? = some e) : l.take (k + 1) = l.take k ++ [e] := by
  obtain ⟨hk, rfl⟩ := List.getElem?_eq_some_iff.1 h
  rw [List.take_succ_eq_append_getElem hk]
theorem str_less (xs ys : List Int) (hx : ∀ n ∈ xs, 0 ≤ n ∧ n ≤ 255) (hy : ∀ n ∈ ys, 0 ≤ n ∧ n ≤ 255) : Op.bytesLess (strOfNums xs).toList (strOfNums ys).toList = lessB xs ys := by
  rw [← bytesLess_nums xs ys hx hy]; simp [ByteArray.toList_eq, strOfNums]
theorem bequal_any (ao bo : Option Addr) (la ca lb cb : Nat) (xs ys : List Int) (w : World) (ha : Tx w ao la ca xs) (hb : Tx w bo lb cb ys) (F : Bool) (hF : (xs == ys) = F) :
    Calls Try.prog 29 #[.slice ao la ca, .slice bo lb cb] w fun e w' => e = .returned (.bool F) ∧ w = w' := by
  have s1 := ha.string
  have s2 := hb.string
  cases F with
  | true =>
    have e : xs = ys := by simpa using hF
    subst e
    generalize strOfNums xs = S at s1 s2
    go_enter Try.func29, Try.ntmps29
    go_wp2
    go_ret
    exact ⟨ret_bool (by simp), rfl⟩
  | false =>
    have e : ¬ xs = ys := by simpa using hF
    have hne := str_ne ha.rng hb.rng e
    generalize strOfNums xs = S at s1 hne
    generalize strOfNums ys = T at s2 hne
    go_enter Try.func29, Try.ntmps29
    go_wp2
    go_ret
    exact ⟨ret_bool (by simp [hne]), rfl⟩
theorem below_tr2 {a b c : World} (h : Below a.heap.size a b) (k : Below b.heap.size b c) : Below a.heap.size a c := h.trans (k.mono h.size)
theorem own_empty2 (w : World) : Gr w.heap.size (w.alloc (.cells #[] 5)) (some ⟨w.heap.size, 0, none⟩) 0 0 [] := ⟨own_empty w, by simp, by simp⟩
theorem Boxf.new' (w : World) (k v : Value) (g : Bool) : Boxf (w.alloc (.cells #[k, v, .bool g] 27)) w.heap.size k v g :=
  ⟨(Box.new w k v g).c0, (Box.new w k v g).c1, (Box.new w k v g).c2, fun j => frozen_of_row (w.alloc (.cells #[k, v, .bool g] 27)) w.heap.size j _ 27 (heap_alloc_new w _)⟩
theorem Off.setNew {S : List Nat} {a w : World} (h : Off S a w) {p : Addr} (hp : a.heap.size ≤ p.block) (u : Value) : Off S a (w.setCell p u) :=
  ⟨h.os, h.tape, h.output, Nat.le_trans h.size (by simp [World.setCell]), fun k hk hn => (Below.heap_setCell _ _ _ _ (fun e => by omega)).trans (h.block k hk hn)⟩
theorem Boxf.off {S : List Nat} {w w' : World} {bx : Nat} {k v : Value} {g : Bool} (h : Boxf w bx k v g) (ho : Off S w w') (hn : bx ∉ S) : Boxf w' bx k v g :=
  ⟨ho.cell h.c0 hn, ho.cell h.c1 hn, ho.cell h.c2 hn, fun j => by rw [World.frozen?_of_block (w := w) (ho.block bx (World.block_lt_of_cell? _ _ h.c0) hn)]; exact h.z j⟩
/-- The box is written whole. -/
theorem box_set (w : World) (bx : Nat) (k v a b : Value) (h : Boxf w bx a b false) (c : Value) :
    (((w.setCell ⟨bx, 0, none⟩ k).setCell ⟨bx, 1, none⟩ v).setCell ⟨bx, 2, none⟩ c).cell? ⟨bx, 0, none⟩ = some k ∧ (((w.setCell ⟨bx, 0, none⟩ k).setCell ⟨bx, 1, none⟩ v).setCell ⟨bx, 2, none⟩ c).cell? ⟨bx, 1, none⟩ = some v ∧ (((w.setCell ⟨bx, 0, none⟩ k).setCell ⟨bx, 1, none⟩ v).setCell ⟨bx, 2, none⟩ c).cell? ⟨bx, 2, none⟩ = some c := by
  have e0 : (w.setCell ⟨bx, 0, none⟩ k).cell? ⟨bx, 0, none⟩ = some k := World.cell?_setCell_same _ _ _ h.c0
  have e1 : (w.setCell ⟨bx, 0, none⟩ k).cell? ⟨bx, 1, none⟩ = some b := by rw [World.cell?_setCell_other _ _ _ _ (by simp)]; exact h.c1
  have e2 : (w.setCell ⟨bx, 0, none⟩ k).cell? ⟨bx, 2, none⟩ = some (.bool false) := by rw [World.cell?_setCell_other _ _ _ _ (by simp)]; exact h.c2
  have f0 : ((w.setCell ⟨bx, 0, none⟩ k).setCell ⟨bx, 1, none⟩ v).cell? ⟨bx, 0, none⟩ = some k := by rw [World.cell?_setCell_other _ _ _ _ (by simp)]; exact e0
  have f1 : ((w.setCell ⟨bx, 0, none⟩ k).setCell ⟨bx, 1, none⟩ v).cell? ⟨bx, 1, none⟩ = some v := World.cell?_setCell_same _ _ _ e1
  have f2 : ((w.setCell ⟨bx, 0, none⟩ k).setCell ⟨bx, 1, none⟩ v).cell? ⟨bx, 2, none⟩ = some (.bool false) := by rw [World.cell?_setCell_other _ _ _ _ (by simp)]; exact e2
  exact ⟨by rw [World.cell?_setCell_other _ _ _ _ (by simp)]; exact f0, by rw [World.cell?_setCell_other _ _ _ _ (by simp)]; exact f1, World.cell?_setCell_same _ _ _ f2⟩
theorem Boxf.set (w : World) (bx : Nat) (k v a b : Value) (h : Boxf w bx a b false) (c : Bool) : Boxf (((w.setCell ⟨bx, 0, none⟩ k).setCell ⟨bx, 1, none⟩ v).setCell ⟨bx, 2, none⟩ (.bool c)) bx k v c := by
  obtain ⟨q0, q1, q2⟩ := box_set w bx k v a b h (.bool c)
  exact ⟨q0, q1, q2, fun j => by rw [World.frozen?_setCell, World.frozen?_setCell, World.frozen?_setCell]; exact h.z j⟩
/-- Is it taken out of a range? -/
def delK (fs ts k : List Int) : Bool := lessB k fs || (decide (0 < ts.length) && !lessB k ts)
/-- The entry of a Key. -/
def getL (m : List Ent) (ks : List Int) : Option Ent := m.find? (fun e => e.k == ks)
theorem getL_some {m : List Ent} (ho : okL [] m = true) {e : Ent} (he : e ∈ m) : getL m e.k = some e := by
  cases h : getL m e.k with
  | none =>
    rw [getL, List.find?_eq_none] at h
    have := h e he
    simp at this
  | some x =>
    have h1 := List.find?_some h
    have h2 := List.mem_of_find?_eq_some h
    simp at h1
    obtain ⟨i, hi, rfl⟩ := List.getElem_of_mem he
    obtain ⟨j, hj, rfl⟩ := List.getElem_of_mem h2
    rcases Nat.lt_trichotomy i j with hij | hij | hij
    · have := okL_lt m [] ho i j _ _ hij (List.getElem?_eq_getElem hi) (List.getElem?_eq_getElem hj)
      rw [h1, lessB_irr] at this; cases this
    · subst hij; rfl
    · have := okL_lt m [] ho j i _ _ hij (List.getElem?_eq_getElem hj) (List.getElem?_eq_getElem hi)
      rw [h1, lessB_irr] at this; cases this
theorem getL_none {m : List Ent} {ks : List Int} (h : ∀ e ∈ m, ¬ e.k = ks) : getL m ks = none := by
  rw [getL, List.find?_eq_none]
  intro x hx; simp [h x hx]
theorem ins_mem (e : Ent) : ∀ (l : List Ent) (x : Ent), x ∈ insR e l → x = e ∨ x ∈ l
  | [], x, h => by simp [insR] at h; exact .inl h
  | y :: l, x, h => by
    unfold insR at h
    split at h
    · rcases List.mem_cons.1 h with rfl | h
      · exact .inr (by simp)
      · exact (ins_mem e l x h).imp_right (fun h => by simp [h])
    · split at h
      · rcases List.mem_cons.1 h with rfl | h
        · exact .inl rfl
        · exact .inr (by simp [h])
      · rcases List.mem_cons.1 h with rfl | h
        · exact .inl rfl
        · exact .inr h
theorem cut_parts2 (K V : Nat) (hK : 1 ≤ K) (e : Ent) : 1 ≤ (cutE K V e).k.length ∧ (cutE K V e).k.length ≤ K ∧ (cutE K V e).v.length ≤ V ∧ norm (cutE K V e) = cutE K V e := by
  obtain ⟨k, v, g⟩ := e
  refine ⟨?_, ?_, ?_, ?_⟩
  · show 1 ≤ (if (k.take K).length = 0 then [107] else k.take K).length
    split
    · simp
    · omega
  · show (if (k.take K).length = 0 then [107] else k.take K).length ≤ K
    split
    · simpa using hK
    · rw [List.length_take]; omega
  · show (if g = true then [] else v.take V).length ≤ V
    split
    · simp
    · rw [List.length_take]; omega
  · cases g <;> simp [cutE, norm]
def GetPost (w : World) (m : List Ent) (ks : List Int) (e : Ending) (w' : World) : Prop :=
  ((∃ en ko kl kc vo vl vc, getL m ks = some en ∧ e = .returned (.tuple #[.agg #[.slice ko kl kc, .slice vo vl vc, .bool en.g], .bool true]) ∧ Tx w' ko kl kc en.k ∧ Tx w' vo vl vc en.v) ∨ (getL m ks = none ∧ e = .returned (.tuple #[.agg #[.slice none 0 0, .slice none 0 0, .bool false], .bool false]))) ∧ Below w.heap.size w w'
theorem get_hit {w V : World} {m : List Ent} {ks : List Int} {en : Ent} {ko vo : Option Addr} {kl kc vl vc : Nat} {G : Bool} (hG : en.g = G) (h : getL m ks = some en) (hlt : ∀ ad, ko = some ad → 0 < kl → ad.block ≠ w.heap.size) (hlt2 : ∀ ad, vo = some ad → 0 < vl → ad.block ≠ w.heap.size) (tk : Tx V ko kl kc en.k) (tv : Tx V vo vl vc en.v) (hb : Below w.heap.size w V) :
    GetPost w m ks (.returned (.tuple #[.agg #[.slice ko kl kc, .slice vo vl vc, .bool G], .bool true])) (((V.setCell ⟨w.heap.size, 0, none⟩ (.slice ko kl kc)).setCell ⟨w.heap.size, 1, none⟩ (.slice vo vl vc)).setCell ⟨w.heap.size, 2, none⟩ (.bool G)) := by
  subst hG
  have O3 : Off [w.heap.size] V (((V.setCell ⟨w.heap.size, 0, none⟩ (.slice ko kl kc)).setCell ⟨w.heap.size, 1, none⟩ (.slice vo vl vc)).setCell ⟨w.heap.size, 2, none⟩ (.bool en.g)) :=
    (((Off.refl [w.heap.size] V).setCell (p := ⟨w.heap.size, 0, none⟩) (by simp) _).setCell (p := ⟨w.heap.size, 1, none⟩) (by simp) _).setCell (p := ⟨w.heap.size, 2, none⟩) (by simp) _
  exact ⟨.inl ⟨en, ko, kl, kc, vo, vl, vc, h, rfl, tk.off O3 (fun ad ha h0 hk => by simp at hk; exact hlt ad ha h0 hk), tv.off O3 (fun ad ha h0 hk => by simp at hk; exact hlt2 ad ha h0 hk)⟩, hb.trans (O3.below (by simp) hb.size)⟩
theorem get_miss {w V : World} {m : List Ent} {ks : List Int} (h : getL m ks = none) (hb : Below w.heap.size w V) :
    GetPost w m ks (.returned (.tuple #[.agg #[.slice none 0 0, .slice none 0 0, .bool false], .bool false])) (((V.setCell ⟨w.heap.size, 0, none⟩ (.slice none 0 0)).setCell ⟨w.heap.size, 1, none⟩ (.slice none 0 0)).setCell ⟨w.heap.size, 2, none⟩ (.bool false)) := by
  have O3 : Off [w.heap.size] V (((V.setCell ⟨w.heap.size, 0, none⟩ (.slice none 0 0)).setCell ⟨w.heap.size, 1, none⟩ (.slice none 0 0)).setCell ⟨w.heap.size, 2, none⟩ (.bool false)) :=
    (((Off.refl [w.heap.size] V).setCell (p := ⟨w.heap.size, 0, none⟩) (by simp) _).setCell (p := ⟨w.heap.size, 1, none⟩) (by simp) _).setCell (p := ⟨w.heap.size, 2, none⟩) (by simp) _
  exact ⟨.inr ⟨h, rfl⟩, hb.trans (O3.below (by simp) hb.size)⟩
theorem Ls.lx {w : World} {B : Nat} {bo : Option Addr} {n cb : Nat} {es : List Ent} (h : Ls 27 3 RE w B (.slice bo n cb) es) : Lx 3 RE w bo n cb es := by
  obtain ⟨ao9, cap9, e9, hx9⟩ := h.read RE.stable RE.plain
  simp only [Value.slice.injEq] at e9
  obtain ⟨rfl, e10, rfl⟩ := e9
  rw [← e10] at hx9
  exact hx9
theorem filt_take {p : Ent → Bool} (m : List Ent) (i : Nat) (x : Ent) (h : m[i]? = some x) : (m.take (i + 1)).filter p = (m.take i).filter p ++ (if p x = true then [x] else []) := by
  rw [take_snoc m i x h, List.filter_append]
  cases hp : p x <;> simp [hp]
set_option maxHeartbeats 8000000 in
theorem rrange_any (ao : Option Addr) (la ca : Nat) (m : List Ent) (fo : Option Addr) (fl fc : Nat) (fs : List Int) (to : Option Addr) (tl tc : Nat) (ts : List Int) (w : World) (h : Lx 3 RE w ao la ca m) (hf : Tx w fo fl fc fs) (ht : Tx w to tl tc ts) (sm : la ≤ 1000000) :
    Calls Try.prog 26 #[.slice ao la ca, .slice fo fl fc, .slice to tl tc] w fun e w' => ∃ bo lb cb, e = .returned (.slice bo lb cb) ∧ Lx 3 RE w' bo lb cb (m.filter (fun e => !delK fs ts e.k)) ∧ Below w.heap.size w w' := by
  have hl := h.len_eq
  have htl := ht.len_eq
  have hsnoc : ∀ (i : Nat) (x : Ent), m[i]? = some x → (m.take (i + 1)).filter (fun e => !delK fs ts e.k) = (m.take i).filter (fun e => !delK fs ts e.k) ++ (if (!delK fs ts x.k) = true then [x] else []) := fun i x h => filt_take m i x h
  have hfle : ∀ i, ((m.take i).filter (fun e => !delK fs ts e.k)).length ≤ i := fun i => by
    have := List.length_filter_le (fun e => !delK fs ts e.k) (m.take i)
    rw [List.length_take] at this; omega
  have hall : Hid ((m.take la).filter (fun e => !delK fs ts e.k) = m.filter (fun e => !delK fs ts e.k)) := by show _ = _; rw [List.take_of_length_le (by omega)]
  go_enter Try.func26, Try.ntmps26
  go_wp2
  go_loopw [7, 8] (fun s7 s8 wr => ∃ (i : Nat) (bo : Option Addr) (n cb : Nat), i ≤ la ∧ s7 = .slice bo n cb ∧ s8 = .int .i64 i ∧ Ls 27 3 RE wr w.heap.size (.slice bo n cb) ((m.take i).filter (fun e => !delK fs ts e.k)) ∧ Below w.heap.size w wr) (fun _ s8 _ => la - (intOf s8).toNat)
  case atStart => exact ⟨0, none, 0, 0, by omega, rfl, rfl, Ls.nil _ _ _ _ _, Below.refl _ _⟩
  case round =>
    obtain ⟨i, bo, n, cb, hi, rfl, rfl, hls, hb⟩ := hrel
    by_cases hi2 : i < la
    · obtain ⟨mb, mf, rfl, hc⟩ := h.headE (by omega)
      have hxi : m[i]? = some (m[i]'(by omega)) := by simp
      obtain ⟨jo, jl, jc, uo, ul, uc, c0, c1, c2, tj, tv⟩ := hc i _ hxi
      have hst : Hid ((m.take (i + 1)).filter (fun e => !delK fs ts e.k) = (m.take i).filter (fun e => !delK fs ts e.k) ++ (if (!delK fs ts (m[i]'(by omega)).k) = true then [m[i]'(by omega)] else [])) := hsnoc i _ hxi
      have hle : ((m.take i).filter (fun e => !delK fs ts e.k)).length ≤ 1000000000 := by have := hfle i; omega
      have hless1 := str_less _ _ tj.rng hf.rng
      have hless2 := str_less _ _ tj.rng ht.rng
      clear hc hxi hsnoc
      generalize m[i]'(by omega) = x at c2 tj tv hless1 hless2 hst
      generalize (m.take i).filter (fun e => !delK fs ts e.k) = acc at hls hst hle
      obtain ⟨G, hG⟩ : ∃ G, Hid (x.g = G) := ⟨_, rfl⟩
      rw [hG.out] at c2
      have hdel : Hid (delK fs ts x.k = (lessB x.k fs || (decide (0 < ts.length) && !lessB x.k ts))) := rfl
      have q0 := fun d os => cell_regrown (cell_later hb c0) d os
      have s0 := fun d os => ((tj.later hb).later (below_regrown wr d os)).string
      have s1 := fun d os => ((hf.later hb).later (below_regrown wr d os)).string
      have s2 := fun d os => ((ht.later hb).later (below_regrown wr d os)).string
      generalize strOfNums x.k = SK at s0 hless1 hless2
      generalize strOfNums fs = SF at s1 hless1
      generalize strOfNums ts = ST at s2 hless2
      have hki : (i : Int) < la := by omega
      obtain ⟨F1, hF1⟩ : ∃ F, Hid (lessB x.k fs = F) := ⟨_, rfl⟩
      obtain ⟨F2, hF2⟩ : ∃ F, Hid (lessB x.k ts = F) := ⟨_, rfl⟩
      rw [hF1.out] at hless1
      rw [hF2.out] at hless2
      cases F1 with
      | true =>
        have hno : Hid ((m.take (i + 1)).filter (fun e => !delK fs ts e.k) = acc) := by show _ = _; rw [hst.out, hdel.out, hF1.out]; simp
        go_wp2_with fail
        refine wp_region_quiet_below (by kernel_rfl) (by kernel_rfl) ?_
        repeat (go_big_quiet_step (fail))
        (with_reducible refine wpQuiet_nil ?_)
        intro _ hw'
        obtain ⟨⟨dq, osq⟩, hw''⟩ := hw'
        subst hw''
        have bq := below_regrown wr dq osq
        have hb2 := hb.trans (bq.mono hb.size)
        have hls2 := hls.later RE.stable bq
        clear q0 s0 s1 s2 hls
        generalize grow (redrawn wr dq) osq = V at hb2 hls2 ⊢
        go_wp2
        go_roundw
        case rel => exact ⟨i + 1, bo, n, cb, by omega, rfl, by go_num, by rw [hno.out]; exact hls2, hb2⟩
        case measure => simp [intOf]; omega
      | false =>
        by_cases h0 : tl = 0
        · subst h0
          have hyes : Hid ((m.take (i + 1)).filter (fun e => !delK fs ts e.k) = acc ++ [x]) := by show _ = _; rw [hst.out, hdel.out, hF1.out]; simp [htl]
          have htjl := tj.lt
          have htvl := tv.lt
          go_wp2_with fail
          refine wp_region_quiet_below (by kernel_rfl) (by kernel_rfl) ?_
          repeat (go_big_quiet_step (fail))
          (with_reducible refine wpQuiet_nil ?_)
          intro _ hw'
          obtain ⟨⟨dq, osq⟩, hw''⟩ := hw'
          subst hw''
          have bq := below_regrown wr dq osq
          have hb2 := hb.trans (bq.mono hb.size)
          have hls2 := hls.later RE.stable bq
          clear q0 s0 s1 s2 hls
          generalize grow (redrawn wr dq) osq = V at hb2 hls2 ⊢
          have d0 := cell_later hb2 c0
          have d1 := cell_later hb2 c1
          have d2 := cell_later hb2 c2
          have HL := ls_ent hls2 (Below.refl _ _) (.cells #[.slice jo jl jc, .slice uo ul uc, .bool G] 27)
          have HR := re_ent (e := x) (G := G) hls2 hG.out.symm (tj.later hb2) (tv.later hb2) (fun ad ha h0 => .inl (htjl ad ha h0)) (fun ad ha h0 => .inl (htvl ad ha h0)) (.cells #[.slice jo jl jc, .slice uo ul uc, .bool G] 27)
          have hw8b := size_ent (.cells #[.slice jo jl jc, .slice uo ul uc, .bool G] 27) hb2 (Below.refl V.heap.size V)
          have hC := cells3_at V V.heap.size rfl (.slice jo jl jc) (.slice uo ul uc) (.bool G)
          go_wp2_with (with_reducible show wpList _ _ _ (⟨some 46, _, _, _, _, _⟩ :: _) _ _; refine wpList_one RE.stable RE.plain Try.underlying24 Try.info27 rfl (by omega) (by omega) rfl _ _ rfl w.heap.size (.slice bo n cb) acc rfl HL ⟨V.heap.size, 0, none⟩ 1 [.slice jo jl jc, .slice uo ul uc, .bool G] _ rfl hC HR hle hw8b ?_; intro ao5 n5 c5 w5 hn5 hls5 hof5 hsub5; clear hn5; have b5 := below_ent hls2 hb2 (Below.refl V.heap.size V) hof5; clear HL HR hC hw8b)
          go_roundw
          case rel => exact ⟨i + 1, ao5, n5, c5, by omega, rfl, by go_num, by rw [hyes.out]; exact hls5, b5⟩
          case measure => simp [intOf]; omega
        · have hz : ((tl : Int) == 0) = false := by simp [h0]
          have hp : 0 < ts.length := by omega
          cases F2 with
          | true =>
            have hyes : Hid ((m.take (i + 1)).filter (fun e => !delK fs ts e.k) = acc ++ [x]) := by show _ = _; rw [hst.out, hdel.out, hF1.out]; rw [hF2.out]; simp
            have htjl := tj.lt
            have htvl := tv.lt
            go_wp2_with fail
            refine wp_region_quiet_below (by kernel_rfl) (by kernel_rfl) ?_
            repeat (go_big_quiet_step (fail))
            (with_reducible refine wpQuiet_nil ?_)
            intro _ hw'
            obtain ⟨⟨dq, osq⟩, hw''⟩ := hw'
            subst hw''
            have bq := below_regrown wr dq osq
            have hb2 := hb.trans (bq.mono hb.size)
            have hls2 := hls.later RE.stable bq
            clear q0 s0 s1 s2 hls
            generalize grow (redrawn wr dq) osq = V at hb2 hls2 ⊢
            have d0 := cell_later hb2 c0
            have d1 := cell_later hb2 c1
            have d2 := cell_later hb2 c2
            have HL := ls_ent hls2 (Below.refl _ _) (.cells #[.slice jo jl jc, .slice uo ul uc, .bool G] 27)
            have HR := re_ent (e := x) (G := G) hls2 hG.out.symm (tj.later hb2) (tv.later hb2) (fun ad ha h0 => .inl (htjl ad ha h0)) (fun ad ha h0 => .inl (htvl ad ha h0)) (.cells #[.slice jo jl jc, .slice uo ul uc, .bool G] 27)
            have hw8b := size_ent (.cells #[.slice jo jl jc, .slice uo ul uc, .bool G] 27) hb2 (Below.refl V.heap.size V)
            have hC := cells3_at V V.heap.size rfl (.slice jo jl jc) (.slice uo ul uc) (.bool G)
            go_wp2_with (with_reducible show wpList _ _ _ (⟨some 46, _, _, _, _, _⟩ :: _) _ _; refine wpList_one RE.stable RE.plain Try.underlying24 Try.info27 rfl (by omega) (by omega) rfl _ _ rfl w.heap.size (.slice bo n cb) acc rfl HL ⟨V.heap.size, 0, none⟩ 1 [.slice jo jl jc, .slice uo ul uc, .bool G] _ rfl hC HR hle hw8b ?_; intro ao5 n5 c5 w5 hn5 hls5 hof5 hsub5; clear hn5; have b5 := below_ent hls2 hb2 (Below.refl V.heap.size V) hof5; clear HL HR hC hw8b)
            go_roundw
            case rel => exact ⟨i + 1, ao5, n5, c5, by omega, rfl, by go_num, by rw [hyes.out]; exact hls5, b5⟩
            case measure => simp [intOf]; omega
          | false =>
            have hno : Hid ((m.take (i + 1)).filter (fun e => !delK fs ts e.k) = acc) := by show _ = _; rw [hst.out, hdel.out, hF1.out, hF2.out]; simp [hp]
            go_wp2_with fail
            refine wp_region_quiet_below (by kernel_rfl) (by kernel_rfl) ?_
            repeat (go_big_quiet_step (fail))
            (with_reducible refine wpQuiet_nil ?_)
            intro _ hw'
            obtain ⟨⟨dq, osq⟩, hw''⟩ := hw'
            subst hw''
            have bq := below_regrown wr dq osq
            have hb2 := hb.trans (bq.mono hb.size)
            have hls2 := hls.later RE.stable bq
            clear q0 s0 s1 s2 hls
            generalize grow (redrawn wr dq) osq = V at hb2 hls2 ⊢
            go_wp2
            go_roundw
            case rel => exact ⟨i + 1, bo, n, cb, by omega, rfl, by go_num, by rw [hno.out]; exact hls2, hb2⟩
            case measure => simp [intOf]; omega
    · have hkI : ¬ (i : Int) < la := by omega
      have hil : i = la := by omega
      rw [hil, hall.out] at hls
      go_wp2
      go_ret
      exact ⟨bo, n, cb, rfl, hls.lx, hb⟩
theorem getL_at {m : List Ent} {ks : List Int} : ∀ {k : Nat} {x : Ent}, m[k]? = some x → x.k = ks → (∀ y ∈ m.take k, ¬ y.k = ks) → getL m ks = some x := by
  induction m with
  | nil => intro k x h; simp at h
  | cons y m ih =>
    intro k x h hx hb
    cases k with
    | zero => simp at h; subst h; simp [getL, hx]
    | succ k =>
      have h1 : ¬ y.k = ks := hb y (by simp)
      have h2 := ih (k := k) (x := x) (by simpa using h) hx (fun z hz => hb z (by simp [hz]))
      simp only [getL] at h2 ⊢
      rw [List.find?_cons_of_neg (by simpa using h1)]
      exact h2
set_option maxHeartbeats 8000000 in
theorem rget_any (ao : Option Addr) (la ca : Nat) (m : List Ent) (bo : Option Addr) (lb cb : Nat) (ks : List Int) (w : World) (h : Lx 3 RE w ao la ca m) (hk : Tx w bo lb cb ks) (sm : la ≤ 1000000) :
    Calls Try.prog 24 #[.slice ao la ca, .slice bo lb cb] w fun e w' => GetPost w m ks e w' := by
  have hl := h.len_eq
  have b0 : Below w.heap.size w (w.alloc (.cells #[.slice none 0 0, .slice none 0 0, .bool false] 27)) := (Below.refl _ _).alloc (Nat.le_refl _) _
  have bx0 := Boxf.new' w (.slice none 0 0) (.slice none 0 0) false
  go_enter Try.func24, Try.ntmps24
  go_wp2_with fail
  generalize w.alloc (.cells #[.slice none 0 0, .slice none 0 0, .bool false] 27) = V0 at b0 bx0 ⊢
  go_loopw [6] (fun s6 wr => ∃ k : Nat, k ≤ la ∧ s6 = .int .i64 k ∧ Hid (∀ y ∈ m.take k, ¬ y.k = ks) ∧ Below w.heap.size w wr ∧ Boxf wr w.heap.size (.slice none 0 0) (.slice none 0 0) false) (fun s6 _ => la - (intOf s6).toNat)
  case atStart => exact ⟨0, by omega, rfl, by show ∀ y ∈ _, _; simp, b0, bx0⟩
  case round =>
    obtain ⟨k, hk9, rfl, hbef, hb, bxr⟩ := hrel
    by_cases hk2 : k < la
    · obtain ⟨mb, mf, rfl, hc⟩ := h.headE (by omega)
      have hxi : m[k]? = some (m[k]'(by omega)) := by simp
      obtain ⟨jo, jl, jc, uo, ul, uc, c0, c1, c2, tj, tv⟩ := hc k _ hxi
      have hX : Hid (m[k]? = some (m[k]'(by omega))) := hxi
      have htk := take_snoc m k _ hxi
      clear hc hxi
      generalize m[k]'(by omega) = x at c2 tj tv hX htk
      have htkH : Hid (m.take (k + 1) = m.take k ++ [x]) := htk
      clear htk
      obtain ⟨G, hG⟩ : ∃ G, Hid (x.g = G) := ⟨_, rfl⟩
      rw [hG.out] at c2
      have q0 := fun d os => cell_regrown (cell_later hb c0) d os
      have s0 := fun d os => ((tj.later hb).later (below_regrown wr d os)).string
      have s1 := fun d os => ((hk.later hb).later (below_regrown wr d os)).string
      have hki : (k : Int) < la := by omega
      by_cases he : x.k = ks
      · have hyes : Hid (getL m ks = some x) := getL_at hX.out he hbef.out
        rw [he] at s0
        generalize strOfNums ks = SK at s0 s1
        have hSe : (SK.toList == SK.toList) = true := by simp
        go_wp2_with fail
        refine wp_region_quiet_below (by kernel_rfl) (by kernel_rfl) ?_
        repeat (go_big_quiet_step (fail))
        (with_reducible refine wpQuiet_nil ?_)
        intro _ hw'
        obtain ⟨⟨dq, osq⟩, hw''⟩ := hw'
        subst hw''
        have bq := below_regrown wr dq osq
        have hb2 := hb.trans (bq.mono hb.size)
        have bx3 := bxr.off (S := []) (.of_below bq) (by simp)
        clear q0 s0 s1
        generalize grow (redrawn wr dq) osq = V3 at hb2 bx3 ⊢
        have d0 := cell_later hb2 c0
        have d1 := cell_later hb2 c1
        have d2 := cell_later hb2 c2
        have q := box_set V3 w.heap.size (.slice jo jl jc) (.slice uo ul uc) _ _ bx3 (.bool G)
        have z0 := bx3.z 0
        have z1 := bx3.z 1
        have z2 := bx3.z 2
        obtain ⟨x0, x1, x2, _⟩ := bx3
        have hend := get_hit hG.out hyes.out (fun ad ha h0 => Nat.ne_of_lt (tj.lt ad ha h0)) (fun ad ha h0 => Nat.ne_of_lt (tv.lt ad ha h0)) (tj.later hb2) (tv.later hb2) hb2
        go_wp2
        generalize ((V3.setCell ⟨w.heap.size, 0, none⟩ (.slice jo jl jc)).setCell ⟨w.heap.size, 1, none⟩ (.slice uo ul uc)).setCell ⟨w.heap.size, 2, none⟩ (.bool G) = F at q hend ⊢
        obtain ⟨q0, q1, q2⟩ := q
        exact bodyPost_ret (v := .tuple #[.agg #[.slice jo jl jc, .slice uo ul uc, .bool G], .bool true]) (by simp [results, Try.results24, go_sem, q0, q1, q2]) rfl hend
      · have hne := str_ne tj.rng hk.rng he
        have hb9 : Hid (∀ y ∈ m.take (k + 1), ¬ y.k = ks) := by
          show ∀ y ∈ _, _
          rw [htkH.out]
          intro y hy
          rcases List.mem_append.1 hy with hy | hy
          · exact hbef.out y hy
          · simp at hy; subst hy; exact he
        generalize strOfNums x.k = SK at s0 hne
        generalize strOfNums ks = SV at s1 hne
        have hSn : (SK.toList == SV.toList) = false := by simpa using hne
        go_wp2_with fail
        refine wp_region_quiet_below (by kernel_rfl) (by kernel_rfl) ?_
        repeat (go_big_quiet_step (fail))
        (with_reducible refine wpQuiet_nil ?_)
        intro _ hw'
        obtain ⟨⟨dq, osq⟩, hw''⟩ := hw'
        subst hw''
        have bq := below_regrown wr dq osq
        have hb2 := hb.trans (bq.mono hb.size)
        have bx3 := bxr.off (S := []) (.of_below bq) (by simp)
        clear q0 s0 s1
        generalize grow (redrawn wr dq) osq = V3 at hb2 bx3 ⊢
        go_wp2
        go_roundw
        case rel => exact ⟨k + 1, by omega, by go_num, hb9, hb2, bx3⟩
        case measure => simp [intOf]; omega
    · have hki : ¬ (k : Int) < la := by omega
      have hno : Hid (getL m ks = none) := getL_none (fun e he => hbef.out e (by rw [List.take_of_length_le (by omega)]; exact he))
      have q := box_set wr w.heap.size (.slice none 0 0) (.slice none 0 0) _ _ bxr (.bool false)
      have z0 := bxr.z 0
      have z1 := bxr.z 1
      have z2 := bxr.z 2
      obtain ⟨x0, x1, x2, _⟩ := bxr
      have hend := get_miss (w := w) (V := wr) hno.out hb
      go_wp2
      generalize ((wr.setCell ⟨w.heap.size, 0, none⟩ (.slice none 0 0)).setCell ⟨w.heap.size, 1, none⟩ (.slice none 0 0)).setCell ⟨w.heap.size, 2, none⟩ (.bool false) = F at q hend ⊢
      obtain ⟨q0, q1, q2⟩ := q
      exact bodyPost_ret (v := .tuple #[.agg #[.slice none 0 0, .slice none 0 0, .bool false], .bool false]) (by simp [results, Try.results24, go_sem, q0, q1, q2]) rfl hend

end Go.Proofs.Ytjajpnlhdbcnkaa
