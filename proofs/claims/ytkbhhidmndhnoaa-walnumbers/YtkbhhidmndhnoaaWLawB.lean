/- The statements' own batches, on and known. -/
import Derived.Test.YtkbhhidmndhnoaaWLaw
import Derived.Test.YtkbhhidmndhnoaaFKnown
namespace Go.Proofs.Ytkbhhidmndhnoaa
open Go.RowKit Go.Sort

def batchesL (n : Nat) (l : List (List Ent)) : List (List Ent) := (l.take n).map (keepL 5 20 30)

theorem cutE_fits (e : Ent) : fitsE (cutE 20 30 e) = true ∧ (encE (cutE 20 30 e)).length ≤ 54 := by
  have hk : 1 ≤ (cutE 20 30 e).k.length ∧ (cutE 20 30 e).k.length ≤ 20 := by
    unfold cutE
    simp only
    split
    · simp
    · rename_i h; rw [List.length_take] at h ⊢; omega
  have hv : (cutE 20 30 e).v.length ≤ 30 := by
    unfold cutE
    simp only
    split
    · simp
    · simp; omega
  refine ⟨(fitsE_iff _).2 ⟨hk.1, by omega, .inr (by omega)⟩, ?_⟩
  unfold encE
  split
  · simp; omega
  · simp [length_low]; omega
theorem flat54 : ∀ (l : List Ent), (∀ e ∈ l, (encE e).length ≤ 54) → (l.flatMap encE).length ≤ 54 * l.length
  | [], _ => by simp
  | e :: l, h => by
    have h1 := h e (by simp)
    have h2 := flat54 l (fun x hx => h x (by simp [hx]))
    simp only [List.flatMap_cons, List.length_append, List.length_cons]; omega
theorem keepL_fine (es : List Ent) : mayL (keepL 5 20 30 es) = true ∧ (batchL (keepL 5 20 30 es)).length ≤ 1000 := by
  have hlen : (keepL 5 20 30 es).length ≤ 5 := by simp [keepL]; omega
  refine ⟨(mayL_iff _).2 ⟨by omega, fun e he => ?_⟩, ?_⟩
  · obtain ⟨x, _, rfl⟩ := List.mem_map.1 he
    exact (cutE_fits x).1
  · have := flat54 (keepL 5 20 30 es) (fun e he => by
      obtain ⟨x, _, rfl⟩ := List.mem_map.1 he
      exact (cutE_fits x).2)
    simp only [batchL, List.length_append, length_low]; omega
theorem batchesL_fine (n : Nat) (l : List (List Ent)) : Fine (batchesL n l) := by
  intro es he
  obtain ⟨x, _, rfl⟩ := List.mem_map.1 he
  exact keepL_fine x
theorem batchesL_len (n : Nat) (l : List (List Ent)) : (batchesL n l).length ≤ n := by simp [batchesL]; omega
theorem batchesL_small (n : Nat) (l : List (List Ent)) : ∀ es ∈ batchesL n l, es.length ≤ 8191 := by
  intro es he
  obtain ⟨x, _, rfl⟩ := List.mem_map.1 he
  simp [keepL]; omega
theorem batchesL_succ (l : List (List Ent)) (j : Nat) (es : List Ent) (h : l[j]? = some es) : batchesL (j + 1) l = batchesL j l ++ [keepL 5 20 30 es] := by
  obtain ⟨hk, rfl⟩ := List.getElem?_eq_some_iff.1 h
  rw [batchesL, batchesL, List.take_succ_eq_append_getElem hk, List.map_append]; rfl

theorem rl_keep {w wr V : World} {v : Value} {out : List (List Ent)} (hls : Ls 25 1 RL wr w.heap.size v out) {eo : Option Addr} {el ec : Nat} {es : List Ent} (l : Lv 3 RE (List.range' w.heap.size (wr.heap.size - w.heap.size)) V eo el ec es) (o : Obj) : RL (V.alloc o) (own v) [.slice eo el ec] es := by
  refine ⟨eo, el, ec, rfl, (l.later RE.stable ((Below.refl _ _).alloc (Nat.le_refl _) o)).mono RE.stable RE.plain (by omega) (fun k hk => .inl ?_)⟩
  have := hls.lt _ hk
  simp [List.mem_range'_1]
  omega
theorem ls_klater {wr V : World} {v : Value} {B : Nat} {out : List (List Ent)} (hls : Ls 25 1 RL wr B v out) (hb : Below wr.heap.size wr V) (o : Obj) : Ls 25 1 RL (V.alloc o) B v out := hls.later RL.stable (hb.alloc hb.size o)
theorem ls_kbelow {w wr V w5 : World} {v : Value} {out : List (List Ent)} {o : Obj} (hls : Ls 25 1 RL wr w.heap.size v out) (hb : Below w.heap.size w wr) (hV : Below wr.heap.size wr V) (ho : Off (own v) (V.alloc o) w5) : Below w.heap.size w w5 :=
  (hb.trans ((hV.alloc hV.size o).mono hb.size)).trans (ho.below (fun k hk => (hls.lt k hk).2) (by have := hb.size; have := hV.size; simp; omega))

set_option maxHeartbeats 1000000 in
theorem batches_any (ao : Option Addr) (la ca : Nat) (l : List (List Ent)) (N : Int) (n : Nat) (hN : N = (n : Int)) (hn : n ≤ 1000) (w : World) (h : Lx 1 RL w ao la ca l) :
    Calls Try.prog 15 #[.slice ao la ca, .int .i64 N] w fun e w' => ∃ bo lb cb, e = .returned (.slice bo lb cb) ∧ Lx 1 RL w' bo lb cb (batchesL n l) ∧ Below w.heap.size w w' := by
  subst hN
  have hl := h.len_eq
  have hle := h.le
  have htop := h.top
  unfold maxLen at htop
  go_enter Try.func15, Try.ntmps15
  go_wp2
  go_loopw [5, 6] (fun o i wr => ∃ (j m : Nat) (bo : Option Addr) (cb : Nat), j ≤ la ∧ j ≤ n ∧ i = .int .i64 j ∧ o = .slice bo m cb ∧ Hid (m = (batchesL j l).length) ∧ Hid (m = j) ∧ Ls 25 1 RL wr w.heap.size (.slice bo m cb) (batchesL j l) ∧ Below w.heap.size w wr) (fun _ i _ => la - (intOf i).toNat)
  case atStart => exact ⟨0, 0, none, 0, by omega, by omega, rfl, rfl, rfl, rfl, Ls.nil _ _ _ _ _, Below.refl _ _⟩
  case round =>
    obtain ⟨j, m, bo, cb, hjl, hjn, rfl, rfl, hm, hmj, hls, hb⟩ := hrel
    by_cases hj : j < la ∧ j < n
    · obtain ⟨b, off, rfl, hc⟩ := h.headL (by omega)
      have hx : l[j]? = some (l[j]'(by omega)) := by simp
      obtain ⟨eo, el, ec, c1, t1⟩ := hc j _ hx
      have hsuc : Hid (batchesL (j + 1) l = batchesL j l ++ [keepL 5 20 30 (l[j]'(by omega))]) := batchesL_succ l j _ hx
      generalize l[j]'(by omega) = x at t1 hsuc
      have lv := (t1.low (List.range' w.heap.size (wr.heap.size - w.heap.size)) (by simp [List.mem_range'_1]; omega)).later RE.stable hb
      have hkeep := keep_far _ eo el ec x 5 20 30 5 20 30 rfl rfl rfl (by omega) (by omega) (by omega) wr (t1.later RE.stable hb) lv.lx (by have := hb.size; simp [List.mem_range'_1]; omega)
      have c1 := cell_later hb c1
      have j1 : (j : Int) < la := by omega
      have j2 : (j : Int) < n := by omega
      have hol : Hid ((batchesL j l).length + 1 = (batchesL (j + 1) l).length) := by show _ = _; rw [hsuc.out]; simp
      have hok : Hid ((batchesL j l).length + 1 = j + 1) := by show _ = _; have := hm.out; have := hmj.out; omega
      have hout : (batchesL j l).length ≤ 1000000 := by have := hm.out; have := hmj.out; omega
      have hmo := hm.out
      subst hmo
      clear t1 lv hx hc
      generalize batchesL j l = out at hls hout hsuc hol hok hm hmj
      go_wp2_with (first | (go_at_call 38; with_reducible refine hkeep.mono ?_; rintro e V ⟨qo, lq, cq, rfl, tV, bV⟩; have hr1 := rl_keep hls tV (.cells #[.slice qo lq cq] 25); have hl2 := ls_klater hls bV (.cells #[.slice qo lq cq] 25); have hB9 : w.heap.size ≤ (V.alloc (.cells #[.slice qo lq cq] 25)).heap.size := (by have := hb.size; have := bV.size; simp; omega)) | (with_reducible show wpList _ _ _ (⟨some 25, _, _, _, _, _⟩ :: _) _ _; refine wpList_one RL.stable RL.plain Try.underlying26 Try.info25 rfl (by omega) (by omega) rfl _ _ rfl w.heap.size (.slice bo out.length cb) out rfl hl2 ⟨V.heap.size, 0, none⟩ 1 [.slice qo lq cq] (keepL 5 20 30 x) rfl (lx_cell_one V _ 25) hr1 (by omega) hB9 ?_; intro ao5 n5 c5 w5 hn5 hls5 hof5 hsub5; subst hn5))
      go_roundw
      case rel => exact ⟨j + 1, out.length + 1, ao5, c5, by omega, by omega, by go_num, rfl, hol, hok, by rw [hsuc.out]; exact hls5, ls_kbelow hls hb bV hof5⟩
      case measure => simp [intOf]; omega
    · have hq : (j : Int) < (la : Int) → ¬ (j : Int) < (n : Int) := by omega
      have hend : batchesL j l = batchesL n l := by
        rw [batchesL, batchesL]
        congr 1
        by_cases hjn2 : j = n
        · rw [hjn2]
        · rw [List.take_of_length_le (by omega), List.take_of_length_le (by omega)]
      obtain ⟨ao9, cap9, e9, hx9⟩ := hls.read RL.stable RL.plain
      simp only [Value.slice.injEq] at e9
      obtain ⟨rfl, e10, rfl⟩ := e9
      rw [← e10, hend] at hx9
      clear hls hend e10
      go_wp2
      all_goals go_ret
      all_goals exact ⟨bo, m, cb, rfl, hx9, hb⟩

theorem on_any (nm : ByteArray) (hn : okName nm = true) (ao : Option Addr) (la ca : Nat) (xs : List Int) (w : World) (ha : Tx w ao la ca xs) (sa : la ≤ 16777216) :
    Calls Try.prog 29 #[.string nm, .slice ao la ca] w fun e w' => ∃ pb, e = .returned (.pointer (some ⟨pb, 0, none⟩)) ∧ Dl w.heap.size w' pb (one 16777216 nm xs xs.length 0 false) ∧ Below w.heap.size w w' := by
  have hl := ha.len_eq
  have hs : nm.size ≤ 9223372036854775807 := by simp [okName] at hn; omega
  have e1 := create_one 16777216 nm hn
  have e2 := append_one 16777216 nm [] xs 0 (by simp; omega)
  have e3 := sync_one 16777216 nm xs 0
  rw [List.nil_append] at e2
  have f1 : (⟨16777216, [], 0, false⟩ : Dm).files.length ≤ 1000000 := by simp
  have f2 : (one 16777216 nm [] 0 0 false).files.length ≤ 1000000 := by simp [one]
  have f3 : (one 16777216 nm xs 0 0 false).files.length ≤ 1000000 := by simp [one]
  have hfr := fresh_any w
  generalize (⟨16777216, [], 0, false⟩ : Dm) = D0 at e1 f1 hfr
  generalize (one 16777216 nm [] 0 0 false) = D1 at e1 e2 f2
  generalize (one 16777216 nm xs 0 0 false) = D2 at e2 e3 f3
  generalize (one 16777216 nm xs xs.length 0 false) = D3 at e3 ⊢
  have hlow := fun ad (hd : ao = some ad) (h0 : 0 < la) => ha.lt ad hd h0
  go_enter Try.func29, Try.ntmps29
  go_wp2_with (first
    | (go_at_call 10; with_reducible refine hfr.mono ?_; rintro e w1 ⟨rfl, d1, b1⟩)
    | (go_at_call 47; with_reducible refine (create_l d1 nm D1 0 e1 f1 hs).mono ?_; rintro e w2 ⟨rfl, d2, b2⟩; have ta := ha.later (b1.trans b2))
    | (go_at_call 41; with_reducible refine (append_l d2 nm ao la ca xs w2 (Below.refl _ _) ta (fun ad hd h0 => .inl (hlow ad hd h0)) (by omega) D2 0 e2 f2).mono ?_; rintro e w3 ⟨rfl, d3, b3⟩)
    | (go_at_call 42; with_reducible refine (sync_l d3 nm D3 0 e3 f3).mono ?_; rintro e w4 ⟨rfl, d4, b4⟩))
  go_ret
  exact ⟨w.heap.size, rfl, d4, ((b1.trans b2).trans b3).trans b4⟩

theorem lx_ent_one (V : World) {k v : Value} {e : Ent} (hk : BytesAt V [] k e.k) (hv : BytesAt V [] v e.v) (G : Bool) (hG : G = e.g) : Lx 3 RE (V.alloc (.cells #[k, v, .bool G] 24)) (some ⟨V.heap.size, 0, none⟩) 1 1 [e] := by
  have hb : Below V.heap.size V (V.alloc (.cells #[k, v, .bool G] 24)) := (Below.refl _ _).alloc (Nat.le_refl _) _
  refine ⟨rfl, Nat.le_refl _, by unfold maxLen; omega, fun h => (by cases h), fun ad ha j x hx => ?_⟩
  cases ha
  have hj : j = 0 := by have := (List.getElem?_eq_some_iff.1 hx).1; simp at this; omega
  subst hj
  simp at hx
  subst hx
  exact ⟨[k, v, .bool G], fun i y hy => by rw [Nat.zero_mul, Nat.zero_add]; exact cells3_new V k v (.bool G) i y hy, k, v, by rw [hG], hk.off (.of_below hb) (by simp), hv.off (.of_below hb) (by simp)⟩

theorem conv_b (w : World) : (convert 22 22 (.slice (some ⟨w.heap.size, 0, none⟩) 1 1)).run Try.prog (w.alloc (.cells #[.int .u8 98] 5)) = .ok (.slice (some ⟨w.heap.size, 0, none⟩) 1 1) (w.alloc (.cells #[.int .u8 98] 5 (1, 2))) :=
  Lib.run_convert_bytes_const w 22 5 #[.int .u8 98] 1 1 Try.underlying22 Try.underlying5

abbrev w0 : ByteArray := ⟨#[119, 48]⟩
def entA : Ent := ⟨[97], [], false⟩
def entB : Ent := ⟨[98], [], false⟩
theorem w0_ok : okName w0 = true := by decide
theorem w0_size : w0.size ≤ 281474976710656 := by decide
theorem fine_AB : Fine [[entA], [entB]] := by
  intro es he
  simp at he
  rcases he with rfl | rfl
  · exact ⟨by decide, by decide⟩
  · exact ⟨by decide, by decide⟩
theorem known_pre : ∃ D, openM ((one 16777216 w0 (rowB [[entA]] ++ recL (batchL [entB])) (rowB [[entA]]).length 0 false).crash 3) w0 = (D, [[entA]], 0) ∧ D.files.length ≤ 1000000 := by
  have e1 : rowB [[entA]] ++ recL (batchL [entB]) = rowB [[entA], [entB]] := by decide
  have e2 : (one 16777216 w0 (rowB [[entA], [entB]]) (rowB [[entA]]).length 0 false).crash 3 = one 16777216 w0 ((rowB [[entA], [entB]]).take 16) 16 0 false := rfl
  rw [e1, e2]
  obtain ⟨m, h1, h2, h3, h4⟩ := open_pre 16777216 w0 [[entA], [entB]] fine_AB 16 (by decide)
  have hm1 := h3 1 (by decide) (by decide)
  have hm2 : ¬ m = 2 := by
    rintro rfl
    exact absurd h4 (by decide)
  have hm : m = 1 := by simp at h1; omega
  subst hm
  rw [h2]
  exact ⟨_, rfl, by simp [one]⟩

/-- An Add of a batch that is written out. -/
theorem add_lit {B : Nat} {V : World} {lg pb : Nat} {nm : ByteArray} {c : Nat} {d : Dm} {bo : Option Addr} {lb cb : Nat} {ess : List (List Ent)} (h : Wl B V lg pb nm c d bo lb cb ess) (cs : Array Value) (fr : Nat × Nat) (xs : List Int) (n : Nat) (hc : cs = (xs.map (Value.int .u8)).toArray) (hn : xs.length = n) (hn1 : n ≤ 100) (hr : ∀ x ∈ xs, 0 ≤ x ∧ x ≤ 255) (hm : mayL [⟨xs, [], false⟩] = true ∧ (batchL [⟨xs, [], false⟩]).length ≤ 1000) (D : Dm) (r : Int) (c' : Nat) (hE : d.append nm (recL (batchL [⟨xs, [], false⟩])) = (D, r)) (hc' : c' = if r = 0 then c + 1 else c) (hf : d.files.length ≤ 1000000) (hc9 : c ≤ 1000000) :
    Calls Try.prog 18 #[.pointer (some ⟨lg, 0, none⟩), .slice (some ⟨V.heap.size + 1, 0, none⟩) 1 1] ((V.alloc (.cells cs 5 fr)).alloc (.cells #[.slice (some ⟨V.heap.size, 0, none⟩) n n, .slice none 0 0, .bool false] 24)) fun e w' => e = .returned (.int .i64 r) ∧ Wl B w' lg pb nm c' D bo lb cb ess ∧ Below B V w' := by
  have b1 : Below V.heap.size V (V.alloc (.cells cs 5 fr)) := (Below.refl _ _).alloc (Nat.le_refl _) _
  have b2 : Below V.heap.size V ((V.alloc (.cells cs 5 fr)).alloc (.cells #[.slice (some ⟨V.heap.size, 0, none⟩) n n, .slice none 0 0, .bool false] 24)) := b1.alloc b1.size _
  have t := tx_mark V cs fr xs n hc hn (by omega) hr
  have hs : (V.alloc (.cells cs 5 fr)).heap.size = V.heap.size + 1 := by simp
  have hl := lx_ent_one (V.alloc (.cells cs 5 fr)) (k := .slice (some ⟨V.heap.size, 0, none⟩) n n) (v := .slice none 0 0) (e := ⟨xs, [], false⟩) (t.at [] (by simp)) ((Tx.nil _).at [] (by simp)) false rfl
  rw [hs] at hl
  have hB := h.size
  refine (add_l (h.later b2) _ _ _ _ hl hm D r c' hE hc' hf hc9).mono ?_
  rintro e w' ⟨rfl, W, b3⟩
  exact ⟨rfl, W, (b2.mono hB).trans b3⟩

/-- Open, the number of batches told. -/
theorem open_at {B : Nat} {w : World} {pb : Nat} {d : Dm} (h : Dl B w pb d) (nm : ByteArray) (D : Dm) (ess : List (List Ent)) (n : Nat) (hl : ess.length = n) (hE : openM d nm = (D, ess, 0)) (hn : d.files.length ≤ 1000000) (hs : nm.size ≤ 281474976710656) :
    Calls Try.prog 11 #[.pointer (some ⟨pb, 0, none⟩), .string nm] w fun e w' => ∃ lg bo cb, e = .returned (.tuple #[.pointer (some ⟨lg, 0, none⟩), .slice bo n cb, .int .i64 0]) ∧ Wl B w' lg pb nm n D bo n cb ess ∧ Below B w w' := by
  subst hl
  refine (open_yes h nm D ess hE hn hs).mono ?_
  rintro e w' ⟨lg, bo, lb, cb, rfl, rfl, W, b⟩
  exact ⟨lg, bo, cb, rfl, W, b⟩

set_option maxRecDepth 100000 in
set_option maxHeartbeats 1000000 in
theorem known_any (w : World) : Calls Try.prog 14 #[] w fun e w' => e = .returned (.bool true) ∧ Below w.heap.size w w' := by
  have hfr := fresh_any w
  have e0 := open_new 16777216 w0 w0_ok
  have e1 := append_one 16777216 w0 [] (recL (batchL [entA])) 0 (by decide)
  have e2 := sync_one 16777216 w0 (rowB [[entA]]) 0
  have e3 := append_one 16777216 w0 (rowB [[entA]]) (recL (batchL [entB])) (rowB [[entA]]).length (by decide)
  obtain ⟨D5, e4, f5⟩ := known_pre
  have e1' : [] ++ recL (batchL [entA]) = rowB [[entA]] := by decide
  rw [e1'] at e1
  have f0 : (⟨16777216, [], 0, false⟩ : Dm).files.length ≤ 1000000 := by simp
  have f1 : (one 16777216 w0 [] 0 0 false).files.length ≤ 1000000 := by simp [one]
  have f2 : (one 16777216 w0 (rowB [[entA]]) 0 0 false).files.length ≤ 1000000 := by simp [one]
  have f3 : (one 16777216 w0 (rowB [[entA]]) (rowB [[entA]]).length 0 false).files.length ≤ 1000000 := by simp [one]
  have f4 : (one 16777216 w0 (rowB [[entA]] ++ recL (batchL [entB])) (rowB [[entA]]).length 0 false).files.length ≤ 1000000 := by simp [one]
  have f4' : ((one 16777216 w0 (rowB [[entA]] ++ recL (batchL [entB])) (rowB [[entA]]).length 0 false).crash 3).files.length ≤ 1000000 := by simp [one, Dm.crash]
  have mA : mayL [entA] = true ∧ (batchL [entA]).length ≤ 1000 := ⟨by decide, by decide⟩
  have mB : mayL [entB] = true ∧ (batchL [entB]).length ≤ 1000 := ⟨by decide, by decide⟩
  generalize (⟨16777216, [], 0, false⟩ : Dm) = D0 at e0 f0 hfr
  generalize (one 16777216 w0 [] 0 0 false) = D1 at e0 e1 f1
  generalize (one 16777216 w0 (rowB [[entA]]) 0 0 false) = D2 at e1 e2 f2
  generalize (one 16777216 w0 (rowB [[entA]]) (rowB [[entA]]).length 0 false) = D3 at e2 e3 f3
  generalize (one 16777216 w0 (rowB [[entA]] ++ recL (batchL [entB])) (rowB [[entA]]).length 0 false) = D4 at e3 e4 f4 f4'
  have g1 : ∀ (B : Nat) (V : World) (lg pb : Nat) (bo : Option Addr) (lb cb : Nat), Wl B V lg pb w0 0 D1 bo lb cb [] → Calls Try.prog 18 #[.pointer (some ⟨lg, 0, none⟩), .slice (some ⟨V.heap.size + 1, 0, none⟩) 1 1] ((V.alloc (.cells #[.int .u8 97] 5 (1, 2))).alloc (.cells #[.slice (some ⟨V.heap.size, 0, none⟩) 1 1, .slice none 0 0, .bool false] 24)) fun e w' => e = .returned (.int .i64 0) ∧ Wl B w' lg pb w0 1 D2 bo lb cb [] ∧ Below B V w' := fun B V lg pb bo lb cb h =>
    add_lit h #[.int .u8 97] (1, 2) [97] 1 rfl rfl (by omega) (by simp) mA D2 0 1 e1 rfl f1 (by omega)
  have g3 : ∀ (B : Nat) (V : World) (lg pb : Nat) (bo : Option Addr) (lb cb : Nat), Wl B V lg pb w0 1 D3 bo lb cb [] → Calls Try.prog 18 #[.pointer (some ⟨lg, 0, none⟩), .slice (some ⟨V.heap.size + 1, 0, none⟩) 1 1] ((V.alloc (.cells #[.int .u8 98] 5 (1, 2))).alloc (.cells #[.slice (some ⟨V.heap.size, 0, none⟩) 1 1, .slice none 0 0, .bool false] 24)) fun e w' => e = .returned (.int .i64 0) ∧ Wl B w' lg pb w0 2 D4 bo lb cb [] ∧ Below B V w' := fun B V lg pb bo lb cb h =>
    add_lit h #[.int .u8 98] (1, 2) [98] 1 rfl rfl (by omega) (by simp) mB D4 0 2 e3 rfl f3 (by omega)
  have hz := w0_size
  go_enter Try.func14, Try.ntmps14
  go_wp2_with (first
    | (go_at_call 10; with_reducible refine hfr.mono ?_; rintro e w1 ⟨rfl, d1, b1⟩)
    | (go_at_call 11; with_reducible refine (open_at d1 w0 D1 [] 0 rfl e0 f0 hz).mono ?_; rintro e w2 ⟨lg, bo, cb, rfl, W2, b2⟩; have cv := conv_a w2; have ga := g1 _ _ _ _ _ _ _ W2)
    | (go_at_call 18; with_reducible refine ga.mono ?_; rintro e w3 ⟨rfl, W3, b3⟩)
    | (go_at_call 19; with_reducible refine (lsync_l W3 D3 0 e2 f2).mono ?_; rintro e w4 ⟨rfl, W4, b4⟩; have cv2 := conv_b w4; have gb := g3 _ _ _ _ _ _ _ W4)
    | (go_at_call 18; with_reducible refine gb.mono ?_; rintro e w5 ⟨rfl, W5, b5⟩; have d5 := W5.dl)
    | (go_at_call 20; with_reducible refine (crash_l d5 3 f4 (by omega) (by omega)).mono ?_; rintro e w6 ⟨rfl, d6, b6⟩)
    | (go_at_call 11; with_reducible refine (open_at d6 w0 D5 [[entA]] 1 rfl e4 f4' hz).mono ?_; rintro e w7 ⟨lg7, bo7, cb7, rfl, W7, b7⟩; have G7 := W7.log)
    | (go_at_call 25; with_reducible refine (count_any _ _ _ _ w7 G7).mono ?_; rintro e w8 ⟨rfl, rfl⟩)
    | (go_at_call 37; with_reducible refine (name_any _ _ _ _ w7 G7).mono ?_; rintro e w9 ⟨rfl, rfl⟩))
  go_ret
  exact ⟨rfl, (((((b1.trans b2).trans b3).trans b4).trans b5).trans b6).trans b7⟩

end Go.Proofs.Ytkbhhidmndhnoaa
