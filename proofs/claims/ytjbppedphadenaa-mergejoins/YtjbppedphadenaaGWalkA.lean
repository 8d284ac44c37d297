/- The heads' own methods: Len, Less, Swap, Push, Pop. -/
import Derived.Test.YtjbppedphadenaaGMem
namespace Go.Proofs.Ytjbppedphadenaa
set_option maxRecDepth 100000
open Go.RowKit Go.Sort

theorem hlen_any (ao : Option Addr) (n cap : Nat) (w : World) : Calls Try.prog 51 #[.slice ao n cap] w fun e w' => e = .returned (.int .i64 n) ∧ w = w' := by
  go_enter Try.func51, Try.ntmps51
  go_wp2
  go_ret
  exact ⟨rfl, rfl⟩

set_option maxHeartbeats 4000000 in
theorem hless_any {w0 w : World} {S : List Nat} {hb : Nat} {v : Value} {hs : List Nd} (h : Hs w0 w S hb v hs) (i j : Nat) (x y : Nd) (hi : hs[i]? = some x) (hj : hs[j]? = some y) (sm : hs.length ≤ 1000000) :
    Calls Try.prog 52 #[v, .int .i64 i, .int .i64 j] w fun e w' => e = .returned (.bool (ndLess x y)) ∧ Below w.heap.size w w' := by
  have hil := (List.getElem?_eq_some_iff.1 hi).1
  have hjl := (List.getElem?_eq_some_iff.1 hj).1
  obtain ⟨g, cap, rfl, hle, htop, hc, _⟩ := h.at_ (by omega)
  unfold maxLen at htop
  have ci := hc i x hi
  have cj := hc j y hj
  unfold ptr at ci cj
  obtain ⟨ko, kl, kc, vo, vl, vc, X⟩ := h.node (List.mem_of_getElem? hi)
  obtain ⟨ko', kl', kc', vo', vl', vc', Y⟩ := h.node (List.mem_of_getElem? hj)
  have hiI : (i : Int) < hs.length := by omega
  have hjI : (j : Int) < hs.length := by omega
  have x0 := X.c0
  have x3 := X.c3
  have y0 := Y.c0
  have y3 := Y.c3
  obtain ⟨xb, hxb⟩ : ∃ b, b = x.b := ⟨_, rfl⟩
  obtain ⟨yb, hyb⟩ : ∃ b, b = y.b := ⟨_, rfl⟩
  obtain ⟨xa, hxa⟩ : ∃ b, b = x.age := ⟨_, rfl⟩
  obtain ⟨ya, hya⟩ : ∃ b, b = y.age := ⟨_, rfl⟩
  have tk := X.tk
  have tk' := Y.tk
  have sk := X.sk
  have sk' := Y.sk
  have hE : Hid (ndLess x y = if x.e.k = y.e.k then decide (xa < ya) else lessB x.e.k y.e.k) := by subst hxa; subst hya; rfl
  rw [← hxb] at ci x0 x3
  rw [← hyb] at cj y0 y3
  rw [← hxa] at x3
  rw [← hya] at y3
  generalize x.e.k = xk at tk hE
  generalize y.e.k = yk at tk' hE
  generalize ndLess x y = L at hE ⊢
  clear hc X Y hxb hyb hxa hya h hi hj
  have r1 := fun d os => cell_regrown ci d os
  have r2 := fun d os => cell_regrown cj d os
  go_enter Try.func52, Try.ntmps52
  go_wp2_with fail
  refine wp_region_quiet_below (by kernel_rfl) (by kernel_rfl) ?_
  repeat (go_big_quiet_step (fail))
  (with_reducible refine wpQuiet_nil ?_)
  intro _ hw'
  obtain ⟨⟨dq, osq⟩, hw''⟩ := hw'
  subst hw''
  have hb1 := below_regrown w dq osq
  clear r1 r2
  generalize grow (redrawn w dq) osq = V1 at hb1 ⊢
  go_wp2_with fail
  obtain ⟨F, hF⟩ : ∃ F, Hid ((xk == yk) = F) := ⟨_, rfl⟩
  have r1 := fun d os => cell_regrown (cell_later hb1 x0) d os
  have r2 := fun d os => cell_regrown (cell_later hb1 y0) d os
  have t1 := fun d os => (tk.later hb1).later (below_regrown V1 d os)
  have t2 := fun d os => (tk'.later hb1).later (below_regrown V1 d os)
  refine wp_region_quiet_below (by kernel_rfl) (by kernel_rfl) ?_
  repeat (go_big_quiet_step (first | (go_at_call 32; exact Calls.regrown_of ((bequal_any _ _ _ _ _ _ xk yk _ (t1 _ _) (t2 _ _) F hF.out).mono (by rintro e w' ⟨rfl, rfl⟩; exact ⟨rfl, Below.refl _ _⟩)))))
  (with_reducible refine wpQuiet_nil ?_)
  intro _ hw'
  obtain ⟨⟨dq, osq⟩, hw''⟩ := hw'
  subst hw''
  have hb2 := below_tr2 hb1 (below_regrown V1 dq osq)
  clear r1 r2 t1 t2
  generalize grow (redrawn V1 dq) osq = V2 at hb2 ⊢
  cases F with
  | true =>
    have hk : xk = yk := by simpa using hF.out
    rw [if_pos hk] at hE
    clear hF hk
    go_wp2_with fail
    have r1 := fun d os => cell_regrown (cell_later hb2 x3) d os
    have r2 := fun d os => cell_regrown (cell_later hb2 y3) d os
    refine wp_region_quiet_below (by kernel_rfl) (by kernel_rfl) ?_
    repeat (go_big_quiet_step (fail))
    (with_reducible refine wpQuiet_nil ?_)
    intro _ hw'
    obtain ⟨⟨dq, osq⟩, hw''⟩ := hw'
    subst hw''
    have hb3 := below_tr2 hb2 (below_regrown V2 dq osq)
    clear r1 r2
    generalize grow (redrawn V2 dq) osq = V3 at hb3 ⊢
    go_wp2
    go_ret
    exact ⟨ret_bool (by rw [hE.out]), hb3⟩
  | false =>
    have hk : ¬ xk = yk := by simpa using hF.out
    rw [if_neg hk] at hE
    clear hF hk
    go_wp2_with fail
    have r1 := fun d os => cell_regrown (cell_later hb2 x0) d os
    have r2 := fun d os => cell_regrown (cell_later hb2 y0) d os
    have t1 := fun d os => (tk.later hb2).later (below_regrown V2 d os)
    have t2 := fun d os => (tk'.later hb2).later (below_regrown V2 d os)
    refine wp_region_quiet_below (by kernel_rfl) (by kernel_rfl) ?_
    repeat (go_big_quiet_step (first | (go_at_call 21; exact Calls.regrown_of (less_any _ _ _ _ _ _ xk yk _ (t1 _ _) (t2 _ _) (by omega) (by omega)))))
    (with_reducible refine wpQuiet_nil ?_)
    intro _ hw'
    obtain ⟨⟨dq, osq⟩, hw''⟩ := hw'
    subst hw''
    have hb3 := below_tr2 hb2 (below_regrown V2 dq osq)
    clear r1 r2 t1 t2
    generalize grow (redrawn V2 dq) osq = V3 at hb3 ⊢
    go_wp2
    go_ret
    exact ⟨ret_bool (by rw [hE.out]), hb3⟩

set_option maxHeartbeats 4000000 in
theorem hswap_any {w0 w : World} {S : List Nat} {hb : Nat} {v : Value} {hs : List Nd} (h : Hs w0 w S hb v hs) (i j : Nat) (x y : Nd) (hi : hs[i]? = some x) (hj : hs[j]? = some y) (sm : hs.length ≤ 1000000) :
    Calls Try.prog 53 #[v, .int .i64 i, .int .i64 j] w fun e w' => e = .returned (.tuple #[]) ∧ Hs w0 w' S hb v (swapL hs i j x y) ∧ Off S w w' := by
  have hil := (List.getElem?_eq_some_iff.1 hi).1
  have hjl := (List.getElem?_eq_some_iff.1 hj).1
  obtain ⟨g, cap, rfl, hle, htop, hc, hz⟩ := h.at_ (by omega)
  unfold maxLen at htop
  have ci := hc i x hi
  have cj := hc j y hj
  have fin := h.set hi hj
  have zi := hz i
  have zj := hz j
  unfold ptr at ci cj fin
  generalize x.b = xb at ci fin
  generalize y.b = yb at cj fin
  have hiI : (i : Int) < hs.length := by omega
  have hjI : (j : Int) < hs.length := by omega
  have fin : ∀ m, Hs w0 (((w.setCell ⟨g, i, none⟩ (.pointer (some ⟨yb, 0, none⟩))).setCell ⟨g, j, none⟩ (.pointer (some ⟨xb, 0, none⟩))).drewN m) S hb (.slice (some ⟨g, 0, none⟩) hs.length cap) (swapL hs i j x y) ∧ Off S w (((w.setCell ⟨g, i, none⟩ (.pointer (some ⟨yb, 0, none⟩))).setCell ⟨g, j, none⟩ (.pointer (some ⟨xb, 0, none⟩))).drewN m) := fun m =>
    ⟨fin.1.later ⟨rfl, rfl, rfl, Nat.le_refl _, fun _ _ => rfl⟩, fin.2.drewN m⟩
  clear hc hz h hi hj
  by_cases hij : i = j
  · subst hij
    have e : yb = xb := by rw [ci] at cj; simpa using cj.symm
    subst e
    go_enter Try.func53, Try.ntmps53
    go_region
    go_wp2
    go_end0
    exact ⟨rfl, fin 1⟩
  · have hij2 : (⟨g, i, none⟩ : Addr) ≠ ⟨g, j, none⟩ := by simp
    have hji2 : (⟨g, j, none⟩ : Addr) ≠ ⟨g, i, none⟩ := fun e => hij2 e.symm
    go_enter Try.func53, Try.ntmps53
    go_region
    go_wp2
    go_end0
    exact ⟨rfl, fin 1⟩

/-- A row of plain values. -/
def RV : Reads Value := fun _ _ u e => u = [e] ∧ e.oneCell' = true
theorem RV.st : Stable RV := fun _ _ _ _ _ _ h _ _ => h
theorem RV.pl : Plain 1 RV := fun _ _ _ _ ⟨hu, h⟩ => by subst hu; exact ⟨rfl, by simpa using h⟩
theorem sing_flat : ∀ us : List Value, (us.map (fun e => [e])).flatten = us
  | [] => rfl
  | x :: us => by simp [sing_flat us]
theorem ls_of_row {w : World} {B : Nat} {v : Value} {T : Nat} {us : List Value} (h : w.ownsRow B T 1 v us.length us) (h1 : ∀ u ∈ us, u.oneCell' = true) : Ls T 1 RV w B v us := by
  refine ⟨us.map (fun e => [e]), by simp, by rw [sing_flat]; exact h, fun i u e hu he => ?_⟩
  rw [List.getElem?_map, he] at hu
  simp at hu
  exact ⟨hu.symm, h1 e (List.mem_of_getElem? he)⟩
theorem row_of_ls {w : World} {B : Nat} {v : Value} {T : Nat} {us : List Value} (h : Ls T 1 RV w B v us) : w.ownsRow B T 1 v us.length us := by
  obtain ⟨uu, hl, ho, hr⟩ := h
  have : uu.flatten = us := by
    have e : uu = us.map (fun e => [e]) := by
      apply List.ext_getElem?
      intro i
      rw [List.getElem?_map]
      cases hu : uu[i]? with
      | none =>
        have : us[i]? = none := by rw [List.getElem?_eq_none_iff] at hu ⊢; omega
        rw [this]; rfl
      | some u =>
        have hi := (List.getElem?_eq_some_iff.1 hu).1
        have he : us[i]? = some (us[i]'(by omega)) := by simp
        rw [he, (hr i u _ hu he).1]; rfl
    rw [e, sing_flat]
  rwa [this] at ho
theorem Try.info54 : (Try.prog.info? 54).map (fun i => (i.zero, i.size, i.bytes)) = some (some (.pointer none), 1, 8) := by kernel_rfl
theorem Hs.push {w0 w w' : World} {S : List Nat} {hb : Nat} {v : Value} {hs : List Nd} (h : Hs w0 w S hb v hs) (n : Nd) (hn : NdIn w n) (hk : NdOk w0 n) (fb : ∀ m ∈ hs, m.b ≠ n.b) (fr : ∀ m ∈ hs, m.r ≠ n.r) (lb : w0.heap.size ≤ n.b) (lr : w0.heap.size ≤ n.r)
    (v' : Value) (ho : Off (own v) w w') (hv : w'.ownsRow w0.heap.size 54 1 v' (hs.length + 1) (hs.map ptr ++ [ptr n])) (hsub : ∀ k ∈ own v', k ∈ own v ∨ w.heap.size ≤ k) :
    ∃ S', Hs w0 (w'.setCell ⟨hb, 0, none⟩ v') S' hb v' (hs ++ [n]) ∧ Off S w (w'.setCell ⟨hb, 0, none⟩ v') ∧ (∀ k ∈ S', k ∈ S ∨ k = n.b ∨ k = n.r ∨ w.heap.size ≤ k) := by
  have hvS : ∀ k ∈ own v, k ∈ S := h.inv
  have hcell := h.cell
  have hlt := heap_lt hcell
  have hown54 : ∀ k ∈ own v, ∃ cur, w.heap[k]? = some (.cells cur 54 (0, 0)) := fun k hk => by
    rcases h.row.2 with ⟨e, _⟩ | ⟨g, c, cur, e, _, hg, _⟩
    · subst e; simp [own, Value.ownBlock] at hk
    · subst e; simp [own, Value.ownBlock] at hk; subst hk; exact ⟨cur, hg⟩
  have hbv : hb ∉ own v := fun e => by
    obtain ⟨cur, hg⟩ := hown54 hb e
    rw [hcell] at hg; simp at hg
  have hcell' : w'.heap[hb]? = some (.cells #[v] 39 (0, 0)) := by rw [ho.block hb hlt hbv]; exact hcell
  have e1 := heap_setCell_same w' hb 0 #[v] 39 v' hcell'
  have hoth : ∀ k, k ≠ hb → (w'.setCell ⟨hb, 0, none⟩ v').heap[k]? = w'.heap[k]? := fun k hk => Below.heap_setCell _ _ _ _ hk
  have hoff : Off S w (w'.setCell ⟨hb, 0, none⟩ v') := (ho.mono hvS).setCell (p := ⟨hb, 0, none⟩) h.inb _
  have hin : ∀ m, NdIn w m → NdIn (w'.setCell ⟨hb, 0, none⟩ v') m := fun m hm => by
    have hmb : m.b ≠ hb ∧ m.b ∉ own v := ⟨fun e => by have := hm.head; rw [e, hcell] at this; simp at this, fun e => by
      obtain ⟨cur, hg⟩ := hown54 _ e
      have := hm.head; rw [hg] at this; simp at this⟩
    have hmr : m.r ≠ hb ∧ m.r ∉ own v := ⟨fun e => by have := hm.row; rw [e, hcell] at this; simp at this, fun e => by
      obtain ⟨cur, hg⟩ := hown54 _ e
      have := hm.row; rw [hg] at this; simp at this⟩
    exact ⟨by rw [hoth _ hmb.1, ho.block _ (heap_lt hm.head) hmb.2]; exact hm.head, by rw [hoth _ hmr.1, ho.block _ (heap_lt hm.row) hmr.2]; exact hm.row⟩
  refine ⟨S ++ (n.b :: n.r :: own v'), ⟨h.below.trans (hoff.below h.low h.below.size), ?_, ?_, fun m hm => ?_, ?_, ?_, by simp [h.inb], fun k hk => by simp [hk], fun m hm => ?_, fun k hk => ?_, fun k hk => ?_⟩, hoff, fun k hk => ?_⟩
  · simpa using e1
  · have hbv' : hb ∉ own v' := fun e => by
      rcases hsub _ e with e | e
      · exact hbv e
      · omega
    have := rows_offB hv ((Off.refl [hb] w').setCell (p := ⟨hb, 0, none⟩) (by simp) v') (fun k hk e => hbv' (by simp at e; exact e ▸ hk))
    simpa using this
  · rcases List.mem_append.1 hm with hm | hm
    · exact ⟨hin m (h.nodes m hm).1, (h.nodes m hm).2⟩
    · have : m = n := by simpa using hm
      subst this
      exact ⟨hin m hn, hk⟩
  · rw [List.map_append, List.nodup_append]
    refine ⟨h.nb, by simp, fun a ha b hb' => ?_⟩
    obtain ⟨m, hm, rfl⟩ := List.mem_map.1 ha
    have : b = n.b := by simpa using hb'
    subst this
    exact fb m hm
  · rw [List.map_append, List.nodup_append]
    refine ⟨h.nr, by simp, fun a ha b hb' => ?_⟩
    obtain ⟨m, hm, rfl⟩ := List.mem_map.1 ha
    have : b = n.r := by simpa using hb'
    subst this
    exact fr m hm
  · rcases List.mem_append.1 hm with hm | hm
    · exact ⟨by simp [(h.ins m hm).1], by simp [(h.ins m hm).2]⟩
    · have : m = n := by simpa using hm
      subst this
      exact ⟨by simp, by simp⟩
  · rcases List.mem_append.1 hk with hk | hk
    · exact h.low k hk
    · simp at hk
      rcases hk with rfl | rfl | hk
      · exact lb
      · exact lr
      · rcases hsub k hk with e | e
        · exact h.low k (hvS k e)
        · have := h.below.size; omega
  · have hsz : w.heap.size ≤ w'.heap.size := ho.size
    rw [World.size_setCell]
    rcases List.mem_append.1 hk with hk | hk
    · exact Nat.lt_of_lt_of_le (h.top k hk) hsz
    · simp at hk
      rcases hk with rfl | rfl | hk
      · exact Nat.lt_of_lt_of_le (heap_lt hn.head) hsz
      · exact Nat.lt_of_lt_of_le (heap_lt hn.row) hsz
      · exact (own_lt hv k hk).1
  · rcases List.mem_append.1 hk with hk | hk
    · exact .inl hk
    · simp at hk
      rcases hk with rfl | rfl | hk
      · exact .inr (.inl rfl)
      · exact .inr (.inr (.inl rfl))
      · rcases hsub k hk with e | e
        · exact .inl (hvS k e)
        · exact .inr (.inr (.inr e))
set_option maxHeartbeats 4000000 in
theorem hpush_any {w0 w : World} {S : List Nat} {hb : Nat} {v : Value} {hs : List Nd} (h : Hs w0 w S hb v hs) (n : Nd) (hn : NdIn w n) (hk : NdOk w0 n) (fb : ∀ m ∈ hs, m.b ≠ n.b) (fr : ∀ m ∈ hs, m.r ≠ n.r) (lb : w0.heap.size ≤ n.b) (lr : w0.heap.size ≤ n.r) (sm : hs.length ≤ 1000000) :
    Calls Try.prog 55 #[.pointer (some ⟨hb, 0, none⟩), .iface 54 (Value.pointer (some ⟨n.b, 0, none⟩))] w fun e w' => e = .returned (.tuple #[]) ∧ ∃ v' S', Hs w0 w' S' hb v' (hs ++ [n]) ∧ Off S w w' ∧ (∀ k ∈ S', k ∈ S ∨ k = n.b ∨ k = n.r ∨ w.heap.size ≤ k) := by
  obtain ⟨c0, z0⟩ := h.cell0
  have hta : ∀ (w : World), (Instr.typeAssert (.iface 54 (Value.pointer (some ⟨n.b, 0, none⟩))) 20 54 false).run Try.prog w = .ok (Value.pointer (some ⟨n.b, 0, none⟩)) w := fun _ => by kernel_rfl
  have hrow : Ls 54 1 RV w w0.heap.size v (hs.map ptr) := ls_of_row (by simpa using h.row) (fun u hu => by obtain ⟨m, _, rfl⟩ := List.mem_map.1 hu; rfl)
  have fin := fun (w5 : World) (v' : Value) (l : Nat) (e : l = (hs.map ptr).length + 1) (h1 : Ls 54 1 RV w5 w0.heap.size v' (hs.map ptr ++ [Value.pointer (some ⟨n.b, 0, none⟩)])) (ho : Off (own v) w w5) (hsub : ∀ k ∈ own v', k ∈ own v ∨ w.heap.size ≤ k) => h.push n hn hk fb fr lb lr v' ho (by have := row_of_ls h1; simpa [ptr] using this) hsub
  have hp1 : (Value.pointer (some ⟨n.b, 0, none⟩)).oneCell' = true := rfl
  have hlen : (hs.map ptr).length = hs.length := by simp
  have bA : Below w.heap.size w (w.alloc (.cells #[Value.pointer (some ⟨n.b, 0, none⟩)] 54)).drew := ((Below.refl _ _).alloc (Nat.le_refl _) _).drew
  have lsA : Ls 54 1 RV (w.alloc (.cells #[Value.pointer (some ⟨n.b, 0, none⟩)] 54)).drew w0.heap.size v (hs.map ptr) := hrow.later RV.st bA
  have hlt := World.block_lt_of_cell? _ _ c0
  have hbv : hb ∉ own v := fun e => by
    rcases h.row.2 with ⟨e', _⟩ | ⟨g, c, cur, e', _, hg, _⟩
    · subst e'; simp [own, Value.ownBlock] at e
    · subst e'; simp [own, Value.ownBlock] at e; subst e; have := h.cell; rw [hg] at this; simp at this
  have cA : (w.alloc (.cells #[Value.pointer (some ⟨n.b, 0, none⟩)] 54)).drew.cell? ⟨hb, 0, none⟩ = some v := cell_later bA c0
  have zA : (w.alloc (.cells #[Value.pointer (some ⟨n.b, 0, none⟩)] 54)).drew.frozen? ⟨hb, 0, none⟩ = false := by rw [World.frozen?_of_block (w := w) (bA.block hb hlt)]; exact z0
  have hu : ∀ j x, [Value.pointer (some ⟨n.b, 0, none⟩)][j]? = some x → (w.alloc (.cells #[Value.pointer (some ⟨n.b, 0, none⟩)] 54)).drew.cell? ((⟨w.heap.size, 0, none⟩ : Addr).add j) = some x := fun j x hx => lx_cell_one w (Value.pointer (some ⟨n.b, 0, none⟩)) 54 j x hx
  have keep : ∀ w5, Off (own v) (w.alloc (.cells #[Value.pointer (some ⟨n.b, 0, none⟩)] 54)).drew w5 → w5.cell? ⟨hb, 0, none⟩ = some v ∧ w5.frozen? ⟨hb, 0, none⟩ = false := fun w5 ho =>
    ⟨ho.cell cA hbv, by rw [World.frozen?_of_block (w := (w.alloc (.cells #[Value.pointer (some ⟨n.b, 0, none⟩)] 54)).drew) (ho.block hb (by have hlt' : hb < w.heap.size := hlt; simp; omega) hbv)]; exact zA⟩
  have fin2 : ∀ (w5 : World) (v' : Value) (l : Nat) (_ : l = (hs.map ptr).length + 1) (_ : Ls 54 1 RV w5 w0.heap.size v' (hs.map ptr ++ [Value.pointer (some ⟨n.b, 0, none⟩)])) (_ : Off (own v) (w.alloc (.cells #[Value.pointer (some ⟨n.b, 0, none⟩)] 54)).drew w5) (_ : ∀ k ∈ own v', k ∈ own v ∨ (w.alloc (.cells #[Value.pointer (some ⟨n.b, 0, none⟩)] 54)).drew.heap.size ≤ k),
      ∃ S', Hs w0 (w5.setCell ⟨hb, 0, none⟩ v') S' hb v' (hs ++ [n]) ∧ Off S w (w5.setCell ⟨hb, 0, none⟩ v') ∧ (∀ k ∈ S', k ∈ S ∨ k = n.b ∨ k = n.r ∨ w.heap.size ≤ k) := fun w5 v' l e h1 ho hsub =>
    fin w5 v' l e h1 ((Off.of_below bA).trans (ho.mono (by simp))) (fun k hk => (hsub k hk).imp id (fun h => by simp at h; omega))
  have hB : w0.heap.size ≤ (w.alloc (.cells #[Value.pointer (some ⟨n.b, 0, none⟩)] 54)).drew.heap.size := by have := h.below.size; simp; omega
  clear fin hrow bA cA zA hn fb fr lb lr hk
  generalize hs.map ptr = us at *
  go_enter Try.func55, Try.ntmps55
  go_region_law (refine step_one RV.st RV.pl Try.underlying39 Try.info54 rfl (by decide) (by decide) rfl (.tmp 7) (.tmp 10) rfl w0.heap.size v us rfl lsA ⟨w.heap.size, 0, none⟩ 1 [Value.pointer (some ⟨n.b, 0, none⟩)] (Value.pointer (some ⟨n.b, 0, none⟩)) rfl hu ⟨rfl, hp1⟩ (by omega) hB ?_; intro ao' n' cap' w5 hn' ls5 of5 sub5; have g1 := (keep _ of5).1; have g2 := (keep _ of5).2)
  all_goals go_wp2
  all_goals go_end0
  all_goals (have e := hn'; rw [hlen] at e; subst e; exact ⟨rfl, _, fin2 w5 _ _ hn' ls5 of5 sub5⟩)

theorem Hs.pop {w0 w : World} {S : List Nat} {hb : Nat} {g cap : Nat} {l : List Nd} {n : Nd} {q : Nat} (h : Hs w0 w S hb (.slice (some ⟨g, 0, none⟩) q cap) (l ++ [n])) :
    Hs w0 (w.setCell ⟨hb, 0, none⟩ (.slice (some ⟨g, 0, none⟩) l.length cap)) S hb (.slice (some ⟨g, 0, none⟩) l.length cap) l ∧ Off S w (w.setCell ⟨hb, 0, none⟩ (.slice (some ⟨g, 0, none⟩) l.length cap)) := by
  have hoff : Off S w (w.setCell ⟨hb, 0, none⟩ (.slice (some ⟨g, 0, none⟩) l.length cap)) := (Off.refl S w).setCell (p := ⟨hb, 0, none⟩) h.inb _
  have e1 := heap_setCell_same w hb 0 _ 39 (.slice (some ⟨g, 0, none⟩) l.length cap) h.cell
  have hoth : ∀ k, k ≠ hb → (w.setCell ⟨hb, 0, none⟩ (.slice (some ⟨g, 0, none⟩) l.length cap)).heap[k]? = w.heap[k]? := fun k hk => Below.heap_setCell _ _ _ _ hk
  obtain ⟨hl, h4⟩ := h.row
  have hcell := h.cell
  rcases h4 with ⟨h', hn⟩ | ⟨g', c, cur, h', hb', hg, hn, hm, hs', ht⟩
  · simp at hn
  · simp only [Value.slice.injEq, Option.some.injEq, Addr.mk.injEq, and_true] at h'
    obtain ⟨rfl, rfl, rfl⟩ := h'
    have hgb : g ≠ hb := fun e => by rw [← e, hg] at hcell; simp at hcell
    refine ⟨⟨h.below.trans (hoff.below h.low h.below.size), by simpa using e1, ⟨by simp, .inr ⟨g, cap, cur, rfl, hb', by rw [hoth g hgb]; exact hg, by simp at hn; omega, hm, hs', ?_⟩⟩, fun m hm' => ?_, ?_, ?_, h.inb, fun k hk => h.inv k (by simpa [own, Value.ownBlock] using hk), fun m hm' => h.ins m (by simp [hm']), h.low, fun k hk => Nat.lt_of_lt_of_le (h.top k hk) hoff.size⟩, hoff⟩
    · have e : cur.toList.take (l.length * 1) = (cur.toList.take ((l ++ [n]).length * 1)).take (l.length * 1) := by rw [List.take_take]; congr 1; simp
      rw [e, ht]; simp
    · have hmm := h.nodes m (by simp [hm'])
      have h1 := hmm.1.head
      have h2 := hmm.1.row
      exact ⟨⟨by rw [hoth _ (fun e => by rw [e, hcell] at h1; simp at h1)]; exact h1, by rw [hoth _ (fun e => by rw [e, hcell] at h2; simp at h2)]; exact h2⟩, hmm.2⟩
    · have := h.nb
      rw [List.map_append, List.nodup_append] at this
      exact this.1
    · have := h.nr
      rw [List.map_append, List.nodup_append] at this
      exact this.1
set_option maxHeartbeats 4000000 in
theorem hpop_any {w0 w : World} {S : List Nat} {hb : Nat} {v : Value} {l : List Nd} {n : Nd} (h : Hs w0 w S hb v (l ++ [n])) (sm : l.length ≤ 1000000) :
    Calls Try.prog 54 #[.pointer (some ⟨hb, 0, none⟩)] w fun e w' => e = .returned (.iface 54 (ptr n)) ∧ ∃ v', Hs w0 w' S hb v' l ∧ Off S w w' := by
  obtain ⟨c0, z0⟩ := h.cell0
  have hlen : (l ++ [n]).length = l.length + 1 := by simp
  obtain ⟨g, cap, rfl, hle, htop, hc, _⟩ := h.at_ (by omega)
  unfold maxLen at htop
  have cn := hc l.length n (by simp)
  have fin := h.pop
  rw [hlen] at c0 hle
  unfold ptr at cn ⊢
  generalize n.b = nb at *
  clear hc h hlen
  go_enter Try.func54, Try.ntmps54
  go_wp2
  go_ret
  exact ⟨rfl, _, fin⟩
end Go.Proofs.Ytjbppedphadenaa
