/- The walk of the document's All. -/
import Derived.Test.YteeemfohehpaeaaBRefD
import Derived.Test.YteeemfohehpaeaaBWalksG
import Derived.Test.YteeemfohehpaeaaBRefA
import Derived.Test.YteeemfohehpaeaaBRefC
namespace Go.Proofs.Yteeemfohehpaeaa
open Go.RowKit Go.Sort

/-- An entry more. -/
theorem rr_step {w wr V w5 : World} {r0 r r' : List Int} {bo : Option Addr} {m cb : Nat} {es : List Ent} {en : Ent} {o : Obj} {ao5 : Option Addr} {n5 c5 : Nat} (hE : RR w wr r0 bo m cb es) (hm : m < 256) (hcame : CameR r0 m es r) (hr : 0 < r.length) (hp : parseB true (lastK [] es) r = some (en, r')) (_hV : wr.heap.size ≤ V.heap.size) (st : St w V w.heap.size false r')
    (hls5 : Ls 25 3 (REx [w.heap.size]) w5 (w.heap.size + 1) (.slice ao5 n5 c5) (es ++ [en])) (hn5 : n5 = m + 1) (ho : Off (own (.slice bo m cb)) (V.alloc o) w5) : RR w w5 r0 ao5 n5 c5 (es ++ [en]) := by
  subst hn5
  refine ⟨hls5, ⟨r', (st.later ((Below.refl _ _).alloc (Nat.le_refl _) o)).off ho (fun hq => ?_) (fun q hq => ?_), hcame.step hm hr hp⟩⟩
  · have := (hE.ls.lt _ hq).2; omega
  · have := (hE.ls.lt q hq).2; omega

/-- What is left of an entry's reading behind its Key. -/
def tailP (p : List Int) (s : Nat) (t r3 : List Int) : Option (Ent × List Int) :=
  match numB 1 num1 r3 with
  | none => none
  | some (kd, r4) =>
    if kd = 0 then some (⟨p.take s ++ t, [], true⟩, r4)
    else if true = true ∧ 1 < kd then none
    else
      match numB 2 num2 r4 with
      | none => none
      | some (vl, r5) =>
        match takeT vl.toNat r5 with
        | none => none
        | some (v, r6) => some (⟨p.take s ++ t, v, false⟩, r6)
theorem parse_link {p r r1 r2 r3 t : List Int} {s : Nat} {v2 : Int} {bad2 bad3 : Bool} (p1 : numB 1 num1 r = some ((s : Int), r1)) (hs : s ≤ p.length) (L2 : (bad2 = false ∧ numB 1 num1 r1 = some (v2, r2)) ∨ (bad2 = true ∧ numB 1 num1 r1 = none)) (L3 : (bad2 = false ∧ bad3 = false ∧ takeT v2.toNat r2 = some (t, r3)) ∨ (bad3 = true ∧ (bad2 = true ∨ takeT v2.toNat r2 = none))) :
    (bad3 = true ∧ parseB true p r = none) ∨ (bad3 = false ∧ parseB true p r = tailP p s t r3) := by
  have hs2 : ¬ (p.length : Int) < (s : Int) := by omega
  rcases L2 with ⟨rfl, p2⟩ | ⟨rfl, h2⟩
  · rcases L3 with ⟨_, h3, p3⟩ | ⟨h3, h4⟩
    · refine .inr ⟨h3, ?_⟩
      simp only [parseB, p1, p2, p3, if_neg hs2, Int.toNat_natCast]
      cases h : numB 1 num1 r3 with
      | none => simp [tailP, h]
      | some q =>
        obtain ⟨kd, r4⟩ := q
        by_cases h0 : kd = 0
        · simp [tailP, h, h0]
        · by_cases h1 : 1 < kd
          · simp [tailP, h, h0, h1]
          · cases h2 : numB 2 num2 r4 with
            | none => simp [tailP, h, h0, h1, h2]
            | some q2 =>
              obtain ⟨vl, r5⟩ := q2
              cases h3' : takeT vl.toNat r5 <;> simp [tailP, h, h0, h1, h2, h3']
    · refine .inl ⟨h3, ?_⟩
      rcases h4 with h4 | h4
      · cases h4
      · simp only [parseB, p1, p2, h4, if_neg hs2]
  · rcases L3 with ⟨h3, _⟩ | ⟨h3, _⟩
    · cases h3
    · exact .inl ⟨h3, by simp only [parseB, p1, h2, if_neg hs2]⟩
theorem tailP_none {p t r3 : List Int} {s : Nat} (h : numB 1 num1 r3 = none) : tailP p s t r3 = none := by simp [tailP, h]
theorem tailP_0 {p t r3 r5 : List Int} {s : Nat} (h : numB 1 num1 r3 = some (0, r5)) : tailP p s t r3 = some (⟨p.take s ++ t, [], true⟩, r5) := by simp [tailP, h]
theorem tailP_big {p t r3 r5 : List Int} {s : Nat} {v : Int} (h : numB 1 num1 r3 = some (v, r5)) (h0 : ¬ v = 0) (h1 : 1 < v) : tailP p s t r3 = none := by simp [tailP, h, h0, h1]
theorem tailP_1a {p t r3 r5 : List Int} {s : Nat} (h : numB 1 num1 r3 = some (1, r5)) (h6 : numB 2 num2 r5 = none) : tailP p s t r3 = none := by simp [tailP, h, h6]
theorem tailP_1b {p t r3 r5 r6 : List Int} {s : Nat} {v : Int} (h : numB 1 num1 r3 = some (1, r5)) (h6 : numB 2 num2 r5 = some (v, r6)) (h7 : takeT v.toNat r6 = none) : tailP p s t r3 = none := by simp [tailP, h, h6, h7]
theorem tailP_1c {p t r3 r5 r6 r7 u : List Int} {s : Nat} {v : Int} (h : numB 1 num1 r3 = some (1, r5)) (h6 : numB 2 num2 r5 = some (v, r6)) (h7 : takeT v.toNat r6 = some (u, r7)) : tailP p s t r3 = some (⟨p.take s ++ t, u, false⟩, r7) := by simp [tailP, h, h6, h7]

theorem last_getD (es : List Ent) (e : Ent) (n : Nat) (h : es.length = n + 1) (he : es[n]? = some e) : lastK [] es = e.k := by
  have := lastK_take es n e he
  rwa [List.take_of_length_le (by omega)] at this

set_option maxHeartbeats 16000000 in
set_option maxRecDepth 100000 in
theorem rall_any (ao : Option Addr) (la ca : Nat) (xs : List Int) (w : World) (ha : Tx w ao la ca xs) (sa : la ≤ 900000000) :
    Calls Try.prog 29 #[.slice ao la ca] w fun e w' => RAll w xs e w' := by
  have hl := ha.len_eq
  have hle := ha.le
  have htop := ha.top
  unfold maxLen at htop
  by_cases h0 : la < 1
  · have hp : rallB xs = none := by
      have : partsL xs = none := by rw [partsL, if_pos (.inl (by omega))]
      simp only [rallB, this]
    go_enter Try.func29, Try.ntmps29
    go_wp2
    go_ret2
    exact rall_no hp (Below.refl _ _)
  · obtain ⟨b, off, rfl, hc⟩ := ha.head (by omega)
    have hby : Bytes xs := ha.rng
    have hbn := getD_byte hby (la - 1)
    have hcl := hc (la - 1) (by omega)
    have hln : lastN xs = (xs.getD (la - 1) 0).toNat := by unfold lastN; rw [hl]
    obtain ⟨n, hn⟩ : ∃ n : Nat, xs.getD (la - 1) 0 = (n : Int) := ⟨(xs.getD (la - 1) 0).toNat, by omega⟩
    rw [hn] at hcl hbn hln
    have hln : Hid (lastN xs = n) := by show _ = _; rw [hln]; omega
    clear hn
    have hsub : (la : Int) - 1 = ((la - 1 : Nat) : Int) := by omega
    by_cases hbad : n < 1 ∨ la - 1 < 2 * n
    · have hp : rallB xs = none := by
        unfold rallB
        split
        · rfl
        · rename_i a b' hpp
          unfold partsL at hpp
          rw [hln.out, hl] at hpp
          rw [hln.out]
          split at hpp
          · cases hpp
          · rw [if_pos (by omega)]
      have hcs : n < 1 ∨ (¬ n < 1 ∧ (la : Int) - 1 - 2 * (n : Int) < 0) := by omega
      rcases hcs with h1 | ⟨h1, h2⟩
      · obtain rfl : n = 0 := by omega
        go_enter Try.func29, Try.ntmps29
        go_wp2
        go_ret2
        exact rall_no hp (Below.refl _ _)
      · have h2' : ((la - 1 : Nat) : Int) - 2 * (n : Int) < 0 := by omega
        go_enter Try.func29, Try.ntmps29
        go_wp2
        go_ret2
        exact rall_no hp (Below.refl _ _)
    · obtain ⟨q, hq⟩ : ∃ q : Nat, Hid (q = la - 1 - 2 * n) := ⟨_, rfl⟩
      have hq' := hq.out
      have hqi : ((la - 1 : Nat) : Int) - 2 * (n : Int) = (q : Int) := by omega
      have hpart : partsL xs = some (xs.take q, (xs.drop q).take (2 * n)) := by
        have e1 : la - 1 - 2 * n = q := hq'.symm
        simp only [partsL, hln.out, hl, e1]
        rw [if_neg (by omega)]
      have hpar : Hid (rallB xs = match rreadB 256 [] (xs.take q) with | none => none | some l => if validB l xs = true then some l else none) := by
        show _ = _
        simp only [rallB, hpart, hln.out]
        rw [if_neg (by omega)]
        cases rreadB 256 [] (xs.take q) <;> rfl
      have t0 := ha.take q (by omega)
      have R0 := Rf.new w _ q ca _ t0
      have hqc : q ≤ ca := by omega
      have hn1 : ¬ (n : Int) < 1 := by omega
      have hq0 : ¬ (q : Int) < 0 := by omega
      clear hpart
      generalize xs.take q = r0 at R0 hpar t0
      have S0 : St w _ w.heap.size false r0 := ⟨⟨_, _, _, R0, by omega, fun _ => ⟨b, off, rfl⟩⟩, fun h => by cases h⟩
      have hstart : RR w (w.alloc (.cells #[.slice (some ⟨b, off, none⟩) q ca, .bool false] 87)) r0 none 0 0 [] := ⟨Ls.nil _ _ _ _ _, ⟨r0, S0, CameR.start r0⟩⟩
      clear S0 R0 hq hq'
      go_enter Try.func29, Try.ntmps29
      go_wp2
      generalize w.alloc (.cells #[.slice (some ⟨b, off, none⟩) q ca, .bool false] 87) = V0 at hstart ⊢
      go_loopw [7, 8, 9, 10, 12] (fun s7 _ _ _ _ V => ∃ (m : Nat) (bo : Option Addr) (cb : Nat) (es : List Ent), s7 = .slice bo m cb ∧ RR w V r0 bo m cb es) (fun s7 _ _ _ _ _ => 257 - sliceLen s7)
      case atStart => exact ⟨0, none, 0, [], rfl, hstart⟩
      case round =>
        obtain ⟨m, bo, cb, es, rfl, hE⟩ := hrel
        obtain ⟨r, S1, hcame⟩ := hE.rd
        have hes := hcame.2.1
        have hm9 := hcame.1
        obtain ⟨ro, rl, rc, Rk, srl, hro⟩ := S1.rf
        have k0 := Rk.c0
        have hrl := Rk.tx.len_eq
        have hB := S1.bel
        by_cases hgo : 0 < rl ∧ m < 256
        · obtain ⟨g1, g2⟩ := hgo
          have hr0 : 0 < r.length := by omega
          have g1i : (0 : Int) < rl := by omega
          have g2i : (m : Int) < 256 := by omega
          clear k0
          have n1 := num_st w wr w.heap.size false r 1 1 rfl (by omega) (by omega) num1 255 (by omega) (by omega) (num1_get r) (fun hb => num1_rng hb) S1
          obtain ⟨k0⟩ : PLift (wr.cell? ⟨w.heap.size, 0, none⟩ = some (.slice ro rl rc)) := ⟨Rk.c0⟩
          go_wp2_with fail
          with_reducible refine n1.mono ?_
          clear n1 k0
          rintro e1 V1 ⟨v1, bad1, r1, rfl, v10, v19, S2, O1, L1⟩
          have L1 : bad1 = false ∧ numB 1 num1 r = some (v1, r1) := by
            rcases L1 with ⟨_, h1, h2⟩ | ⟨_, h1 | h1⟩
            · exact ⟨h1, h2⟩
            · cases h1
            · rw [numB, if_neg (by omega)] at h1; cases h1
          obtain ⟨rfl, p1⟩ := L1
          have n2 := num_st w V1 w.heap.size false r1 1 1 rfl (by omega) (by omega) num1 255 (by omega) (by omega) (num1_get r1) (fun hb => num1_rng hb) S2
          go_wp2_with fail
          with_reducible refine n2.mono ?_
          clear n2
          rintro e2 V2 ⟨v2, bad2, r2, rfl, v20, v29, S3, O2, L2⟩
          have L2 : (bad2 = false ∧ numB 1 num1 r1 = some (v2, r2)) ∨ (bad2 = true ∧ numB 1 num1 r1 = none) := by
            rcases L2 with ⟨_, h1, h2⟩ | ⟨h1, h2 | h2⟩
            · exact .inl ⟨h1, h2⟩
            · cases h2
            · exact .inr ⟨h1, h2⟩
          replace O2 := O1.trans O2
          have hwr : w.heap.size < wr.heap.size := S1.lt
          have L2x : Ls 25 3 (REx [w.heap.size]) V2 (w.heap.size + 1) (.slice bo m cb) es := hE.ls.offX O2 (fun q' hq' => by have := (hE.ls.lt q' hq').2; simp; omega)
          have hB2 := S3.bel
          obtain ⟨s, rfl⟩ : ∃ s : Nat, v1 = (s : Int) := ⟨v1.toNat, by omega⟩
          have hnone : parseB true (lastK [] es) r = none → Hid (rallB xs = none) := fun hp => by
            show _ = _
            rw [hpar.out, hcame.no g2 hr0 hp]
          have n3 := some_st w V2 w.heap.size bad2 r2 v2 v20 (by omega) S3
          -- the Key's beginning
          have hkey : (s = 0 ∧ (lastK [] es).take s = []) ∨ (0 < s ∧ (lastK [] es).length < s) ∨ (0 < s ∧ s ≤ (lastK [] es).length) := by
            by_cases h : s = 0
            · exact .inl ⟨h, by rw [h]; rfl⟩
            · omega
          rcases hkey with ⟨rfl, hps⟩ | ⟨hs0, hs1⟩ | ⟨hs0, hs1⟩
          · have hlast : Hid (¬ ((lastK [] es).length : Int) < ((0 : Nat) : Int)) := by show ¬ _; omega
            go_wp2_with fail
            with_reducible refine n3.mono ?_
            clear n3
            rintro e3 V3 ⟨t, to, tl, tc, bad3, r3, rfl, tt, htl, ft, S3b, O3, L3⟩
            have O3w := O2.trans O3
            obtain ⟨s, hs⟩ : ∃ s : Nat, Hid (s = 0) := ⟨0, rfl⟩
            have hs' := hs.out
            rw [← hs'] at p1 hps
            have hslen : s ≤ (lastK [] es).length := by omega
            have hs255 : s ≤ 255 := by omega
            clear hs'
            go_wp2_with (with_reducible show wpList _ _ _ (⟨some 87, _, _, _, _, _⟩ :: _) _ _; refine wpList_gr rfl _ _ rfl V3.heap.size none 0 0 [] rfl (Gr.nil V3) to tl tc t rfl tt (by omega) ?_; intro ka kn kcap V4 hn4 g4 m4; have b34 := m4.below (Gr.nil V3))
            have tkey : Tx V4 ka kn kcap ((lastK [] es).take s ++ t) := by rw [hps]; exact g4.tx
            have fkey : ∀ ad, ka = some ad → 0 < kn → wr.heap.size ≤ ad.block := fun ad ha' h0' => by have h5 := (g4.lt ad.block (by subst ha'; simp [own, Value.ownBlock])).2; have h6 := O3w.size; omega
            have S4 := S3b.later b34
            have O4 : Off [w.heap.size] wr V4 := O3w.trans (.of_below b34)
            have hn3x : True := trivial
            clear hn4 g4 hps hs S3b
            have tt := tt.later b34
            have hkn : kn ≤ 400000 := by have h1 := tkey.len_eq; have h2 := tt.len_eq; rw [List.length_append, List.length_take] at h1; omega
            have bx := Boxf.new' V4 (.slice ka kn kcap) (.slice none 0 0) false
            have bA : Below V4.heap.size V4 (V4.alloc (.cells #[.slice ka kn kcap, .slice none 0 0, .bool false] 25)) := (Below.refl _ _).alloc (Nat.le_refl _) _
            have S5 := S4.later bA
            have n5 := num_st w _ w.heap.size bad3 r3 1 1 rfl (by omega) (by omega) num1 255 (by omega) (by omega) (num1_get r3) (fun hb => num1_rng hb) S5
            have hzb : w.heap.size < V4.heap.size := S4.lt
            have hzw : wr.heap.size ≤ V4.heap.size := O4.size
            go_wp2_with fail
            generalize V4.alloc (.cells #[.slice ka kn kcap, .slice none 0 0, .bool false] 25) = V5 at bx bA S5 n5 ⊢
            with_reducible refine n5.mono ?_
            clear n5
            rintro e5 V6 ⟨v5, bad5, r5, rfl, v50, v59, S6, O6, L5⟩
            have hnb : V4.heap.size ∉ [w.heap.size] := by simp; omega
            have bx6 := bx.off O6 hnb
            have hfk : ∀ ad, ka = some ad → 0 < kn → ad.block ∉ [w.heap.size] := fun ad ha' h0' hq => by have := fkey ad ha' h0'; simp at hq; omega
            have hfk2 : ∀ ad, ka = some ad → 0 < kn → ad.block ∉ [V4.heap.size] := fun ad ha' h0' hq => by have := tkey.lt ad ha' h0'; simp at hq; omega
            have tk6 := (tkey.later bA).off O6 hfk
            have Owr : Off [w.heap.size] wr V6 := (O4.trans (.of_below bA)).trans O6
            have hsz6 : V4.heap.size < V6.heap.size := bx6.lt
            have L6 : Ls 25 3 (REx [w.heap.size]) V6 (w.heap.size + 1) (.slice bo m cb) es := hE.ls.offX Owr (fun q' hq' => by have := (hE.ls.lt q' hq').2; simp; omega)
            have hown : ∀ q' ∈ own (.slice bo m cb), q' < wr.heap.size := fun q' hq' => (hE.ls.lt q' hq').1
            have hnX : ∀ q', wr.heap.size ≤ q' → q' ∉ own (.slice bo m cb) ++ [w.heap.size] := fun q' hq' hk => by
              rcases List.mem_append.1 hk with hk | hk
              · have := hown q' hk; omega
              · simp at hk; omega
            have x2 := bx6.c2
            have z2 := bx6.z 2
            have Lset : ∀ (V : World) (i : Nat) (u : Value), Ls 25 3 (REx [w.heap.size]) V (w.heap.size + 1) (.slice bo m cb) es → (∀ q' ∈ own (.slice bo m cb), q' ≠ V4.heap.size) := fun V i u h q' hq' => by have := hown q' hq'; omega
            clear Lset
            have hplain : ∀ V, Off [w.heap.size, V4.heap.size] wr V → Ls 25 3 (REx [w.heap.size]) V (w.heap.size + 1) (.slice bo m cb) es := fun V ho => by
              obtain ⟨us, h1, h2, h3⟩ := hE.ls
              refine ⟨us, h1, rows_offB h2 ho (fun q' hq' hk => ?_), fun i' u e' hu he => ?_⟩
              · have h5 := hE.ls.lt q' hq'; simp at hk; omega
              · obtain ⟨k', v', hu', a1, a2⟩ := h3 i' u e' hu he
                have hlow : ∀ (val : Value) (ys : List Int), BytesAt wr (own (.slice bo m cb) ++ [w.heap.size]) val ys → BytesAt V (own (.slice bo m cb) ++ [w.heap.size]) val ys := fun val ys hbt => by
                  obtain ⟨o1, l1, c1, rfl, t1, nn⟩ := hbt
                  exact ⟨o1, l1, c1, rfl, t1.off ho (fun ad ha' h0' hk => by have h6 := t1.lt ad ha' h0'; have h7 := nn ad ha' h0'; simp at hk h7; omega), nn⟩
                exact ⟨k', v', hu', hlow _ _ a1, hlow _ _ a2⟩
            have hOb : ∀ (V : World), Off [w.heap.size, V4.heap.size] wr V → w.heap.size + 1 ≤ V.heap.size := fun V ho => by have := ho.size; omega
            have Owr2 : Off [w.heap.size, V4.heap.size] wr V6 := Owr.mono (by simp)
            have hlk := parse_link p1 hslen L2 L3
            clear L2 L3
            by_cases hv0 : v5 = 0
            · subst hv0
              have ST7 : St w (V6.setCell ⟨V4.heap.size, 2, none⟩ (.bool true)) w.heap.size bad5 r5 := S6.off ((Off.refl [V4.heap.size] V6).setCell (p := ⟨V4.heap.size, 2, none⟩) (by simp) _) (by simp; omega) (by simp; omega)
              have O7 : Off [w.heap.size, V4.heap.size] wr (V6.setCell ⟨V4.heap.size, 2, none⟩ (.bool true)) := Owr2.setCell (p := ⟨V4.heap.size, 2, none⟩) (by simp) _
              have cb7 := ST7.bad
              have hb7 := ST7.bel
              have tk7 : Tx (V6.setCell ⟨V4.heap.size, 2, none⟩ (.bool true)) ka kn kcap _ := tk6.off ((Off.refl [V4.heap.size] V6).setCell (p := ⟨V4.heap.size, 2, none⟩) (by simp) _) hfk2
              have bx7 : Box (V6.setCell ⟨V4.heap.size, 2, none⟩ (.bool true)) V4.heap.size (.slice ka kn kcap) (.slice none 0 0) true := ⟨by rw [World.cell?_setCell_other _ _ _ _ (by simp)]; exact bx6.c0, by rw [World.cell?_setCell_other _ _ _ _ (by simp)]; exact bx6.c1, World.cell?_setCell_same _ _ _ x2⟩
              have L7 := hplain _ O7
              cases bad5 with
              | true =>
                have hno := hnone (by
                  rcases hlk with ⟨_, h⟩ | ⟨hb3, h⟩
                  · exact h
                  · rcases L5 with ⟨_, h2, _⟩ | ⟨_, h1 | h1⟩
                    · cases h2
                    · rw [hb3] at h1; cases h1
                    · rw [h]; exact tailP_none h1)
                go_wp2
                go_ret2
                exact rall_no hno.out hb7
              | false =>
                have hpe : parseB true (lastK [] es) r = some (⟨(lastK [] es).take s ++ t, [], true⟩, r5) := by
                  rcases L5 with ⟨h1, _, h3⟩ | ⟨h1, _⟩
                  · rcases hlk with ⟨hb3, _⟩ | ⟨_, h⟩
                    · rw [h1] at hb3; cases hb3
                    · rw [h]; exact tailP_0 h3
                  · cases h1
                have HR : REx [w.heap.size] ((V6.setCell ⟨V4.heap.size, 2, none⟩ (.bool true)).alloc (.cells #[.slice ka kn kcap, .slice none 0 0, .bool true] 25)) (own (.slice bo m cb)) [.slice ka kn kcap, .slice none 0 0, .bool true] ⟨(lastK [] es).take s ++ t, [], true⟩ := ⟨_, _, rfl, (tk7.alloc _).at _ (fun ad ha' h0' => hnX _ (fkey ad ha' h0')), ((Tx.nil _).alloc _).at _ (fun ad ha' h0' => by cases ha')⟩
                have hVZ : wr.heap.size ≤ (V6.setCell ⟨V4.heap.size, 2, none⟩ (.bool true)).heap.size := O7.size
                clear L5 hlk
                have q0 := bx7.c0
                have q1 := bx7.c1
                have q2 := bx7.c2
                have HL := L7.later (REx.st _) ((Below.refl (V6.setCell ⟨V4.heap.size, 2, none⟩ (.bool true)).heap.size (V6.setCell ⟨V4.heap.size, 2, none⟩ (.bool true))).alloc (Nat.le_refl _) (.cells #[.slice ka kn kcap, .slice none 0 0, .bool true] 25))
                have hst9 := fun (w5 : World) (ao5 : Option Addr) (n5 c5 : Nat) => rr_step (w5 := w5) (ao5 := ao5) (n5 := n5) (c5 := c5) (o := .cells #[.slice ka kn kcap, .slice none 0 0, .bool true] 25) hE g2 hcame hr0 hpe hVZ ST7
                have hm8 : es.length ≤ 1000000000 := by omega
                have hw8 : w.heap.size + 1 ≤ ((V6.setCell ⟨V4.heap.size, 2, none⟩ (.bool true)).alloc (.cells #[.slice ka kn kcap, .slice none 0 0, .bool true] 25)).heap.size := by have h1 := hVZ; have h2 : (V6.setCell ⟨V4.heap.size, 2, none⟩ (.bool true)).heap.size ≤ ((V6.setCell ⟨V4.heap.size, 2, none⟩ (.bool true)).alloc (.cells #[.slice ka kn kcap, .slice none 0 0, .bool true] 25)).heap.size := (by simp); omega
                go_wp2_with (with_reducible show wpList _ _ _ (⟨some 113, _, _, _, _, _⟩ :: _) _ _; refine wpList_one (REx.st _) (REx.pl _) Try.underlying22 Try.info25 rfl (by omega) (by omega) rfl _ _ rfl (w.heap.size + 1) (.slice bo m cb) es rfl HL ⟨V6.heap.size, 0, none⟩ 1 [.slice ka kn kcap, .slice none 0 0, .bool true] _ rfl (cells3_at (V6.setCell ⟨V4.heap.size, 2, none⟩ (.bool true)) V6.heap.size (by simp [World.setCell]) _ _ _) HR hm8 hw8 ?_; intro ao5 n5 c5 w5 hn5 hls5 hof5 hsub5; have hn6 : n5 = m + 1 := (by omega); clear hn5; have hr5 := hst9 w5 ao5 n5 c5 hls5 hn6 hof5; subst hn6)
                go_roundw
                case rel => exact ⟨m + 1, ao5, c5, _, rfl, hr5⟩
                case measure => simp [sliceLen]; omega
            · have hv0b : (v5 == 0) = false := by simp [hv0]
              have ST7 : St w (V6.setCell ⟨V4.heap.size, 2, none⟩ (.bool false)) w.heap.size bad5 r5 := S6.off ((Off.refl [V4.heap.size] V6).setCell (p := ⟨V4.heap.size, 2, none⟩) (by simp) _) (by simp; omega) (by simp; omega)
              have O7 : Off [w.heap.size, V4.heap.size] wr (V6.setCell ⟨V4.heap.size, 2, none⟩ (.bool false)) := Owr2.setCell (p := ⟨V4.heap.size, 2, none⟩) (by simp) _
              have cb7 := ST7.bad
              have hb7 := ST7.bel
              by_cases hv1 : v5 = 1
              · subst hv1
                have bx7 : Boxf (V6.setCell ⟨V4.heap.size, 2, none⟩ (.bool false)) V4.heap.size (.slice ka kn kcap) (.slice none 0 0) false := ⟨by rw [World.cell?_setCell_other _ _ _ _ (by simp)]; exact bx6.c0, by rw [World.cell?_setCell_other _ _ _ _ (by simp)]; exact bx6.c1, World.cell?_setCell_same _ _ _ x2, fun j => by simpa using bx6.z j⟩
                have tk7 : Tx (V6.setCell ⟨V4.heap.size, 2, none⟩ (.bool false)) ka kn kcap _ := tk6.off ((Off.refl [V4.heap.size] V6).setCell (p := ⟨V4.heap.size, 2, none⟩) (by simp) _) hfk2
                have n6 := num_st w _ w.heap.size bad5 r5 2 2 rfl (by omega) (by omega) num2 65535 (by omega) (by omega) (num2_get r5) (fun hb => num2_rng hb) ST7
                go_wp2_with fail
                generalize V6.setCell ⟨V4.heap.size, 2, none⟩ (.bool false) = V7 at ST7 O7 cb7 hb7 bx7 tk7 n6 ⊢
                with_reducible refine n6.mono ?_
                clear n6
                rintro e6 V8 ⟨v6, bad6, r6, rfl, v60, v69, S8, O8, L6'⟩
                have bx8 := bx7.off O8 hnb
                have tk8 := tk7.off O8 hfk
                have n7 := some_st w V8 w.heap.size bad6 r6 v6 v60 v69 S8
                go_wp2_with fail
                with_reducible refine n7.mono ?_
                clear n7
                rintro e7 V9 ⟨u, uo, ul, uc, bad7, r7, rfl, tu, hul, fu, S9, O9, L7'⟩
                have bx9 := bx8.off O9 hnb
                have tk9 := tk8.off O9 hfk
                have hz8 : V4.heap.size < V8.heap.size := bx8.lt
                have hz9 : V4.heap.size < V9.heap.size := bx9.lt
                have y1 := bx9.c1
                have zz1 := bx9.z 1
                have Oc : Off [V4.heap.size] V9 (V9.setCell ⟨V4.heap.size, 1, none⟩ (.slice uo ul uc)) := (Off.refl [V4.heap.size] V9).setCell (p := ⟨V4.heap.size, 1, none⟩) (by simp) _
                have STa : St w (V9.setCell ⟨V4.heap.size, 1, none⟩ (.slice uo ul uc)) w.heap.size bad7 r7 := S9.off Oc (by simp; omega) (by simp; omega)
                have Oa : Off [w.heap.size, V4.heap.size] wr (V9.setCell ⟨V4.heap.size, 1, none⟩ (.slice uo ul uc)) := ((O7.trans (O8.mono (by simp))).trans (O9.mono (by simp))).trans (Oc.mono (by simp))
                have cba := STa.bad
                have hba := STa.bel
                have tka : Tx (V9.setCell ⟨V4.heap.size, 1, none⟩ (.slice uo ul uc)) ka kn kcap _ := tk9.off Oc hfk2
                have tua : Tx (V9.setCell ⟨V4.heap.size, 1, none⟩ (.slice uo ul uc)) uo ul uc u := tu.off Oc (fun ad ha' _ hq => by have := fu ad ha'; simp at hq; omega)
                have bxa : Box (V9.setCell ⟨V4.heap.size, 1, none⟩ (.slice uo ul uc)) V4.heap.size (.slice ka kn kcap) (.slice uo ul uc) false := ⟨by rw [World.cell?_setCell_other _ _ _ _ (by simp)]; exact bx9.c0, World.cell?_setCell_same _ _ _ y1, by rw [World.cell?_setCell_other _ _ _ _ (by simp)]; exact bx9.c2⟩
                have La := hplain _ Oa
                cases bad7 with
                | true =>
                  have hno := hnone (by
                    rcases hlk with ⟨_, h⟩ | ⟨hb3, h⟩
                    · exact h
                    · rw [h]
                      rcases L5 with ⟨_, hb5, p5⟩ | ⟨hb5, h1⟩
                      · rcases L6' with ⟨_, hb6, p6⟩ | ⟨hb6, h1⟩
                        · rcases L7' with ⟨_, h2, _⟩ | ⟨_, h1 | h1⟩
                          · cases h2
                          · rw [hb6] at h1; cases h1
                          · exact tailP_1b p5 p6 h1
                        · rcases h1 with h1 | h1
                          · rw [hb5] at h1; cases h1
                          · exact tailP_1a p5 h1
                      · rcases h1 with h1 | h1
                        · rw [hb3] at h1; cases h1
                        · exact tailP_none h1)
                  go_wp2
                  go_ret2
                  exact rall_no hno.out hba
                | false =>
                  have hpe : parseB true (lastK [] es) r = some (⟨(lastK [] es).take s ++ t, u, false⟩, r7) := by
                    rcases L7' with ⟨hb6, _, p7⟩ | ⟨h1, _⟩
                    · rcases L6' with ⟨hb5, _, p6⟩ | ⟨h1, _⟩
                      · rcases L5 with ⟨hb3, _, p5⟩ | ⟨h1, _⟩
                        · rcases hlk with ⟨h1, _⟩ | ⟨_, h⟩
                          · rw [hb3] at h1; cases h1
                          · rw [h]; exact tailP_1c p5 p6 p7
                        · rw [hb5] at h1; cases h1
                      · rw [hb6] at h1; cases h1
                    · cases h1
                  have hfu : ∀ ad, uo = some ad → wr.heap.size ≤ ad.block := fun ad ha' => by have h1 := fu ad ha'; have h2 := O7.size; have h3 := O8.size; omega
                  have HR : REx [w.heap.size] ((V9.setCell ⟨V4.heap.size, 1, none⟩ (.slice uo ul uc)).alloc (.cells #[.slice ka kn kcap, .slice uo ul uc, .bool false] 25)) (own (.slice bo m cb)) [.slice ka kn kcap, .slice uo ul uc, .bool false] ⟨(lastK [] es).take s ++ t, u, false⟩ := ⟨_, _, rfl, (tka.alloc _).at _ (fun ad ha' h0' => hnX _ (fkey ad ha' h0')), (tua.alloc _).at _ (fun ad ha' h0' => hnX _ (hfu ad ha'))⟩
                  have hVZ : wr.heap.size ≤ (V9.setCell ⟨V4.heap.size, 1, none⟩ (.slice uo ul uc)).heap.size := Oa.size
                  clear L5 L6' L7' hlk
                  have q0 := bxa.c0
                  have q1 := bxa.c1
                  have q2 := bxa.c2
                  have HL := La.later (REx.st _) ((Below.refl (V9.setCell ⟨V4.heap.size, 1, none⟩ (.slice uo ul uc)).heap.size (V9.setCell ⟨V4.heap.size, 1, none⟩ (.slice uo ul uc))).alloc (Nat.le_refl _) (.cells #[.slice ka kn kcap, .slice uo ul uc, .bool false] 25))
                  have hst9 := fun (w5 : World) (ao5 : Option Addr) (n5 c5 : Nat) => rr_step (w5 := w5) (ao5 := ao5) (n5 := n5) (c5 := c5) (o := .cells #[.slice ka kn kcap, .slice uo ul uc, .bool false] 25) hE g2 hcame hr0 hpe hVZ STa
                  have hm8 : es.length ≤ 1000000000 := by omega
                  have hw8 : w.heap.size + 1 ≤ ((V9.setCell ⟨V4.heap.size, 1, none⟩ (.slice uo ul uc)).alloc (.cells #[.slice ka kn kcap, .slice uo ul uc, .bool false] 25)).heap.size := by have h1 := hVZ; have h2 : (V9.setCell ⟨V4.heap.size, 1, none⟩ (.slice uo ul uc)).heap.size ≤ ((V9.setCell ⟨V4.heap.size, 1, none⟩ (.slice uo ul uc)).alloc (.cells #[.slice ka kn kcap, .slice uo ul uc, .bool false] 25)).heap.size := (by simp); omega
                  go_wp2_with (with_reducible show wpList _ _ _ (⟨some 113, _, _, _, _, _⟩ :: _) _ _; refine wpList_one (REx.st _) (REx.pl _) Try.underlying22 Try.info25 rfl (by omega) (by omega) rfl _ _ rfl (w.heap.size + 1) (.slice bo m cb) es rfl HL ⟨V9.heap.size, 0, none⟩ 1 [.slice ka kn kcap, .slice uo ul uc, .bool false] _ rfl (cells3_at (V9.setCell ⟨V4.heap.size, 1, none⟩ (.slice uo ul uc)) V9.heap.size (by simp [World.setCell]) _ _ _) HR hm8 hw8 ?_; intro ao5 n5 c5 w5 hn5 hls5 hof5 hsub5; have hn6 : n5 = m + 1 := (by omega); clear hn5; have hr5 := hst9 w5 ao5 n5 c5 hls5 hn6 hof5; subst hn6)
                  go_roundw
                  case rel => exact ⟨m + 1, ao5, c5, _, rfl, hr5⟩
                  case measure => simp [sliceLen]; omega
              · have hv1b : (v5 == 1) = false := by simp [hv1]
                have hgt : (1 : Int) < v5 := by omega
                have hno := hnone (by
                  rcases hlk with ⟨_, h⟩ | ⟨hb3, h⟩
                  · exact h
                  · rw [h]
                    rcases L5 with ⟨_, _, p5⟩ | ⟨_, h1 | h1⟩
                    · exact tailP_big p5 hv0 hgt
                    · rw [hb3] at h1; cases h1
                    · exact tailP_none h1)
                cases bad5 with
                | true =>
                  go_wp2
                  go_ret2
                  exact rall_no hno.out hb7
                | false =>
                  go_wp2
                  go_ret2
                  exact rall_no hno.out hb7
          · have hno := hnone (by simp only [parseB, p1]; rw [if_pos (by omega)])
            have hs0i : (0 : Int) < s := by omega
            by_cases hm0 : m = 0
            · subst hm0
              go_wp2
              go_ret2
              exact rall_no hno.out hB2
            · have hm0b : ((m : Int) == 0) = false := by simp [hm0]
              obtain ⟨q', hq'⟩ : ∃ q', Hid (m = q' + 1) := ⟨m - 1, by show _ = _; omega⟩
              have hqlt : q' < es.length := by have := hq'.out; omega
              obtain ⟨ob, oo, rfl, hco⟩ := L2x.readX.headE (by omega)
              have hy : es[q']? = some (es[q']'hqlt) := by simp
              obtain ⟨jo, jl, jc, _, _, _, d0, _, _, tj, _⟩ := hco q' _ hy
              have hlast := last_getD es _ q' (by have := hq'.out; omega) hy
              rw [hlast, tj.len_eq] at hs1
              have hmi : (m : Int) - 1 = q' := by have := hq'.out; omega
              have hqm : (q' : Int) < m := by have := hq'.out; omega
              have hji : (jl : Int) < s := by omega
              clear hlast hy
              go_wp2
              go_ret2
              exact rall_no hno.out hB2
          · have hs0i : (0 : Int) < s := by omega
            have hs255 : s ≤ 255 := by omega
            have hslen := hs1
            by_cases hm0 : m = 0
            · exfalso
              have : es = [] := List.eq_nil_of_length_eq_zero (by omega)
              subst this
              simp [lastK] at hs1
              omega
            · have hm0b : ((m : Int) == 0) = false := by simp [hm0]
              obtain ⟨q', hq'⟩ : ∃ q', Hid (m = q' + 1) := ⟨m - 1, by show _ = _; omega⟩
              have hqlt : q' < es.length := by have := hq'.out; omega
              obtain ⟨ob, oo, hbo, hco⟩ := L2x.readX.headE (by omega)
              subst hbo
              have hy : es[q']? = some (es[q']'hqlt) := by simp
              obtain ⟨jo, jl, jc, _, _, _, d0, _, _, tj, _⟩ := hco q' _ hy
              have hlast := last_getD es _ q' (by have := hq'.out; omega) hy
              have hjs : s ≤ jl := by rw [hlast, tj.len_eq] at hs1; exact hs1
              rw [← hlast] at tj
              have tjs := tj.take s hjs
              have hjle := tj.le
              have hjt := tj.top
              unfold maxLen at hjt
              have hmi : (m : Int) - 1 = q' := by have := hq'.out; omega
              have hqm : (q' : Int) < m := by have := hq'.out; omega
              have hji : ¬ (jl : Int) < s := by omega
              have hsc : s ≤ jc := by omega
              clear hlast hy n3
              have hn3 := fun (V : World) (b : Below V2.heap.size V2 V) => some_st w V w.heap.size bad2 r2 v2 v20 (by omega) (S3.later b)
              go_wp2_with (first
                | (with_reducible show wpList _ _ _ (⟨some 82, _, _, _, _, _⟩ :: _) _ _; refine wpList_gr rfl _ _ rfl V2.heap.size none 0 0 [] rfl (Gr.nil V2) jo s jc _ rfl tjs (by omega) ?_; intro a1 n1 c1 V2' hn1 g1 m1; have b22 := m1.below (Gr.nil V2); have n3 := hn3 V2' b22; have hn1' : n1 ≤ 255 := (by have := hn1.out; omega); clear hn1)
                | (go_at_call 54; with_reducible refine n3.mono ?_; rintro e3 V3 ⟨t, to, tl, tc, bad3, r3, rfl, tt, htl, ft, S3b, O3, L3⟩; have g3 : Gr V2.heap.size V3 a1 n1 c1 ([] ++ (lastK [] es).take s) := ⟨rows_offB g1.own O3 (fun q'' hq'' hk => by have h1 := (g1.lt q'' hq'').2; have h2 := S3.lt; simp at hk; omega), g1.rng, Nat.le_trans g1.hB O3.size⟩)
                | (with_reducible show wpList _ _ _ (⟨some 87, _, _, _, _, _⟩ :: _) _ _; refine wpList_gr rfl _ _ rfl V2.heap.size a1 n1 c1 _ rfl g3 to tl tc t rfl tt (by omega) ?_; intro ka kn kcap V4 hn4 g4 m4; have b34 : Below V2.heap.size V3 V4 := m4.below g3))
              have O3w : Off [w.heap.size] wr V3 := (O2.trans (.of_below b22)).trans O3
              have tkey : Tx V4 ka kn kcap ((lastK [] es).take s ++ t) := by simpa using g4.tx
              have fkey : ∀ ad, ka = some ad → 0 < kn → wr.heap.size ≤ ad.block := fun ad ha' h0' => by have h5 := (g4.lt ad.block (by subst ha'; simp [own, Value.ownBlock])).2; have h6 := O2.size; omega
              have O34 : Off (own (.slice a1 n1 c1)) V3 V4 := m4.off
              have S4 : St w V4 w.heap.size bad3 r3 := S3b.off O34 (fun hq'' => by have h1 := (g3.lt _ hq'').2; have h2 := S3.lt; omega) (fun q'' hq'' => by have h1 := (g3.lt q'' hq'').2; have h2 := S3.lt; omega)
              have O4 : Off [w.heap.size] wr V4 := ⟨O34.os.trans O3w.os, O34.tape.trans O3w.tape, O34.output.trans O3w.output, Nat.le_trans O3w.size O34.size, fun i' hi' hn' => (O34.block i' (Nat.lt_of_lt_of_le hi' O3w.size) (fun hq'' => by have h1 := (g3.lt i' hq'').2; have h2 := O2.size; omega)).trans (O3w.block i' hi' hn')⟩
              have tt : Tx V4 to tl tc t := tt.off O34 (fun ad ha' _ hq'' => by have h1 := ft ad ha'; have h2 := (g1.lt _ hq'').1; omega)
              clear hn4 g4 S3b
              have hkn : kn ≤ 400000 := by have h1 := tkey.len_eq; have h2 := tt.len_eq; rw [List.length_append, List.length_take] at h1; omega
              have bx := Boxf.new' V4 (.slice ka kn kcap) (.slice none 0 0) false
              have bA : Below V4.heap.size V4 (V4.alloc (.cells #[.slice ka kn kcap, .slice none 0 0, .bool false] 25)) := (Below.refl _ _).alloc (Nat.le_refl _) _
              have S5 := S4.later bA
              have n5 := num_st w _ w.heap.size bad3 r3 1 1 rfl (by omega) (by omega) num1 255 (by omega) (by omega) (num1_get r3) (fun hb => num1_rng hb) S5
              have hzb : w.heap.size < V4.heap.size := S4.lt
              have hzw : wr.heap.size ≤ V4.heap.size := O4.size
              go_wp2_with fail
              generalize V4.alloc (.cells #[.slice ka kn kcap, .slice none 0 0, .bool false] 25) = V5 at bx bA S5 n5 ⊢
              with_reducible refine n5.mono ?_
              clear n5
              rintro e5 V6 ⟨v5, bad5, r5, rfl, v50, v59, S6, O6, L5⟩
              have hnb : V4.heap.size ∉ [w.heap.size] := by simp; omega
              have bx6 := bx.off O6 hnb
              have hfk : ∀ ad, ka = some ad → 0 < kn → ad.block ∉ [w.heap.size] := fun ad ha' h0' hq => by have := fkey ad ha' h0'; simp at hq; omega
              have hfk2 : ∀ ad, ka = some ad → 0 < kn → ad.block ∉ [V4.heap.size] := fun ad ha' h0' hq => by have := tkey.lt ad ha' h0'; simp at hq; omega
              have tk6 := (tkey.later bA).off O6 hfk
              have Owr : Off [w.heap.size] wr V6 := (O4.trans (.of_below bA)).trans O6
              have hsz6 : V4.heap.size < V6.heap.size := bx6.lt
              have L6 : Ls 25 3 (REx [w.heap.size]) V6 (w.heap.size + 1) (.slice (some ⟨ob, oo, none⟩) m cb) es := hE.ls.offX Owr (fun q' hq' => by have := (hE.ls.lt q' hq').2; simp; omega)
              have hown : ∀ q' ∈ own (.slice (some ⟨ob, oo, none⟩) m cb), q' < wr.heap.size := fun q' hq' => (hE.ls.lt q' hq').1
              have hnX : ∀ q', wr.heap.size ≤ q' → q' ∉ own (.slice (some ⟨ob, oo, none⟩) m cb) ++ [w.heap.size] := fun q' hq' hk => by
                rcases List.mem_append.1 hk with hk | hk
                · have := hown q' hk; omega
                · simp at hk; omega
              have x2 := bx6.c2
              have z2 := bx6.z 2
              have Lset : ∀ (V : World) (i : Nat) (u : Value), Ls 25 3 (REx [w.heap.size]) V (w.heap.size + 1) (.slice (some ⟨ob, oo, none⟩) m cb) es → (∀ q' ∈ own (.slice (some ⟨ob, oo, none⟩) m cb), q' ≠ V4.heap.size) := fun V i u h q' hq' => by have := hown q' hq'; omega
              clear Lset
              have hplain : ∀ V, Off [w.heap.size, V4.heap.size] wr V → Ls 25 3 (REx [w.heap.size]) V (w.heap.size + 1) (.slice (some ⟨ob, oo, none⟩) m cb) es := fun V ho => by
                obtain ⟨us, h1, h2, h3⟩ := hE.ls
                refine ⟨us, h1, rows_offB h2 ho (fun q' hq' hk => ?_), fun i' u e' hu he => ?_⟩
                · have h5 := hE.ls.lt q' hq'; simp at hk; omega
                · obtain ⟨k', v', hu', a1, a2⟩ := h3 i' u e' hu he
                  have hlow : ∀ (val : Value) (ys : List Int), BytesAt wr (own (.slice (some ⟨ob, oo, none⟩) m cb) ++ [w.heap.size]) val ys → BytesAt V (own (.slice (some ⟨ob, oo, none⟩) m cb) ++ [w.heap.size]) val ys := fun val ys hbt => by
                    obtain ⟨o1, l1, c1, rfl, t1, nn⟩ := hbt
                    exact ⟨o1, l1, c1, rfl, t1.off ho (fun ad ha' h0' hk => by have h6 := t1.lt ad ha' h0'; have h7 := nn ad ha' h0'; simp at hk h7; omega), nn⟩
                  exact ⟨k', v', hu', hlow _ _ a1, hlow _ _ a2⟩
              have hOb : ∀ (V : World), Off [w.heap.size, V4.heap.size] wr V → w.heap.size + 1 ≤ V.heap.size := fun V ho => by have := ho.size; omega
              have Owr2 : Off [w.heap.size, V4.heap.size] wr V6 := Owr.mono (by simp)
              have hlk := parse_link p1 hslen L2 L3
              clear L2 L3
              by_cases hv0 : v5 = 0
              · subst hv0
                have ST7 : St w (V6.setCell ⟨V4.heap.size, 2, none⟩ (.bool true)) w.heap.size bad5 r5 := S6.off ((Off.refl [V4.heap.size] V6).setCell (p := ⟨V4.heap.size, 2, none⟩) (by simp) _) (by simp; omega) (by simp; omega)
                have O7 : Off [w.heap.size, V4.heap.size] wr (V6.setCell ⟨V4.heap.size, 2, none⟩ (.bool true)) := Owr2.setCell (p := ⟨V4.heap.size, 2, none⟩) (by simp) _
                have cb7 := ST7.bad
                have hb7 := ST7.bel
                have tk7 : Tx (V6.setCell ⟨V4.heap.size, 2, none⟩ (.bool true)) ka kn kcap _ := tk6.off ((Off.refl [V4.heap.size] V6).setCell (p := ⟨V4.heap.size, 2, none⟩) (by simp) _) hfk2
                have bx7 : Box (V6.setCell ⟨V4.heap.size, 2, none⟩ (.bool true)) V4.heap.size (.slice ka kn kcap) (.slice none 0 0) true := ⟨by rw [World.cell?_setCell_other _ _ _ _ (by simp)]; exact bx6.c0, by rw [World.cell?_setCell_other _ _ _ _ (by simp)]; exact bx6.c1, World.cell?_setCell_same _ _ _ x2⟩
                have L7 := hplain _ O7
                cases bad5 with
                | true =>
                  have hno := hnone (by
                    rcases hlk with ⟨_, h⟩ | ⟨hb3, h⟩
                    · exact h
                    · rcases L5 with ⟨_, h2, _⟩ | ⟨_, h1 | h1⟩
                      · cases h2
                      · rw [hb3] at h1; cases h1
                      · rw [h]; exact tailP_none h1)
                  go_wp2
                  go_ret2
                  exact rall_no hno.out hb7
                | false =>
                  have hpe : parseB true (lastK [] es) r = some (⟨(lastK [] es).take s ++ t, [], true⟩, r5) := by
                    rcases L5 with ⟨h1, _, h3⟩ | ⟨h1, _⟩
                    · rcases hlk with ⟨hb3, _⟩ | ⟨_, h⟩
                      · rw [h1] at hb3; cases hb3
                      · rw [h]; exact tailP_0 h3
                    · cases h1
                  have HR : REx [w.heap.size] ((V6.setCell ⟨V4.heap.size, 2, none⟩ (.bool true)).alloc (.cells #[.slice ka kn kcap, .slice none 0 0, .bool true] 25)) (own (.slice (some ⟨ob, oo, none⟩) m cb)) [.slice ka kn kcap, .slice none 0 0, .bool true] ⟨(lastK [] es).take s ++ t, [], true⟩ := ⟨_, _, rfl, (tk7.alloc _).at _ (fun ad ha' h0' => hnX _ (fkey ad ha' h0')), ((Tx.nil _).alloc _).at _ (fun ad ha' h0' => by cases ha')⟩
                  have hVZ : wr.heap.size ≤ (V6.setCell ⟨V4.heap.size, 2, none⟩ (.bool true)).heap.size := O7.size
                  clear L5 hlk
                  have q0 := bx7.c0
                  have q1 := bx7.c1
                  have q2 := bx7.c2
                  have HL := L7.later (REx.st _) ((Below.refl (V6.setCell ⟨V4.heap.size, 2, none⟩ (.bool true)).heap.size (V6.setCell ⟨V4.heap.size, 2, none⟩ (.bool true))).alloc (Nat.le_refl _) (.cells #[.slice ka kn kcap, .slice none 0 0, .bool true] 25))
                  have hst9 := fun (w5 : World) (ao5 : Option Addr) (n5 c5 : Nat) => rr_step (w5 := w5) (ao5 := ao5) (n5 := n5) (c5 := c5) (o := .cells #[.slice ka kn kcap, .slice none 0 0, .bool true] 25) hE g2 hcame hr0 hpe hVZ ST7
                  have hm8 : es.length ≤ 1000000000 := by omega
                  have hw8 : w.heap.size + 1 ≤ ((V6.setCell ⟨V4.heap.size, 2, none⟩ (.bool true)).alloc (.cells #[.slice ka kn kcap, .slice none 0 0, .bool true] 25)).heap.size := by have h1 := hVZ; have h2 : (V6.setCell ⟨V4.heap.size, 2, none⟩ (.bool true)).heap.size ≤ ((V6.setCell ⟨V4.heap.size, 2, none⟩ (.bool true)).alloc (.cells #[.slice ka kn kcap, .slice none 0 0, .bool true] 25)).heap.size := (by simp); omega
                  go_wp2_with (with_reducible show wpList _ _ _ (⟨some 113, _, _, _, _, _⟩ :: _) _ _; refine wpList_one (REx.st _) (REx.pl _) Try.underlying22 Try.info25 rfl (by omega) (by omega) rfl _ _ rfl (w.heap.size + 1) (.slice (some ⟨ob, oo, none⟩) m cb) es rfl HL ⟨V6.heap.size, 0, none⟩ 1 [.slice ka kn kcap, .slice none 0 0, .bool true] _ rfl (cells3_at (V6.setCell ⟨V4.heap.size, 2, none⟩ (.bool true)) V6.heap.size (by simp [World.setCell]) _ _ _) HR hm8 hw8 ?_; intro ao5 n5 c5 w5 hn5 hls5 hof5 hsub5; have hn6 : n5 = m + 1 := (by omega); clear hn5; have hr5 := hst9 w5 ao5 n5 c5 hls5 hn6 hof5; subst hn6)
                  go_roundw
                  case rel => exact ⟨m + 1, ao5, c5, _, rfl, hr5⟩
                  case measure => simp [sliceLen]; omega
              · have hv0b : (v5 == 0) = false := by simp [hv0]
                have ST7 : St w (V6.setCell ⟨V4.heap.size, 2, none⟩ (.bool false)) w.heap.size bad5 r5 := S6.off ((Off.refl [V4.heap.size] V6).setCell (p := ⟨V4.heap.size, 2, none⟩) (by simp) _) (by simp; omega) (by simp; omega)
                have O7 : Off [w.heap.size, V4.heap.size] wr (V6.setCell ⟨V4.heap.size, 2, none⟩ (.bool false)) := Owr2.setCell (p := ⟨V4.heap.size, 2, none⟩) (by simp) _
                have cb7 := ST7.bad
                have hb7 := ST7.bel
                by_cases hv1 : v5 = 1
                · subst hv1
                  have bx7 : Boxf (V6.setCell ⟨V4.heap.size, 2, none⟩ (.bool false)) V4.heap.size (.slice ka kn kcap) (.slice none 0 0) false := ⟨by rw [World.cell?_setCell_other _ _ _ _ (by simp)]; exact bx6.c0, by rw [World.cell?_setCell_other _ _ _ _ (by simp)]; exact bx6.c1, World.cell?_setCell_same _ _ _ x2, fun j => by simpa using bx6.z j⟩
                  have tk7 : Tx (V6.setCell ⟨V4.heap.size, 2, none⟩ (.bool false)) ka kn kcap _ := tk6.off ((Off.refl [V4.heap.size] V6).setCell (p := ⟨V4.heap.size, 2, none⟩) (by simp) _) hfk2
                  have n6 := num_st w _ w.heap.size bad5 r5 2 2 rfl (by omega) (by omega) num2 65535 (by omega) (by omega) (num2_get r5) (fun hb => num2_rng hb) ST7
                  go_wp2_with fail
                  generalize V6.setCell ⟨V4.heap.size, 2, none⟩ (.bool false) = V7 at ST7 O7 cb7 hb7 bx7 tk7 n6 ⊢
                  with_reducible refine n6.mono ?_
                  clear n6
                  rintro e6 V8 ⟨v6, bad6, r6, rfl, v60, v69, S8, O8, L6'⟩
                  have bx8 := bx7.off O8 hnb
                  have tk8 := tk7.off O8 hfk
                  have n7 := some_st w V8 w.heap.size bad6 r6 v6 v60 v69 S8
                  go_wp2_with fail
                  with_reducible refine n7.mono ?_
                  clear n7
                  rintro e7 V9 ⟨u, uo, ul, uc, bad7, r7, rfl, tu, hul, fu, S9, O9, L7'⟩
                  have bx9 := bx8.off O9 hnb
                  have tk9 := tk8.off O9 hfk
                  have hz8 : V4.heap.size < V8.heap.size := bx8.lt
                  have hz9 : V4.heap.size < V9.heap.size := bx9.lt
                  have y1 := bx9.c1
                  have zz1 := bx9.z 1
                  have Oc : Off [V4.heap.size] V9 (V9.setCell ⟨V4.heap.size, 1, none⟩ (.slice uo ul uc)) := (Off.refl [V4.heap.size] V9).setCell (p := ⟨V4.heap.size, 1, none⟩) (by simp) _
                  have STa : St w (V9.setCell ⟨V4.heap.size, 1, none⟩ (.slice uo ul uc)) w.heap.size bad7 r7 := S9.off Oc (by simp; omega) (by simp; omega)
                  have Oa : Off [w.heap.size, V4.heap.size] wr (V9.setCell ⟨V4.heap.size, 1, none⟩ (.slice uo ul uc)) := ((O7.trans (O8.mono (by simp))).trans (O9.mono (by simp))).trans (Oc.mono (by simp))
                  have cba := STa.bad
                  have hba := STa.bel
                  have tka : Tx (V9.setCell ⟨V4.heap.size, 1, none⟩ (.slice uo ul uc)) ka kn kcap _ := tk9.off Oc hfk2
                  have tua : Tx (V9.setCell ⟨V4.heap.size, 1, none⟩ (.slice uo ul uc)) uo ul uc u := tu.off Oc (fun ad ha' _ hq => by have := fu ad ha'; simp at hq; omega)
                  have bxa : Box (V9.setCell ⟨V4.heap.size, 1, none⟩ (.slice uo ul uc)) V4.heap.size (.slice ka kn kcap) (.slice uo ul uc) false := ⟨by rw [World.cell?_setCell_other _ _ _ _ (by simp)]; exact bx9.c0, World.cell?_setCell_same _ _ _ y1, by rw [World.cell?_setCell_other _ _ _ _ (by simp)]; exact bx9.c2⟩
                  have La := hplain _ Oa
                  cases bad7 with
                  | true =>
                    have hno := hnone (by
                      rcases hlk with ⟨_, h⟩ | ⟨hb3, h⟩
                      · exact h
                      · rw [h]
                        rcases L5 with ⟨_, hb5, p5⟩ | ⟨hb5, h1⟩
                        · rcases L6' with ⟨_, hb6, p6⟩ | ⟨hb6, h1⟩
                          · rcases L7' with ⟨_, h2, _⟩ | ⟨_, h1 | h1⟩
                            · cases h2
                            · rw [hb6] at h1; cases h1
                            · exact tailP_1b p5 p6 h1
                          · rcases h1 with h1 | h1
                            · rw [hb5] at h1; cases h1
                            · exact tailP_1a p5 h1
                        · rcases h1 with h1 | h1
                          · rw [hb3] at h1; cases h1
                          · exact tailP_none h1)
                    go_wp2
                    go_ret2
                    exact rall_no hno.out hba
                  | false =>
                    have hpe : parseB true (lastK [] es) r = some (⟨(lastK [] es).take s ++ t, u, false⟩, r7) := by
                      rcases L7' with ⟨hb6, _, p7⟩ | ⟨h1, _⟩
                      · rcases L6' with ⟨hb5, _, p6⟩ | ⟨h1, _⟩
                        · rcases L5 with ⟨hb3, _, p5⟩ | ⟨h1, _⟩
                          · rcases hlk with ⟨h1, _⟩ | ⟨_, h⟩
                            · rw [hb3] at h1; cases h1
                            · rw [h]; exact tailP_1c p5 p6 p7
                          · rw [hb5] at h1; cases h1
                        · rw [hb6] at h1; cases h1
                      · cases h1
                    have hfu : ∀ ad, uo = some ad → wr.heap.size ≤ ad.block := fun ad ha' => by have h1 := fu ad ha'; have h2 := O7.size; have h3 := O8.size; omega
                    have HR : REx [w.heap.size] ((V9.setCell ⟨V4.heap.size, 1, none⟩ (.slice uo ul uc)).alloc (.cells #[.slice ka kn kcap, .slice uo ul uc, .bool false] 25)) (own (.slice (some ⟨ob, oo, none⟩) m cb)) [.slice ka kn kcap, .slice uo ul uc, .bool false] ⟨(lastK [] es).take s ++ t, u, false⟩ := ⟨_, _, rfl, (tka.alloc _).at _ (fun ad ha' h0' => hnX _ (fkey ad ha' h0')), (tua.alloc _).at _ (fun ad ha' h0' => hnX _ (hfu ad ha'))⟩
                    have hVZ : wr.heap.size ≤ (V9.setCell ⟨V4.heap.size, 1, none⟩ (.slice uo ul uc)).heap.size := Oa.size
                    clear L5 L6' L7' hlk
                    have q0 := bxa.c0
                    have q1 := bxa.c1
                    have q2 := bxa.c2
                    have HL := La.later (REx.st _) ((Below.refl (V9.setCell ⟨V4.heap.size, 1, none⟩ (.slice uo ul uc)).heap.size (V9.setCell ⟨V4.heap.size, 1, none⟩ (.slice uo ul uc))).alloc (Nat.le_refl _) (.cells #[.slice ka kn kcap, .slice uo ul uc, .bool false] 25))
                    have hst9 := fun (w5 : World) (ao5 : Option Addr) (n5 c5 : Nat) => rr_step (w5 := w5) (ao5 := ao5) (n5 := n5) (c5 := c5) (o := .cells #[.slice ka kn kcap, .slice uo ul uc, .bool false] 25) hE g2 hcame hr0 hpe hVZ STa
                    have hm8 : es.length ≤ 1000000000 := by omega
                    have hw8 : w.heap.size + 1 ≤ ((V9.setCell ⟨V4.heap.size, 1, none⟩ (.slice uo ul uc)).alloc (.cells #[.slice ka kn kcap, .slice uo ul uc, .bool false] 25)).heap.size := by have h1 := hVZ; have h2 : (V9.setCell ⟨V4.heap.size, 1, none⟩ (.slice uo ul uc)).heap.size ≤ ((V9.setCell ⟨V4.heap.size, 1, none⟩ (.slice uo ul uc)).alloc (.cells #[.slice ka kn kcap, .slice uo ul uc, .bool false] 25)).heap.size := (by simp); omega
                    go_wp2_with (with_reducible show wpList _ _ _ (⟨some 113, _, _, _, _, _⟩ :: _) _ _; refine wpList_one (REx.st _) (REx.pl _) Try.underlying22 Try.info25 rfl (by omega) (by omega) rfl _ _ rfl (w.heap.size + 1) (.slice (some ⟨ob, oo, none⟩) m cb) es rfl HL ⟨V9.heap.size, 0, none⟩ 1 [.slice ka kn kcap, .slice uo ul uc, .bool false] _ rfl (cells3_at (V9.setCell ⟨V4.heap.size, 1, none⟩ (.slice uo ul uc)) V9.heap.size (by simp [World.setCell]) _ _ _) HR hm8 hw8 ?_; intro ao5 n5 c5 w5 hn5 hls5 hof5 hsub5; have hn6 : n5 = m + 1 := (by omega); clear hn5; have hr5 := hst9 w5 ao5 n5 c5 hls5 hn6 hof5; subst hn6)
                    go_roundw
                    case rel => exact ⟨m + 1, ao5, c5, _, rfl, hr5⟩
                    case measure => simp [sliceLen]; omega
                · have hv1b : (v5 == 1) = false := by simp [hv1]
                  have hgt : (1 : Int) < v5 := by omega
                  have hno := hnone (by
                    rcases hlk with ⟨_, h⟩ | ⟨hb3, h⟩
                    · exact h
                    · rw [h]
                      rcases L5 with ⟨_, _, p5⟩ | ⟨_, h1 | h1⟩
                      · exact tailP_big p5 hv0 hgt
                      · rw [hb3] at h1; cases h1
                      · exact tailP_none h1)
                  cases bad5 with
                  | true =>
                    go_wp2
                    go_ret2
                    exact rall_no hno.out hb7
                  | false =>
                    go_wp2
                    go_ret2
                    exact rall_no hno.out hb7
        · have hdone : Hid (rreadB 256 [] r0 = some es) := hcame.done (by omega)
          have hfin : Hid (rallB xs = if validB es xs = true then some es else none) := by show _ = _; rw [hpar.out, hdone.out]
          have lx := hE.ls.readX
          have hcs : (rl = 0) ∨ (0 < rl ∧ ¬ m < 256) := by omega
          have tb := ha.later hB
          cases hmay : mayB 255 es with
          | false =>
            have hno : rallB xs = none := by rw [hfin.out]; simp [validB, hmay]
            have hmc := fun d os => rmay_any bo m cb es _ (lx.later RE.stable (below_regrown wr d os))
            rw [hmay] at hmc
            rcases hcs with rfl | ⟨h1, h2⟩
            all_goals
              go_wp2_with fail
              refine wp_region_quiet_below (by kernel_rfl) (by kernel_rfl) ?_
              repeat (go_big_quiet_step ((go_at_call 21; with_reducible exact Calls.regrown_of (hmc _ _))))
              (with_reducible refine wpQuiet_nil ?_)
              intro _ hw'
              obtain ⟨⟨dq, osq⟩, hw''⟩ := hw'
              subst hw''
              have bq := below_regrown wr dq osq
              go_wp2
              go_ret2
              exact rall_no hno (hB.trans (bq.mono hB.size))
          | true =>
            have hmc := fun d os => rmay_any bo m cb es _ (lx.later RE.stable (below_regrown wr d os))
            have hfc := fun d os => rfits_any bo m cb es _ (lx.later RE.stable (below_regrown wr d os)) hmay
            rw [hmay] at hmc
            cases hfit : fitB 0 0 [] es with
            | false =>
              have hno : rallB xs = none := by rw [hfin.out]; simp [validB, hfit]
              rw [hfit] at hfc
              rcases hcs with rfl | ⟨h1, h2⟩
              all_goals
                go_wp2_with fail
                refine wp_region_quiet_below (by kernel_rfl) (by kernel_rfl) ?_
                repeat (go_big_quiet_step (first | (go_at_call 21; with_reducible exact Calls.regrown_of (hmc _ _)) | (go_at_call 33; with_reducible exact Calls.regrown_of (hfc _ _))))
                (with_reducible refine wpQuiet_nil ?_)
                intro _ hw'
                obtain ⟨⟨dq, osq⟩, hw''⟩ := hw'
                subst hw''
                have bq := below_regrown wr dq osq
                go_wp2
                go_ret2
                exact rall_no hno (hB.trans (bq.mono hB.size))
            | true =>
              clear hmc hfc
              have hmC : ∀ (W : World), Below wr.heap.size wr W → Calls Try.prog 21 #[.slice bo m cb, .int .i64 255] W fun e W' => e = .returned (.bool true) ∧ Below wr.heap.size wr W' := fun W hW => by
                refine (rmay_any bo m cb es W (lx.later RE.stable hW)).mono ?_
                rintro e W' ⟨rfl, b'⟩
                exact ⟨by rw [hmay], hW.trans (b'.mono hW.size)⟩
              have hfC : ∀ (W : World), Below wr.heap.size wr W → Calls Try.prog 33 #[.slice bo m cb] W fun e W' => e = .returned (.bool true) ∧ Below wr.heap.size wr W' := fun W hW => by
                refine (rfits_any bo m cb es W (lx.later RE.stable hW) hmay).mono ?_
                rintro e W' ⟨rfl, b'⟩
                exact ⟨by rw [hfit], hW.trans (b'.mono hW.size)⟩
              have hbC : ∀ (W : World), Below wr.heap.size wr W → Calls Try.prog 10 #[.slice bo m cb] W fun e W' => ∃ qo lq cq, e = .returned (.slice qo lq cq) ∧ (convert 23 9 (.slice qo lq cq)).run Try.prog W' = .ok (.string (strOfNums (blockL es))) W' ∧ (convert 23 9 (.slice (some ⟨b, off, none⟩) la ca)).run Try.prog W' = .ok (.string (strOfNums xs)) W' ∧ Bytes (blockL es) ∧ Below wr.heap.size wr W' := fun W hW => by
                refine (rbuild_any bo m cb es W (lx.later RE.stable hW) hmay).mono ?_
                rintro e W' ⟨qo, lq, cq, rfl, g', b'⟩
                have B' := hW.trans (b'.mono hW.size)
                exact ⟨qo, lq, cq, rfl, g'.tx.string, (tb.later B').string, g'.rng, B'⟩
              have hval : validB es xs = (blockL es == xs) := by simp [validB, hmay, hfit]
              have hfin2 : Hid (rallB xs = if (blockL es == xs) = true then some es else none) := by show _ = _; rw [hfin.out, hval]
              have hsx : ∀ (W : World), Below wr.heap.size wr W → (convert 23 9 (.slice (some ⟨b, off, none⟩) la ca)).run Try.prog W = .ok (.string (strOfNums xs)) W := fun W hW => (tb.later hW).string
              have s0 := hsx wr.drew ((Below.refl _ _).drew)
              have hne := fun (h : ¬ blockL es = xs) (hb : Bytes (blockL es)) => str_ne hb ha.rng h
              by_cases heq : blockL es = xs
              · have hyes : Hid (allB xs = some es) := by show _ = _; rw [← rallB_eq, hfin2.out, if_pos (by simp [heq])]
                rw [heq] at hbC
                clear hne hval hfin2 hfin hdone
                generalize strOfNums xs = SX at hbC s0 hsx
                rcases hcs with rfl | ⟨h1, h2⟩
                all_goals
                  go_wp2_with fail
                  go_region_held (fun w' => Below wr.heap.size wr w') (first | assumption | exact (Below.refl _ _).drew) (first
                    | (go_at_call 21; with_reducible refine (hmC _ ?_).mono ?_; (assumption); rintro e1 W1 ⟨rfl, B1⟩; have s1 := hsx W1 B1)
                    | (go_at_call 33; with_reducible refine (hfC _ ?_).mono ?_; (assumption); rintro e1 W2 ⟨rfl, B2⟩; have s2 := hsx W2 B2)
                    | (go_at_call 10; with_reducible refine (hbC _ ?_).mono ?_; (assumption); rintro e1 W3 ⟨qo, lq, cq, rfl, s3, s4, _, B3⟩))
                  all_goals
                    try simp only [List.getElem_toArray, List.getElem_cons_succ, List.getElem_cons_zero, List.setIfInBounds_toArray, List.set_cons_zero, List.set_cons_succ]
                    go_wp2
                    go_ret2
                    exact .inl ⟨es, bo, m, cb, hyes.out, rfl, lx.later RE.stable B3, hB.trans (B3.mono hB.size)⟩
              · have hno : rallB xs = none := by rw [hfin2.out, if_neg (by simpa using heq)]
                have hne2 := hne heq
                clear hne hval hfin2 hfin hdone
                generalize strOfNums xs = SX at hbC s0 hne2 hsx
                generalize strOfNums (blockL es) = SE at hbC hne2
                rcases hcs with rfl | ⟨h1, h2⟩
                all_goals
                  go_wp2_with fail
                  go_region_held (fun w' => Below wr.heap.size wr w') (first | assumption | exact (Below.refl _ _).drew) (first
                    | (go_at_call 21; with_reducible refine (hmC _ ?_).mono ?_; (assumption); rintro e1 W1 ⟨rfl, B1⟩; have s1 := hsx W1 B1)
                    | (go_at_call 33; with_reducible refine (hfC _ ?_).mono ?_; (assumption); rintro e1 W2 ⟨rfl, B2⟩; have s2 := hsx W2 B2)
                    | (go_at_call 10; with_reducible refine (hbC _ ?_).mono ?_; (assumption); rintro e1 W3 ⟨qo, lq, cq, rfl, s3, s4, hby3, B3⟩; have hn3 := hne2 hby3; have hn4 : (SE.toList == SX.toList) = false := (by simp [hn3]); have hn5 : (SE.toList != SX.toList) = true := (by simp [hn3])))
                  all_goals
                    try simp only [List.getElem_toArray, List.getElem_cons_succ, List.getElem_cons_zero, List.setIfInBounds_toArray, List.set_cons_zero, List.set_cons_succ]
                    go_wp2
                    go_ret2
                    exact rall_no hno (hB.trans (B3.mono hB.size))

end Go.Proofs.Yteeemfohehpaeaa
