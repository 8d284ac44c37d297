/- Memory that a thing owns, block by block: what is written elsewhere leaves it as it was. A disk in memory. The walks of disk.New, Arm, Down, spend, mayName. -/
import Derived.Test.YtgleblfkcdkaeaaDoorFMem
import Derived.Test.YtgleblfkcdkaeaaDoorDMod
namespace Go.Proofs.YtgleblfkcdkaeaaDoor

section
open Go.RowKit

/-- What is owned turns from S to S', and nothing else turns. -/
structure Step (S S' : List Nat) (w w' : World) : Prop where
  off : Off S w w'
  sub : ∀ k ∈ S', k ∈ S ∨ w.heap.size ≤ k
theorem Step.refl (S : List Nat) (w : World) : Step S S w w := ⟨.refl _ _, fun _ h => .inl h⟩
theorem Step.of_below {S : List Nat} {w w' : World} (h : Below w.heap.size w w') : Step S S w w' := ⟨.of_below h, fun _ h => .inl h⟩
theorem Step.trans {S S' S'' : List Nat} {a b c : World} (h : Step S S' a b) (k : Step S' S'' b c) : Step S S'' a c := by
  refine ⟨⟨k.off.os.trans h.off.os, k.off.tape.trans h.off.tape, k.off.output.trans h.off.output, Nat.le_trans h.off.size k.off.size, fun i hi hn => ?_⟩, fun i hi => ?_⟩
  · rw [k.off.block i (Nat.lt_of_lt_of_le hi h.off.size) (fun e => ?_), h.off.block i hi hn]
    rcases h.sub i e with e | e
    · exact hn e
    · omega
  · rcases k.sub i hi with e | e
    · exact h.sub i e
    · exact .inr (Nat.le_trans h.off.size e)
theorem Step.from {S S' : List Nat} {B : Nat} {w w' : World} (h : Step S S' w w') (hs : ∀ k ∈ S, B ≤ k) (hB : B ≤ w.heap.size) : ∀ k ∈ S', B ≤ k := by
  intro k hk
  rcases h.sub k hk with e | e
  · exact hs k e
  · omega
theorem Step.below {S S' : List Nat} {B : Nat} {w w' : World} (h : Step S S' w w') (hs : ∀ k ∈ S, B ≤ k) (hB : B ≤ w.heap.size) : Below B w w' := h.off.below hs hB

/-- Three cells a file. -/
def fcells : List Fl → List Value → List Value
  | f :: l, v :: vs => .string f.name :: v :: .int .i64 f.synced :: fcells l vs
  | _, _ => []

theorem fcells_length : ∀ (l : List Fl) (vs : List Value), vs.length = l.length → (fcells l vs).length = l.length * 3
  | [], [], _ => rfl
  | f :: l, v :: vs, h => by simp [fcells, fcells_length l vs (by simpa using h)]; omega
theorem fcells_append : ∀ (l m : List Fl) (vs us : List Value), vs.length = l.length → fcells (l ++ m) (vs ++ us) = fcells l vs ++ fcells m us
  | [], _, [], _, _ => rfl
  | f :: l, m, v :: vs, us, h => by simp [fcells, fcells_append l m vs us (by simpa using h)]
theorem fcells_at : ∀ (l : List Fl) (vs : List Value) (i : Nat) (f : Fl) (v : Value), l[i]? = some f → vs[i]? = some v →
    (fcells l vs)[i * 3]? = some (.string f.name) ∧ (fcells l vs)[i * 3 + 1]? = some v ∧ (fcells l vs)[i * 3 + 2]? = some (.int .i64 f.synced)
  | f :: l, v :: vs, 0, _, _, h, k => by simp at h k; subst h k; simp [fcells]
  | f :: l, v :: vs, i + 1, f', v', h, k => by
    have := fcells_at l vs i f' v' (by simpa using h) (by simpa using k)
    rw [show (i + 1) * 3 = i * 3 + 1 + 1 + 1 by omega]
    simpa [fcells] using this

/-- The files' data: each its own. -/
def Datas (w : World) : List Fl → List Value → Prop
  | f :: l, v :: vs => w.ownsRow 0 5 1 v f.data.length (f.data.map (Value.int .u8)) ∧ Datas w l vs
  | [], [] => True
  | _, _ => False

theorem Datas.len {w : World} : ∀ {l : List Fl} {vs : List Value}, Datas w l vs → vs.length = l.length
  | [], [], _ => rfl
  | _ :: _, _ :: _, h => by simp [Datas.len h.2]
  | [], _ :: _, h => h.elim
  | _ :: _, [], h => h.elim
theorem Datas.at {w : World} : ∀ {l : List Fl} {vs : List Value}, Datas w l vs → ∀ (i : Nat) (f : Fl), l[i]? = some f → ∃ v, vs[i]? = some v ∧ w.ownsRow 0 5 1 v f.data.length (f.data.map (Value.int .u8))
  | f :: l, v :: vs, h, 0, f', e => by simp at e; subst e; exact ⟨v, rfl, h.1⟩
  | f :: l, v :: vs, h, i + 1, f', e => by
    obtain ⟨u, hu, r⟩ := Datas.at h.2 i f' (by simpa using e)
    exact ⟨u, by simpa using hu, r⟩
  | [], [], _, i, f', e => by simp at e
theorem datas_append {w : World} : ∀ {l m : List Fl} {vs us : List Value}, Datas w l vs → Datas w m us → Datas w (l ++ m) (vs ++ us)
  | [], _, [], _, _, k => k
  | _ :: _, _, _ :: _, _, h, k => ⟨h.1, datas_append h.2 k⟩
  | [], _, _ :: _, _, h, _ => h.elim
  | _ :: _, _, [], _, h, _ => h.elim
theorem Datas.take {w : World} : ∀ {l : List Fl} {vs : List Value} (i : Nat), Datas w l vs → Datas w (l.take i) (vs.take i)
  | [], [], i, _ => by simp [Datas]
  | _ :: _, _ :: _, 0, _ => by simp [Datas]
  | _ :: _, _ :: _, i + 1, h => ⟨h.1, Datas.take i h.2⟩
  | [], _ :: _, _, h => h.elim
  | _ :: _, [], _, h => h.elim
theorem Datas.drop {w : World} : ∀ {l : List Fl} {vs : List Value} (i : Nat), Datas w l vs → Datas w (l.drop i) (vs.drop i)
  | [], [], i, _ => by simp [Datas]
  | _ :: _, _ :: _, 0, h => h
  | _ :: _, _ :: _, i + 1, h => Datas.drop i h.2
  | [], _ :: _, _, h => h.elim
  | _ :: _, [], _, h => h.elim
theorem Datas.off {S : List Nat} {w w' : World} (ho : Off S w w') : ∀ {l : List Fl} {vs : List Value}, Datas w l vs → (∀ k ∈ vs.flatMap own, k ∉ S) → Datas w' l vs
  | [], [], _, _ => trivial
  | _ :: _, v :: vs, h, hd => ⟨rows_off h.1 ho (fun k hk => hd k (by simp [hk])), Datas.off ho h.2 (fun k hk => hd k (by rw [List.flatMap_cons]; exact List.mem_append_right _ hk))⟩
  | [], _ :: _, h, _ => h.elim
  | _ :: _, [], h, _ => h.elim
theorem Datas.lt {w : World} : ∀ {l : List Fl} {vs : List Value}, Datas w l vs → ∀ k ∈ vs.flatMap own, k < w.heap.size
  | [], [], _ => by simp
  | _ :: _, v :: vs, h => by
    intro k hk
    rw [List.flatMap_cons] at hk
    rcases List.mem_append.1 hk with hk | hk
    · exact (own_lt h.1 k hk).1
    · exact Datas.lt h.2 k hk
  | [], _ :: _, h => h.elim
  | _ :: _, [], h => h.elim

/-- The disk d lies at block pb of w: its own cell, its list of files, the files' bytes: S are the blocks of all of these, each once. -/
structure Dk (w : World) (pb : Nat) (d : Dm) (fv : Value) (vs : List Value) (S : List Nat) : Prop where
  ok : d.Ok
  head : w.heap[pb]? = some (.cells #[.int .i64 d.limit, fv, .int .i64 d.left, .bool d.down] 73 (0, 0))
  rows : w.ownsRow 0 76 3 fv d.files.length (fcells d.files vs)
  datas : Datas w d.files vs
  whole : S = pb :: (own fv ++ vs.flatMap own)
  once : S.Nodup

theorem Dk.keep {T : List Nat} {w w' : World} {pb : Nat} {d : Dm} {fv : Value} {vs : List Value} {S : List Nat} (h : Dk w pb d fv vs S) (ho : Off T w w') (hd : ∀ k ∈ S, k ∉ T) : Dk w' pb d fv vs S := by
  have hw := h.whole
  refine ⟨h.ok, ?_, rows_off h.rows ho (fun k hk => hd k (by rw [hw]; simp [hk])), h.datas.off ho (fun k hk => hd k (by rw [hw]; exact List.mem_cons_of_mem _ (List.mem_append_right _ hk))), hw, h.once⟩
  rw [ho.block pb (Array.getElem?_eq_some_iff.1 h.head).1 (hd pb (by rw [hw]; simp))]; exact h.head
theorem Dk.later {w w' : World} {pb : Nat} {d : Dm} {fv : Value} {vs : List Value} {S : List Nat} (h : Dk w pb d fv vs S) (hb : Below w.heap.size w w') : Dk w' pb d fv vs S := h.keep (T := []) (.of_below hb) (fun _ _ => by simp)

theorem Dk.lt {w : World} {pb : Nat} {d : Dm} {fv : Value} {vs : List Value} {S : List Nat} (h : Dk w pb d fv vs S) : ∀ k ∈ S, k < w.heap.size := by
  intro k hk
  rw [h.whole] at hk
  rcases List.mem_cons.1 hk with rfl | hk
  · exact (Array.getElem?_eq_some_iff.1 h.head).1
  · rcases List.mem_append.1 hk with hk | hk
    · exact (own_lt h.rows k hk).1
    · exact h.datas.lt k hk

theorem Dk.drew {w : World} {pb : Nat} {d : Dm} {fv : Value} {vs : List Value} {S : List Nat} (h : Dk w pb d fv vs S) : Dk w.drew pb d fv vs S := h.keep (T := []) (Off.refl _ _).drew (fun _ _ => by simp)
theorem Dk.drewN {w : World} {pb : Nat} {d : Dm} {fv : Value} {vs : List Value} {S : List Nat} (h : Dk w pb d fv vs S) (n : Nat) : Dk (w.drewN n) pb d fv vs S := h.keep (T := []) ((Off.refl _ _).drewN n) (fun _ _ => by simp)
theorem Step.drew {S S' : List Nat} {a w : World} (h : Step S S' a w) : Step S S' a w.drew := ⟨h.off.drew, h.sub⟩
theorem Step.drewN {S S' : List Nat} {a w : World} (h : Step S S' a w) (n : Nat) : Step S S' a (w.drewN n) := ⟨h.off.drewN n, h.sub⟩

section
variable {w : World} {pb : Nat} {d : Dm} {fv : Value} {vs : List Value} {S : List Nat}
theorem Dk.c0 (h : Dk w pb d fv vs S) : w.cell? ⟨pb, 0, none⟩ = some (.int .i64 d.limit) := by rw [cell_of_row w pb 0 _ 73 (0, 0) h.head]; rfl
theorem Dk.c1 (h : Dk w pb d fv vs S) : w.cell? ⟨pb, 1, none⟩ = some fv := by rw [cell_of_row w pb 1 _ 73 (0, 0) h.head]; rfl
theorem Dk.c2 (h : Dk w pb d fv vs S) : w.cell? ⟨pb, 2, none⟩ = some (.int .i64 d.left) := by rw [cell_of_row w pb 2 _ 73 (0, 0) h.head]; rfl
theorem Dk.c3 (h : Dk w pb d fv vs S) : w.cell? ⟨pb, 3, none⟩ = some (.bool d.down) := by rw [cell_of_row w pb 3 _ 73 (0, 0) h.head]; rfl
theorem Dk.z (h : Dk w pb d fv vs S) (k : Nat) : w.frozen? ⟨pb, k, none⟩ = false := frozen_of_row w pb k _ 73 h.head
theorem Dk.mem (h : Dk w pb d fv vs S) : pb ∈ S := by rw [h.whole]; simp
end
end

section
open Go.RowKit

theorem mayName_any (nm : ByteArray) (w : World) (hs : nm.size ≤ 9223372036854775807) :
    Calls Tryd.prog 53 #[.string nm] w fun e w' => e = .returned (.bool (okName nm)) ∧ w = w' := by
  by_cases h1 : 1 ≤ nm.size
  · by_cases h2 : nm.size ≤ 32
    · have e : okName nm = true := by simp [okName]; omega
      rw [e]
      go_enter Tryd.func53, Tryd.ntmps53
      go_wp2
      go_ret
      exact ⟨ret_bool (show decide ((nm.size : Int) ≤ 32) = true by simp; omega), rfl⟩
    · have e : okName nm = false := by simp [okName]; omega
      rw [e]
      go_enter Tryd.func53, Tryd.ntmps53
      go_wp2
      go_ret
      exact ⟨ret_bool (show decide ((nm.size : Int) ≤ 32) = false by simp; omega), rfl⟩
  · have e : okName nm = false := by simp [okName]; omega
    rw [e]
    go_enter Tryd.func53, Tryd.ntmps53
    go_wp2
    go_ret
    exact ⟨rfl, rfl⟩

/-- The disk's own cells are turned: all else of it stands. -/
theorem Dk.turn {w w' : World} {pb : Nat} {d : Dm} {fv : Value} {vs : List Value} {S : List Nat} (h : Dk w pb d fv vs S) (d' : Dm) (hf : d'.files = d.files) (hok : d'.Ok) (ho : Off [pb] w w')
    (hh : w'.heap[pb]? = some (.cells #[.int .i64 d'.limit, fv, .int .i64 d'.left, .bool d'.down] 73 (0, 0))) : Dk w' pb d' fv vs S ∧ Step S S w w' := by
  have hw := h.whole
  have hn := h.once
  rw [hw, List.nodup_cons] at hn
  refine ⟨⟨hok, hh, ?_, ?_, hw, h.once⟩, ⟨ho.mono (fun k hk => by simp at hk; subst hk; exact h.mem), fun _ h => .inl h⟩⟩
  · rw [hf]
    exact rows_off h.rows ho (fun k hk e => by simp at e; subst e; exact hn.1 (List.mem_append_left _ hk))
  · rw [hf]
    exact h.datas.off ho (fun k hk e => by simp at e; subst e; exact hn.1 (List.mem_append_right _ hk))

theorem set_head {w : World} {pb i : Nat} {c : Array Value} {t : TypeId} (v : Value) (h : w.heap[pb]? = some (.cells c t (0, 0))) : (w.setCell ⟨pb, i, none⟩ v).heap[pb]? = some (.cells (c.setIfInBounds i v) t (0, 0)) := heap_setCell_same w pb i _ t _ h

theorem arm_any (pb : Nat) (d : Dm) (fv : Value) (vs : List Value) (S : List Nat) (n : Int) (h1 : -9223372036854775808 ≤ n) (h2 : n ≤ 9223372036854775807) (w : World) (h : Dk w pb d fv vs S) :
    Calls Tryd.prog 13 #[.pointer (some ⟨pb, 0, none⟩), .int .i64 n] w fun e w' => e = .returned (.tuple #[]) ∧ Dk w' pb (d.arm n) fv vs S ∧ Step S S w w' := by
  have c3 := h.c3
  have c2 := h.c2
  have z2 := h.z 2
  cases hd : d.down with
  | true =>
    rw [hd] at c3
    have e : Hid (d.arm n = d) := by show _ = _; simp [Dm.arm, hd]
    go_enter Tryd.func13, Tryd.ntmps13
    go_wp2
    refine bodyPost_ret (results_none rfl _ _ _) rfl ?_
    exact ⟨rfl, by rw [e.out]; exact h, .refl _ _⟩
  | false =>
    rw [hd] at c3
    have e : Hid (d.arm n = { d with left := n }) := by show _ = _; simp [Dm.arm, hd]
    have hh := h.head
    have T := h.turn { d with left := n } rfl ⟨h.ok.lim, h.ok.room, h.ok.rise, h.ok.sync, h.ok.rng, h.ok.name, h1, h2⟩ ((Off.refl [pb] w).setCell (p := ⟨pb, 2, none⟩) (by simp) (.int .i64 n)) (set_head _ hh)
    clear hh
    go_enter Tryd.func13, Tryd.ntmps13
    go_wp2
    go_end0
    exact ⟨rfl, by rw [e.out]; exact T.1, T.2⟩

theorem spend_any (pb : Nat) (d : Dm) (fv : Value) (vs : List Value) (S : List Nat) (w : World) (h : Dk w pb d fv vs S) :
    Calls Tryd.prog 54 #[.pointer (some ⟨pb, 0, none⟩)] w fun e w' => e = .returned (.bool (!d.spend.down)) ∧ Dk w' pb d.spend fv vs S ∧ Step S S w w' := by
  have c3 := h.c3
  have c2 := h.c2
  have z2 := h.z 2
  have z3 := h.z 3
  have l1 := h.ok.l1
  have l2 := h.ok.l2
  by_cases hl : 0 < d.left
  · have T : ∀ b, b = decide (d.left - 1 = 0) → Dk ((w.setCell ⟨pb, 2, none⟩ (.int .i64 (d.left - 1))).setCell ⟨pb, 3, none⟩ (.bool b)) pb d.spend fv vs S ∧ Step S S w ((w.setCell ⟨pb, 2, none⟩ (.int .i64 (d.left - 1))).setCell ⟨pb, 3, none⟩ (.bool b)) := by
      rintro b rfl
      exact h.turn d.spend d.spend_files h.ok.spend (((Off.refl [pb] w).setCell (p := ⟨pb, 2, none⟩) (by simp) (.int .i64 (d.left - 1))).setCell (p := ⟨pb, 3, none⟩) (by simp) (.bool (decide (d.left - 1 = 0))))
        (by rw [set_head _ (set_head _ h.head)]; simp [Dm.spend, hl])
    have e : Hid (d.spend.down = decide (d.left - 1 = 0)) := by show _ = _; simp [Dm.spend, hl]
    generalize d.spend = D at T e
    by_cases h0 : d.left = 1
    · have hb : (d.left - 1 == 0) = true := by simp; omega
      have hq : Hid (true = decide (d.left - 1 = 0)) := by show _ = _; simp; omega
      clear h0
      go_enter Tryd.func54, Tryd.ntmps54
      go_wp2
      go_ret
      exact ⟨ret_bool (by rw [e.out, ← hq.out]; rfl), (T _ hq.out).1, (T _ hq.out).2⟩
    · have hb : (d.left - 1 == 0) = false := by simp; omega
      have hq : Hid (false = decide (d.left - 1 = 0)) := by show _ = _; simp; omega
      clear h0
      go_enter Tryd.func54, Tryd.ntmps54
      go_wp2
      go_ret
      exact ⟨ret_bool (by rw [e.out, ← hq.out]; rfl), (T _ hq.out).1, (T _ hq.out).2⟩
  · have e : Hid (d.spend = d) := by show _ = _; simp [Dm.spend, hl]
    go_enter Tryd.func54, Tryd.ntmps54
    go_wp2
    go_ret
    exact ⟨ret_bool (by rw [e.out]), by rw [e.out]; exact h, .refl _ _⟩

theorem new_any (n : Nat) (hn : n ≤ 16777216) (w : World) :
    Calls Tryd.prog 33 #[.int .i64 n] w fun e w' => e = .returned (.tuple #[.pointer (some ⟨w.heap.size, 0, none⟩), .int .i64 0]) ∧ Dk w' w.heap.size ⟨n, [], 0, false⟩ (.slice none 0 0) [] [w.heap.size] ∧ Below w.heap.size w w' := by
  have D : Dk (w.alloc (.cells #[.int .i64 n, .slice none 0 0, .int .i64 0, .bool false] 73)) w.heap.size ⟨n, [], 0, false⟩ (.slice none 0 0) [] [w.heap.size] :=
    ⟨⟨hn, by simp [used], by simp [Rising], by simp, by simp, by simp, by simp, by simp⟩, by show (w.heap.push _)[w.heap.size]? = _; simp, ⟨rfl, .inl ⟨rfl, rfl⟩⟩, trivial, rfl, by simp⟩
  go_enter Tryd.func33, Tryd.ntmps33
  go_wp2
  go_ret2
  exact ⟨rfl, D, (Below.refl _ _).alloc (Nat.le_refl _) _⟩

theorem new_not (n : Int) (h1 : n < 0 ∨ 16777216 < n) (w : World) :
    Calls Tryd.prog 33 #[.int .i64 n] w fun e w' => e = .returned (.tuple #[.pointer none, .int .i64 1]) ∧ w = w' := by
  by_cases h : n < 0
  · go_enter Tryd.func33, Tryd.ntmps33
    go_wp2
    go_ret2
    exact ⟨rfl, rfl⟩
  · go_enter Tryd.func33, Tryd.ntmps33
    go_wp2
    all_goals go_ret2
    all_goals exact ⟨rfl, rfl⟩
end

end Go.Proofs.YtgleblfkcdkaeaaDoor
