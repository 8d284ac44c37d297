/- The walk of DiskDowns. -/
import Derived.Test.YtadnbdkbjajgdaaAsk
import Derived.Test.YtadnbdkbjajgdaaSmall
import Derived.Test.YtadnbdkbjajgdaaKnown
namespace Go.Proofs.Ytadnbdkbjajgdaa
open Go.RowKit Go.Sort

/-- Power is gone: no call changes anything. -/
def Still (d : Dm) : Prop := d.down = true ∧ d.left ≤ 0
theorem Still.spend {d : Dm} (h : Still d) : d.spend = d := by unfold Dm.spend; rw [if_neg (by have := h.2; omega)]
theorem Still.create {d : Dm} (h : Still d) (nm : ByteArray) : (d.create nm).1 = d := by
  unfold Dm.create; rw [h.spend, h.1]; split <;> simp
theorem Still.append {d : Dm} (h : Still d) (nm : ByteArray) (b : List Int) : (d.append nm b).1 = d := by
  have hw : d.writes b.length = false := by simp [Dm.writes, h.1]
  unfold Dm.append; rw [h.spend, hw]; split <;> simp
theorem Still.sync {d : Dm} (h : Still d) (nm : ByteArray) : (d.sync nm).1 = d := by
  unfold Dm.sync; rw [h.spend, h.1]; split <;> simp
theorem Still.cut {d : Dm} (h : Still d) (nm : ByteArray) (n : Int) : (d.cut nm n).1 = d := by
  unfold Dm.cut; rw [h.spend, h.1]; split
  · simp
  · split <;> simp
theorem Still.rename {d : Dm} (h : Still d) (nm to : ByteArray) : (d.rename nm to).1 = d := by
  unfold Dm.rename; rw [h.spend, h.1]; split
  · simp
  · split <;> simp
theorem Still.remove {d : Dm} (h : Still d) (nm : ByteArray) : (d.remove nm).1 = d := by
  unfold Dm.remove; rw [h.spend, h.1]; split <;> simp

/-- A disk from block B on, and blocks X apart from it. -/
def Dn (B : Nat) (X : List Nat) (w : World) (pb : Nat) (d : Dm) : Prop := ∃ fv vs S, Dk w pb d fv vs S ∧ (∀ k ∈ S, B ≤ k) ∧ B ≤ w.heap.size ∧ (∀ k ∈ X, k ∉ S ∧ k < w.heap.size)
def Keeps (X : List Nat) (w w' : World) : Prop := ∀ k ∈ X, w'.heap[k]? = w.heap[k]?
theorem Keeps.cell {X : List Nat} {w w' : World} (h : Keeps X w w') {a : Addr} {v : Value} (hc : w.cell? a = some v) (hk : a.block ∈ X) : w'.cell? a = some v := by
  rw [World.cell?_of_block (w := w) (h a.block hk)]; exact hc
theorem Keeps.sx {X : List Nat} {w w' : World} (h : Keeps X w w') {b off len cap : Nat} {ss : List ByteArray} (hs : Sx w (some ⟨b, off, none⟩) len cap ss) (hk : b ∈ X) : Sx w' (some ⟨b, off, none⟩) len cap ss :=
  ⟨hs.len_eq, hs.le, hs.top, fun ad ha j s hj => h.cell (hs.cell ad ha j s hj) (by cases ha; rw [add_block]; exact hk), hs.bare⟩

section
variable {B : Nat} {X : List Nat} {w w' : World} {pb : Nat} {d : Dm}
theorem Dn.dl (h : Dn B X w pb d) : Dl B w pb d := by
  obtain ⟨fv, vs, S, K, hS, hB, hX⟩ := h
  exact ⟨fv, vs, S, K, hS, hB⟩
theorem Dn.later (h : Dn B X w pb d) (hb : Below w.heap.size w w') : Dn B X w' pb d := by
  obtain ⟨fv, vs, S, K, hS, hB, hX⟩ := h
  exact ⟨fv, vs, S, K.later hb, hS, Nat.le_trans hB hb.size, fun k hk => ⟨(hX k hk).1, Nat.lt_of_lt_of_le (hX k hk).2 hb.size⟩⟩
theorem Dn.more (h : Dn B X w pb d) (hb : Below w.heap.size w w') (k0 : Nat) (h1 : w.heap.size ≤ k0) (h2 : k0 < w'.heap.size) : Dn B (k0 :: X) w' pb d := by
  obtain ⟨fv, vs, S, K, hS, hB, hX⟩ := h
  refine ⟨fv, vs, S, K.later hb, hS, Nat.le_trans hB hb.size, fun k hk => ?_⟩
  rcases List.mem_cons.1 hk with rfl | hk
  · exact ⟨fun e => by have := K.lt _ e; omega, h2⟩
  · exact ⟨(hX k hk).1, Nat.lt_of_lt_of_le (hX k hk).2 hb.size⟩
theorem Dn.less {x : Nat} (h : Dn B (x :: X) w pb d) : Dn B X w pb d := by
  obtain ⟨fv, vs, S, K, hS, hB, hX⟩ := h
  exact ⟨fv, vs, S, K, hS, hB, fun k hk => hX k (by simp [hk])⟩
theorem Dn.step {S S' : List Nat} {fv : Value} {vs : List Value} {d' : Dm} (hS : ∀ k ∈ S, B ≤ k) (hB : B ≤ w.heap.size) (hX : ∀ k ∈ X, k ∉ S ∧ k < w.heap.size) (K' : Dk w' pb d' fv vs S') (st : Step S S' w w') : Dn B X w' pb d' ∧ Keeps X w w' ∧ Below B w w' :=
  ⟨⟨fv, vs, S', K', st.from hS hB, Nat.le_trans hB st.off.size, fun k hk => ⟨fun e => by
    rcases st.sub k e with a | a
    · exact (hX k hk).1 a
    · have := (hX k hk).2; omega, Nat.lt_of_lt_of_le (hX k hk).2 st.off.size⟩⟩, fun k hk => st.off.block k (hX k hk).2 (hX k hk).1, st.below hS hB⟩

theorem create_n (h : Dn B X w pb d) (hd : Still d) (hn : d.files.length ≤ 1000000) (nm : ByteArray) (hs : nm.size ≤ 9223372036854775807) :
    Calls Try.prog 17 #[.pointer (some ⟨pb, 0, none⟩), .string nm] w fun e w' => ∃ r, e = .returned (.int .i64 r) ∧ Dn B X w' pb d ∧ Keeps X w w' ∧ Below B w w' := by
  obtain ⟨fv, vs, S, K, hS, hB, hX⟩ := h
  refine (create_any pb d fv vs S nm w K hn hs).mono ?_
  rintro e w' ⟨rfl, fv', vs', S', K', st⟩
  rw [hd.create] at K'
  exact ⟨_, rfl, Dn.step hS hB hX K' st⟩
theorem sync_n (h : Dn B X w pb d) (hd : Still d) (hn : d.files.length ≤ 1000000) (nm : ByteArray) :
    Calls Try.prog 19 #[.pointer (some ⟨pb, 0, none⟩), .string nm] w fun e w' => ∃ r, e = .returned (.int .i64 r) ∧ Dn B X w' pb d ∧ Keeps X w w' ∧ Below B w w' := by
  obtain ⟨fv, vs, S, K, hS, hB, hX⟩ := h
  refine (sync_any pb d fv vs S nm w K hn).mono ?_
  rintro e w' ⟨rfl, fv', vs', S', K', st⟩
  rw [hd.sync] at K'
  exact ⟨_, rfl, Dn.step hS hB hX K' st⟩
theorem cut_n (h : Dn B X w pb d) (hd : Still d) (hn : d.files.length ≤ 1000000) (nm : ByteArray) (n : Int) (h1 : -9223372036854775808 ≤ n) (h2 : n ≤ 9223372036854775807) :
    Calls Try.prog 26 #[.pointer (some ⟨pb, 0, none⟩), .string nm, .int .i64 n] w fun e w' => ∃ r, e = .returned (.int .i64 r) ∧ Dn B X w' pb d ∧ Keeps X w w' ∧ Below B w w' := by
  obtain ⟨fv, vs, S, K, hS, hB, hX⟩ := h
  refine (cut_any pb d fv vs S nm n w K hn h1 h2).mono ?_
  rintro e w' ⟨rfl, fv', vs', S', K', st⟩
  rw [hd.cut] at K'
  exact ⟨_, rfl, Dn.step hS hB hX K' st⟩
theorem rename_n (h : Dn B X w pb d) (hd : Still d) (hn : d.files.length ≤ 1000000) (nm to : ByteArray) (hs : to.size ≤ 9223372036854775807) :
    Calls Try.prog 20 #[.pointer (some ⟨pb, 0, none⟩), .string nm, .string to] w fun e w' => ∃ r, e = .returned (.int .i64 r) ∧ Dn B X w' pb d ∧ Keeps X w w' ∧ Below B w w' := by
  obtain ⟨fv, vs, S, K, hS, hB, hX⟩ := h
  refine (rename_any pb d fv vs S nm to w K hn hs).mono ?_
  rintro e w' ⟨rfl, fv', vs', S', K', st⟩
  rw [hd.rename] at K'
  exact ⟨_, rfl, Dn.step hS hB hX K' st⟩
theorem remove_n (h : Dn B X w pb d) (hd : Still d) (hn : d.files.length ≤ 1000000) (nm : ByteArray) :
    Calls Try.prog 27 #[.pointer (some ⟨pb, 0, none⟩), .string nm] w fun e w' => ∃ r, e = .returned (.int .i64 r) ∧ Dn B X w' pb d ∧ Keeps X w w' ∧ Below B w w' := by
  obtain ⟨fv, vs, S, K, hS, hB, hX⟩ := h
  refine (remove_any pb d fv vs S nm w K hn).mono ?_
  rintro e w' ⟨rfl, fv', vs', S', K', st⟩
  rw [hd.remove] at K'
  exact ⟨_, rfl, Dn.step hS hB hX K' st⟩
theorem append_n (h : Dn B X w pb d) (hd : Still d) (hn : d.files.length ≤ 1000000) (nm : ByteArray) (ao : Option Addr) (la ca : Nat) (xs : List Int) (t : Tx w ao la ca xs) (hlow : ∀ ad, ao = some ad → 0 < la → ad.block < B) (hla : la ≤ 100000000) :
    Calls Try.prog 18 #[.pointer (some ⟨pb, 0, none⟩), .string nm, .slice ao la ca] w fun e w' => ∃ r, e = .returned (.int .i64 r) ∧ Dn B X w' pb d ∧ Keeps X w w' ∧ Below B w w' := by
  obtain ⟨fv, vs, S, K, hS, hB, hX⟩ := h
  refine (append_any pb d fv vs S nm ao la ca xs w K hn t hla (fun ad ha h0 e => by have := hS _ e; have := hlow ad ha h0; omega)).mono ?_
  rintro e w' ⟨rfl, fv', vs', S', K', st⟩
  rw [hd.append] at K'
  exact ⟨_, rfl, Dn.step hS hB hX K' st⟩
theorem names_n (h : Dl B w pb d) (n : Nat) (ss : List ByteArray) (hf : d.files.length = n) (hs : d.files.map (fun f => f.name) = ss) (hn : n ≤ 1000000) (h0 : 0 < n) :
    Calls Try.prog 23 #[.pointer (some ⟨pb, 0, none⟩)] w fun e w' => ∃ b off cap, e = .returned (.slice (some ⟨b, off, none⟩) n cap) ∧ Sx w' (some ⟨b, off, none⟩) n cap ss ∧ w.heap.size ≤ b ∧ b < w'.heap.size ∧ Below w.heap.size w w' := by
  obtain ⟨fv, vs, S, K, hS, hB⟩ := h
  subst hf hs
  refine (names_any pb d fv vs S w K hn).mono ?_
  rintro e w' ⟨ao, cap, rfl, hx, hb, hbel⟩
  obtain ⟨b, off, rfl, _⟩ := hx.head h0
  have := hb _ rfl
  exact ⟨b, off, cap, rfl, hx, this.1, this.2, hbel⟩
end

abbrev anm : ByteArray := ⟨#[97]⟩
def oneA (xs : List Int) (s : Nat) (left : Int) (dn : Bool) : Dm := ⟨1000, [⟨anm, xs, s⟩], left, dn⟩
theorem oneA_get (xs : List Int) (s : Nat) (left : Int) (dn : Bool) : get (oneA xs s left dn).files anm = some ⟨anm, xs, s⟩ := by simp [oneA, get]
theorem oneA_put (xs ys : List Int) (s t : Nat) (left : Int) (dn : Bool) : put (oneA xs s left dn).files ⟨anm, ys, t⟩ = [⟨anm, ys, t⟩] := by simp [oneA, put, lo, hi, nlt_irrefl]
theorem oneA_used (xs : List Int) (s : Nat) (left : Int) (dn : Bool) : used (oneA xs s left dn).files = xs.length := by simp [oneA, used]
theorem oneA_files (xs : List Int) (s : Nat) (left : Int) (dn : Bool) : (oneA xs s left dn).files.length ≤ 1000000 := by simp [oneA]
theorem oneA_len (xs : List Int) (s : Nat) (left : Int) (dn : Bool) : (oneA xs s left dn).files.length = 1 := rfl
theorem oneA_names (xs : List Int) (s : Nat) (left : Int) (dn : Bool) : (oneA xs s left dn).files.map (fun f => f.name) = [anm] := rfl
theorem oneA_create : (⟨1000, [], 0, false⟩ : Dm).create anm = (oneA [] 0 0 false, 0) := by
  rw [create_calm rfl rfl (by decide)]; simp [oneA, put, lo, hi]
theorem oneA_append (xs b : List Int) (s : Nat) (h : xs.length + b.length ≤ 1000) : (oneA xs s 0 false).append anm b = (oneA (xs ++ b) s 0 false, 0) := by
  rw [append_calm rfl rfl (oneA_get xs s 0 false) b (by rw [oneA_used]; simp [oneA]; omega), oneA_put]; rfl
theorem oneA_arm (xs : List Int) (s : Nat) (n : Int) : (oneA xs s 0 false).arm n = oneA xs s n false := rfl
theorem oneA_sync (xs : List Int) (s : Nat) (m : Int) (h : 2 ≤ m) : (oneA xs s m false).sync anm = (oneA xs xs.length (m - 1) false, 0) := by
  have hs : (oneA xs s m false).spend = oneA xs s (m - 1) false := by
    unfold Dm.spend; rw [if_pos (show 0 < (oneA xs s m false).left by simp [oneA]; omega)]
    have h1 : decide (m - 1 = 0) = false := by simp; omega
    show (⟨1000, [⟨anm, xs, s⟩], m - 1, decide (m - 1 = 0)⟩ : Dm) = _
    rw [h1]; rfl
  unfold Dm.sync
  rw [oneA_get, hs]
  simp only
  rw [oneA_put]; simp [oneA]
theorem oneA_last (xs : List Int) (s : Nat) : (oneA xs s 1 false).sync anm = (oneA xs s 0 true, 13) := by
  have hs : (oneA xs s 1 false).spend = oneA xs s 0 true := by
    unfold Dm.spend; rw [if_pos (show 0 < (oneA xs s 1 false).left by simp [oneA])]
    simp [oneA]
  unfold Dm.sync
  rw [oneA_get, hs]
  simp [oneA]
theorem oneA_crash (xs : List Int) (s : Nat) (l : Int) (dn : Bool) : ∃ ys t, ys.length ≤ xs.length ∧ (oneA xs s l dn).crash 0 = oneA ys t 0 false := ⟨xs.take (s + min (0 : Int).toNat (xs.length - s)), s + min (0 : Int).toNat (xs.length - s), by simp; omega, by simp [oneA, Dm.crash, Fl.crash]⟩
theorem oneA_still (xs : List Int) (s : Nat) : Still (oneA xs s 0 true) := ⟨rfl, by simp [oneA]⟩
theorem fname_size (n : Int) (s : ByteArray) (hs : s.size ≤ 9223372036854775807) : (fname n s).size ≤ 9223372036854775807 := by
  unfold fname
  repeat' split
  all_goals first
    | decide
    | (unfold headN; split
       · simp [ByteArray.size_extract]; omega
       · exact hs)

end Go.Proofs.Ytadnbdkbjajgdaa
