/- A list written and read on a plain disk, power that goes at any call of it. -/
import Derived.Test.YtgleblfkcdkaeaaDoorDLaw
import Derived.Test.YtgleblfkcdkaeaaDoorMMod
namespace Go.Proofs.YtgleblfkcdkaeaaDoor
set_option maxRecDepth 100000

abbrev nmNew : ByteArray := ⟨#[110, 101, 119]⟩
abbrev nmList : ByteArray := ⟨#[108, 105, 115, 116]⟩
theorem nlt_ln : nlt nmList nmNew = true := by decide +kernel
theorem nlt_nl : nlt nmNew nmList = false := by decide +kernel
theorem ne_ln : ¬ nmList = nmNew := by decide
theorem ne_nl : ¬ nmNew = nmList := by decide
theorem ok_new : okName nmNew = true := by decide
theorem ok_list : okName nmList = true := by decide

def Dm.wrote (d : Dm) (b : List Int) : Dm × Int :=
  if (d.create nmNew).2 ≠ 0 then d.create nmNew
  else if ((d.create nmNew).1.append nmNew b).2 ≠ 0 then (d.create nmNew).1.append nmNew b
  else if (((d.create nmNew).1.append nmNew b).1.sync nmNew).2 ≠ 0 then ((d.create nmNew).1.append nmNew b).1.sync nmNew
  else (((d.create nmNew).1.append nmNew b).1.sync nmNew).1.rename nmNew nmList

def fL (x : List Int) (s : Nat) : Fl := ⟨nmList, x, s⟩
def fN (z : List Int) (s : Nat) : Fl := ⟨nmNew, z, s⟩

theorem put_n0 (z : List Int) (s : Nat) : put [] ⟨nmNew, z, s⟩ = [fN z s] := by simp [put, lo, hi, fN]
theorem put_n1 (z y : List Int) (s t : Nat) : put [fN y t] ⟨nmNew, z, s⟩ = [fN z s] := by simp [put, lo, hi, fN, nlt_irrefl]
theorem put_n2 (z x : List Int) (s t : Nat) : put [fL x t] ⟨nmNew, z, s⟩ = [fL x t, fN z s] := by simp [put, lo, hi, fN, fL, nlt_ln, nlt_nl]
theorem put_n3 (z x y : List Int) (s t u : Nat) : put [fL x t, fN y u] ⟨nmNew, z, s⟩ = [fL x t, fN z s] := by simp [put, lo, hi, fN, fL, nlt_ln, nlt_nl, nlt_irrefl]
theorem get_n1 (y : List Int) (t : Nat) : get [fN y t] nmNew = some (fN y t) := by simp [get, fN]
theorem get_n3 (x y : List Int) (t u : Nat) : get [fL x t, fN y u] nmNew = some (fN y u) := by simp [get, fN, fL]
theorem mv1 (y : List Int) (t : Nat) : put (del [fN y t] nmNew) ⟨nmList, y, t⟩ = [fL y t] := by simp [put, del, lo, hi, fN, fL, nlt_irrefl]
theorem mv3 (x y : List Int) (t u : Nat) : put (del [fL x t, fN y u] nmNew) ⟨nmList, y, u⟩ = [fL y u] := by simp [put, del, lo, hi, fN, fL, nlt_irrefl, nlt_ln, nlt_nl]
theorem get_l0 : get [] nmList = none := rfl
theorem get_l1 (x : List Int) (t : Nat) : get [fL x t] nmList = some (fL x t) := by simp [get, fL]
theorem get_l3 (x y : List Int) (t u : Nat) : get [fL x t, fN y u] nmList = some (fL x t) := by simp [get, fL]

/-- What may stand there: a list or none, and what an earlier Write left, or none. -/
def Stands (l : List Fl) (x : Option (List Int × Nat)) : Prop := l = (x.map (fun p => fL p.1 p.2)).toList ∨ ∃ z s, z.length ≤ 2000 ∧ l = (x.map (fun p => fL p.1 p.2)).toList ++ [fN z s]

theorem wrote_c {d D : Dm} {b : List Int} {r : Int} (h : d.create nmNew = (D, r)) (hr : r ≠ 0) : d.wrote b = (D, r) := by
  unfold Dm.wrote; rw [h, if_pos hr]
theorem wrote_a {d d1 D : Dm} {b : List Int} {r : Int} (h : d.create nmNew = (d1, 0)) (h2 : d1.append nmNew b = (D, r)) (hr : r ≠ 0) : d.wrote b = (D, r) := by
  unfold Dm.wrote; rw [h, if_neg (by simp)]; simp only; rw [h2, if_pos hr]
theorem wrote_s {d d1 d2 D : Dm} {b : List Int} {r : Int} (h : d.create nmNew = (d1, 0)) (h2 : d1.append nmNew b = (d2, 0)) (h3 : d2.sync nmNew = (D, r)) (hr : r ≠ 0) : d.wrote b = (D, r) := by
  unfold Dm.wrote; rw [h, if_neg (by simp)]; simp only; rw [h2, if_neg (by simp)]; simp only; rw [h3, if_pos hr]
theorem wrote_r {d d1 d2 d3 : Dm} {b : List Int} (h : d.create nmNew = (d1, 0)) (h2 : d1.append nmNew b = (d2, 0)) (h3 : d2.sync nmNew = (d3, 0)) : d.wrote b = d3.rename nmNew nmList := by
  unfold Dm.wrote; rw [h, if_neg (by simp)]; simp only; rw [h2, if_neg (by simp)]; simp only; rw [h3, if_neg (by simp)]

def l0 (x : Option (List Int × Nat)) : List Fl := (x.map (fun p => fL p.1 p.2)).toList
theorem put_st {l : List Fl} {x : Option (List Int × Nat)} (h : Stands l x) (z : List Int) (s : Nat) : put l ⟨nmNew, z, s⟩ = l0 x ++ [fN z s] := by
  rcases h with rfl | ⟨y, t, _, rfl⟩ <;> cases x
  · exact put_n0 z s
  · exact put_n2 z _ s _
  · exact put_n1 z y s t
  · exact put_n3 z _ y s _ t
theorem st_l0 (x : Option (List Int × Nat)) (z : List Int) (s : Nat) (hz : z.length ≤ 2000) : Stands (l0 x ++ [fN z s]) x := .inr ⟨z, s, hz, rfl⟩
theorem get_st (x : Option (List Int × Nat)) (z : List Int) (s : Nat) : get (l0 x ++ [fN z s]) nmNew = some (fN z s) := by
  cases x
  · exact get_n1 z s
  · exact get_n3 _ z _ s
theorem mv_st (x : Option (List Int × Nat)) (z : List Int) (s : Nat) : put (del (l0 x ++ [fN z s]) nmNew) ⟨nmList, z, s⟩ = [fL z s] := by
  cases x
  · exact mv1 z s
  · exact mv3 _ z _ s
def len0 (x : Option (List Int × Nat)) : Nat := (x.map (fun p => p.1.length)).getD 0
theorem used_st (x : Option (List Int × Nat)) (z : List Int) (s : Nat) : used (l0 x ++ [fN z s]) = len0 x + z.length := by
  cases x <;> simp [used, l0, len0, fN, fL]

theorem put2 (x : Option (List Int × Nat)) (y z : List Int) (t s : Nat) : put (l0 x ++ [fN y t]) ⟨nmNew, z, s⟩ = l0 x ++ [fN z s] := by
  cases x
  · exact put_n1 z y s t
  · exact put_n3 z _ y s _ t

/-- A call while power lasts. -/
def after (k : Int) : Int := if 0 < k then k - 1 else k
theorem spend_on (lim : Nat) (l : List Fl) (k : Int) (h : k ≠ 1) : (⟨lim, l, k, false⟩ : Dm).spend = ⟨lim, l, after k, false⟩ := by
  unfold Dm.spend after
  by_cases h0 : 0 < k
  · simp only [h0, if_true]; congr 1; simp; omega
  · simp only [h0, if_false]
theorem spend_last (lim : Nat) (l : List Fl) : (⟨lim, l, 1, false⟩ : Dm).spend = ⟨lim, l, 0, true⟩ := by
  unfold Dm.spend; simp

section
variable {lim : Nat} {l : List Fl} {x : Option (List Int × Nat)} {k : Int} {b : List Int}
theorem create_on (h : Stands l x) (hk : k ≠ 1) : (⟨lim, l, k, false⟩ : Dm).create nmNew = (⟨lim, l0 x ++ [fN [] 0], after k, false⟩, 0) := by
  simp only [Dm.create, ok_new, spend_on lim l k hk]
  exact congrArg (fun l => ((⟨lim, l, after k, false⟩ : Dm), (0 : Int))) (put_st h [] 0)
theorem create_off : (⟨lim, l, 1, false⟩ : Dm).create nmNew = (⟨lim, l, 0, true⟩, 13) := by
  simp [Dm.create, ok_new, spend_last]
theorem append_on (hk : k ≠ 1) (hr : b.length + len0 x ≤ lim) : (⟨lim, l0 x ++ [fN [] 0], k, false⟩ : Dm).append nmNew b = (⟨lim, l0 x ++ [fN b 0], after k, false⟩, 0) := by
  have hw : (⟨lim, l0 x ++ [fN [] 0], k, false⟩ : Dm).writes b.length = true := by simp [Dm.writes, used_st]; omega
  simp only [Dm.append, get_st, hw, spend_on lim _ k hk, if_true, and_true]
  exact congrArg (fun l => ((⟨lim, l, after k, false⟩ : Dm), (0 : Int))) (put2 x [] b 0 0)
theorem append_off (hr : b.length + len0 x ≤ lim) : (⟨lim, l0 x ++ [fN [] 0], 1, false⟩ : Dm).append nmNew b = (⟨lim, l0 x ++ [fN b 0], 0, true⟩, 13) := by
  have hw : (⟨lim, l0 x ++ [fN [] 0], 1, false⟩ : Dm).writes b.length = true := by simp [Dm.writes, used_st]; omega
  simp only [Dm.append, get_st, hw, spend_last, if_true]
  exact congrArg (fun l => ((⟨lim, l, 0, true⟩ : Dm), (13 : Int))) (put2 x [] b 0 0)
theorem sync_on (hk : k ≠ 1) : (⟨lim, l0 x ++ [fN b 0], k, false⟩ : Dm).sync nmNew = (⟨lim, l0 x ++ [fN b b.length], after k, false⟩, 0) := by
  simp only [Dm.sync, get_st, spend_on lim _ k hk]
  exact congrArg (fun l => ((⟨lim, l, after k, false⟩ : Dm), (0 : Int))) (put2 x b b 0 b.length)
theorem sync_off : (⟨lim, l0 x ++ [fN b 0], 1, false⟩ : Dm).sync nmNew = (⟨lim, l0 x ++ [fN b 0], 0, true⟩, 13) := by
  simp [Dm.sync, get_st, spend_last]
theorem rename_on (hk : k ≠ 1) : (⟨lim, l0 x ++ [fN b b.length], k, false⟩ : Dm).rename nmNew nmList = (⟨lim, [fL b b.length], after k, false⟩, 0) := by
  simp only [Dm.rename, get_st, ok_list, spend_on lim _ k hk]
  exact congrArg (fun l => ((⟨lim, l, after k, false⟩ : Dm), (0 : Int))) (mv_st x b b.length)
theorem rename_off : (⟨lim, l0 x ++ [fN b b.length], 1, false⟩ : Dm).rename nmNew nmList = (⟨lim, l0 x ++ [fN b b.length], 0, true⟩, 13) := by
  simp [Dm.rename, get_st, ok_list, spend_last]

/-- A Write, power that goes at any call of it: whole, or nothing that is told. -/
theorem wrote_any (h : Stands l x) (h0 : 0 ≤ k) (hr : b.length + len0 x ≤ lim) (hb : b.length ≤ 2000) :
    (∃ j, (⟨lim, l, k, false⟩ : Dm).wrote b = (⟨lim, [fL b b.length], j, false⟩, 0) ∧ (k = 0 → j = 0) ∧ (k = 0 ∨ 4 < k)) ∨ (∃ l', Stands l' x ∧ (⟨lim, l, k, false⟩ : Dm).wrote b = (⟨lim, l', 0, true⟩, 13) ∧ 1 ≤ k ∧ k ≤ 4) := by
  by_cases k1 : k = 1
  · subst k1; exact .inr ⟨l, h, wrote_c create_off (by decide), by omega, by omega⟩
  by_cases k2 : after k = 1
  · have : k = 2 := by unfold after at k2; split at k2 <;> omega
    exact .inr ⟨_, st_l0 x b 0 hb, wrote_a (create_on h k1) (by rw [k2]; exact append_off hr) (by decide), by omega, by omega⟩
  by_cases k3 : after (after k) = 1
  · have : k = 3 := by unfold after at k3; (repeat' split at k3) <;> omega
    exact .inr ⟨_, st_l0 x b 0 hb, wrote_s (create_on h k1) (append_on k2 hr) (by rw [k3]; exact sync_off) (by decide), by omega, by omega⟩
  by_cases k4 : after (after (after k)) = 1
  · have : k = 4 := by unfold after at k4; (repeat' split at k4) <;> omega
    refine .inr ⟨_, st_l0 x b b.length hb, ?_, by omega, by omega⟩
    rw [wrote_r (create_on h k1) (append_on k2 hr) (sync_on k3), k4]; exact rename_off
  · have hz : k = 0 → after (after (after (after k))) = 0 := fun e => by rw [e]; rfl
    refine .inl ⟨after (after (after (after k))), ?_, hz, ?_⟩
    · rw [wrote_r (create_on h k1) (append_on k2 hr) (sync_on k3)]; exact rename_on k4
    · unfold after at k2 k3 k4; (repeat' split at k2) <;> (repeat' split at k3) <;> (repeat' split at k4) <;> omega
end

/-- What a crash leaves: the list whole, if it was synced; beside it, maybe, what a Write had begun. -/
theorem crash_st {l : List Fl} {y : List Int} (h : Stands l (some (y, y.length))) (keep : Int) : Stands (l.map (fun f => f.crash keep)) (some (y, y.length)) := by
  have e : (fL y y.length).crash keep = fL y y.length := by simp [Fl.crash, fL]
  rcases h with rfl | ⟨z, s, hz, rfl⟩
  · left; simp [e]
  · right
    refine ⟨((fN z s).crash keep).data, ((fN z s).crash keep).synced, ?_, ?_⟩
    · simp [Fl.crash, fN]; omega
    · simp only [List.map_append, List.map_cons, List.map_nil, Option.map_some, Option.toList_some, e]; rfl
theorem get_st_list {l : List Fl} {p : List Int × Nat} (h : Stands l (some p)) : get l nmList = some (fL p.1 p.2) := by
  rcases h with rfl | ⟨z, s, _, rfl⟩
  · exact get_l1 _ _
  · exact get_l3 _ _ _ _
theorem st_length {l : List Fl} {x : Option (List Int × Nat)} (h : Stands l x) : l.length ≤ 2 := by
  rcases h with rfl | ⟨z, s, _, rfl⟩ <;> cases x <;> simp
theorem st_one (y : List Int) (s : Nat) : Stands [fL y s] (some (y, s)) := .inl rfl
theorem st_none : Stands [] none := .inl rfl
end Go.Proofs.YtgleblfkcdkaeaaDoor
