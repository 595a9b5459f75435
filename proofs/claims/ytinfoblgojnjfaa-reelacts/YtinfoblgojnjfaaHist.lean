/-
  What deeds do to files, and what undoing them does: files as functions of their numbers.
-/
import Derived.Test.YtinfoblgojnjfaaBack5
namespace Go.Proofs.Ytinfoblgojnjfaa
open Go.RowKit Go.Maps

abbrev Fs := Int → Option (List UInt8)

def Fs.set (f : Fs) (k : Int) (x : Option (List UInt8)) : Fs := fun j => if j = k then x else f j

def filesF (l : List Fl) : Fs := fun k => (get k l).map (·.2.2)

theorem filesF_put {l : List Fl} (h : Srt l) (k : Int) (v : Value) (b : List UInt8) : filesF (put k v b l) = (filesF l).set k (some b) := by
  funext j
  unfold filesF Fs.set
  rw [get_put h]
  split <;> simp_all

theorem filesF_del {l : List Fl} (h : Srt l) (k : Int) : filesF (del k l) = (filesF l).set k none := by
  funext j
  unfold filesF Fs.set
  rw [get_del h]
  split <;> simp_all

theorem set_set (f : Fs) (k : Int) (x y : Option (List UInt8)) : (f.set k x).set k y = f.set k y := by
  funext j
  unfold Fs.set
  split <;> simp_all

theorem set_self (f : Fs) (k : Int) (x : Option (List UInt8)) (h : f k = x) : f.set k x = f := by
  funext j
  unfold Fs.set
  split
  · rename_i e
    rw [e, h]
  · rfl

theorem set_at (f : Fs) (k : Int) (x : Option (List UInt8)) : f.set k x k = x := by simp [Fs.set]

/-- What a deed does. -/
def step (f : Fs) (d : Dd) : Fs := if d.drop then f.set d.file none else f.set d.file (some ((f d.file).getD [] ++ d.data))

/-- A deed that could be done. -/
def okD (f : Fs) (d : Dd) : Prop := if d.drop then f d.file = some d.data else d.fresh = (f d.file).isNone

def replay (f : Fs) (ds : List Dd) : Fs := ds.foldl step f

def okAll : Fs → List Dd → Prop
  | _, [] => True
  | f, d :: r => okD f d ∧ okAll (step f d) r

theorem replay_append (f : Fs) (a b : List Dd) : replay f (a ++ b) = replay (replay f a) b := by simp [replay]
theorem replay_one (f : Fs) (d : Dd) : replay f [d] = step f d := rfl

theorem okAll_append : ∀ (f : Fs) (a b : List Dd), okAll f (a ++ b) ↔ okAll f a ∧ okAll (replay f a) b
  | f, [], b => by simp [okAll, replay]
  | f, d :: r, b => by
    show okD f d ∧ okAll (step f d) (r ++ b) ↔ (okD f d ∧ okAll (step f d) r) ∧ okAll (replay (step f d) r) b
    rw [okAll_append (step f d) r b, and_assoc]

/-- So many units of a deed. -/
def part (f : Fs) (d : Dd) (n : Nat) : Fs := if n = 0 then f else step f { d with data := d.data.take n }

/-- The last deed undone but n units. -/
theorem back_any {w : World} {B : Nat} {R : Rw} (h : Mem w B R) {ds : List (Dd × Value)} {d : Dd} {v : Value} (he : R.ds = ds ++ [(d, v)]) {f : Fs} (hf : filesF R.fs = step f d) (hok : okD f d) (n : Nat) (hn : n = 0 ∨ n < d.units)
    (hb : R.bulk ≤ 1099511627776) :
    Calls Try.prog 41 #[ptr R.p, .agg #[.int .i64 d.file, .int .i64 (d.units : Int), .bool d.fresh, .bool d.drop, v], .int .i64 (n : Int)] w fun e w' => e = .returned (.tuple #[]) ∧
      ∃ fs, Mem w' B (R.back fs ds d v) ∧ Moves w R w' (R.back fs ds d v) ∧ filesF fs = part f d n ∧ size (R.back fs ds d v).rows ≤ size R.rows := by
  cases hd : d.drop
  · -- bytes were appended
    have hfile : filesF R.fs d.file = some ((f d.file).getD [] ++ d.data) := by rw [hf]; simp [step, hd, set_at]
    have hfr : d.fresh = (f d.file).isNone := by simpa [okD, hd] using hok
    have hun : d.units = d.data.length := by simp [Dd.units, hd]
    unfold filesF at hfile
    cases hg : get d.file R.fs with
    | none => rw [hg] at hfile; cases hfile
    | some p =>
      obtain ⟨j, vb, b⟩ := p
      obtain ⟨hmem, hj⟩ := get_some hg
      simp only at hj
      subst hj
      rw [hg] at hfile
      simp only [Option.map_some, Option.some.injEq] at hfile
      have hat : R.at d.file vb b := .inl hg
      have hrow := Rw.at_row h hat
      obtain ⟨_, _, _, hsz, _⟩ := Rw.at_rest h hat
      rw [rest_last he] at hsz
      have hbl : b.length ≤ R.bulk := by unfold Rw.bulk; omega
      have hdl : d.data.length ≤ b.length := by rw [hfile]; simp
      by_cases hcase : d.fresh = true ∧ n = 0
      · obtain ⟨h1, rfl⟩ := hcase
        have hnone : f d.file = none := by
          rw [h1] at hfr
          simpa using hfr.symm
        have hbd : b = d.data := by rw [hfile, hnone]; rfl
        have key := back_fresh h he hd h1 hg (by rw [hbd]) hb
        rw [hd] at key
        rw [show ((0 : Nat) : Int) = 0 from rfl]
        refine key.mono ?_
        rintro e w1 ⟨rfl, hm, hmv⟩
        refine ⟨rfl, _, hm, hmv, ?_, ?_⟩
        · rw [filesF_del h.srt, hf]
          simp [part, step, hd, set_set, set_self f d.file none hnone]
        · show size ((del d.file R.fs).map (·.2) ++ ds.map fun d => (d.2, d.1.lost)) ≤ _
          rw [hsz]
          simp [size]
          omega
      · obtain ⟨ao, nn, cp, rfl⟩ := row_slice hrow
        have hln : nn = b.length := by
          rcases hrow.2 with ⟨e, e'⟩ | ⟨g, cap, cur, e, _⟩
          · simp only [Value.slice.injEq] at e
            omega
          · simp only [Value.slice.injEq] at e
            omega
        subst hln
        have hnle : n ≤ d.data.length := by omega
        have key := back_trim h he hd n (by
            rcases Nat.eq_zero_or_pos n with h0 | h0
            · left
              cases hx : d.fresh
              · rfl
              · exact absurd ⟨hx, h0⟩ hcase
            · right
              omega) hg (b.length - (d.data.length - n)) (d.data.length - n) (by rw [hun]; omega) (by omega) hb (by omega)
        rw [hd] at key
        refine key.mono ?_
        rintro e w1 ⟨rfl, hm, hmv⟩
        have htk : b.take (b.length - (d.data.length - n)) = (f d.file).getD [] ++ d.data.take n := by
          have hlb : b.length = ((f d.file).getD []).length + d.data.length := by rw [hfile]; simp
          rw [show b.length - (d.data.length - n) = ((f d.file).getD []).length + n by omega]
          conv => lhs; rw [hfile]
          rw [List.take_append]
          simp
          exact List.take_of_length_le (by omega)
        refine ⟨rfl, _, hm, hmv, ?_, ?_⟩
        · rw [filesF_put h.srt, hf, htk]
          unfold part
          by_cases h0 : n = 0
          · rw [if_pos h0]
            have hns : f d.file = some ((f d.file).getD []) := by
              cases hx : f d.file with
              | none =>
                rw [hx] at hfr
                exact absurd ⟨hfr, h0⟩ hcase
              | some y => rfl
            subst h0
            simp only [step, hd, Bool.false_eq_true, if_false, set_set, List.take_zero, List.append_nil]
            exact set_self f d.file _ hns
          · rw [if_neg h0]
            simp [step, hd, set_set]
        · have hperm : (R.back (put d.file (.slice ao (b.length - (d.data.length - n)) cp) (b.take (b.length - (d.data.length - n))) R.fs) ds d v).rows.Perm ((.slice ao (b.length - (d.data.length - n)) cp, b.take (b.length - (d.data.length - n))) :: ((del d.file R.fs).map (·.2) ++ ds.map fun d => (d.2, d.1.lost))) := by
            have := ((perm_ins (d.file, .slice ao (b.length - (d.data.length - n)) cp, b.take (b.length - (d.data.length - n))) (del d.file R.fs)).map (·.2)).append_right (ds.map fun d => (d.2, d.1.lost))
            simpa [Rw.rows, Rw.back, put] using this
          rw [size_perm hperm, size_cons, hsz]
          simp [size]
          omega
  · -- a file was dropped
    have hn0 : n = 0 := by
      have : d.units = 1 := by simp [Dd.units, hd]
      omega
    subst hn0
    have hfd : f d.file = some d.data := by simpa [okD, hd] using hok
    have hnone : get d.file R.fs = none := by
      have : filesF R.fs d.file = none := by rw [hf]; simp [step, hd, set_at]
      simpa [filesF] using this
    have key := back_drop h he hd hnone hb 0
    rw [hd] at key
    rw [show ((0 : Nat) : Int) = 0 from rfl]
    refine key.mono ?_
    rintro e w1 ⟨rfl, hm, hmv⟩
    refine ⟨rfl, _, hm, hmv, ?_, ?_⟩
    · rw [filesF_put h.srt, hf]
      simp [part, step, hd, set_set, set_self f d.file _ hfd]
    · have hlost : d.lost = d.data := by simp [Dd.lost, hd]
      have hperm : (R.back (put d.file v d.data R.fs) ds d v).rows.Perm R.rows := by
        refine List.Perm.trans ?_ (rows_last he).symm
        rw [hlost]
        unfold Rw.rows Rw.back put
        have := ((perm_ins (d.file, v, d.data) (del d.file R.fs)).map (·.2)).append_right (ds.map fun d => (d.2, d.1.lost))
        rw [del_none (get_none hnone)] at this ⊢
        simpa using this
      rw [size_perm hperm]
      exact Nat.le_refl _

end Go.Proofs.Ytinfoblgojnjfaa
