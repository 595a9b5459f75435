/-
  How deep expressions are.
-/
import Derived.Test.YtdlkpkldlljhcaaDoorDeepx
import Derived.Test.YtdlkpkldlljhcaaDoorRdep
import Derived.Test.YtdlkpkldlljhcaaDoorGref
import Derived.Test.YtdlkpkldlljhcaaDoorEvals
namespace Go.Proofs.YtdlkpkldlljhcaaDoor
open Go.RowKit


theorem E.depth_pos (e : E) : 1 ≤ e.depth := by cases e <;> simp [E.depth]

theorem E.alone {e : E} (h : e.ok) : aloneN e.toN.kind e.toN.text.toList e.toN.num e.toN.args.length = true := by
  have q3 : (⟨#[]⟩ : ByteArray).toList = [] := by rw [ByteArray.toList_eq]
  cases e with
  | path t =>
    obtain ⟨h1, h2⟩ := h
    simp [aloneN, E.toN, N.kind, N.text, N.num, N.args, toB_toList, digs, h1, h2]
  | num n =>
    have h : n < 1000000000000000 := h
    have h1 : (n : Int) ≤ 999999999999999 := by omega
    simp [aloneN, E.toN, N.kind, N.text, N.num, N.args, q3, h1]
  | sum a b => simp [aloneN, E.toN, N.kind, N.text, N.num, N.args, q3]
  | mul a b => simp [aloneN, E.toN, N.kind, N.text, N.num, N.args, q3]
  | call f a => simp [aloneN, E.toN, N.kind, N.text, N.num, N.args, toB_toList, h.1]

theorem fits_deep : ∀ (k : Nat) (e : E), e.ok → (fitsN k e.toN = true ↔ e.depth ≤ k) := by
  intro k
  induction k with
  | zero => intro e _; have := e.depth_pos; simp [fitsN]; omega
  | succ k ih =>
    intro e h
    rw [fitsN, E.alone h, Bool.true_and]
    cases e with
    | path t => simp [E.toN, N.args, E.depth]
    | num n => simp [E.toN, N.args, E.depth]
    | sum a b =>
      simp only [E.toN, N.args, List.all_cons, List.all_nil, Bool.and_true, Bool.and_eq_true, E.depth, ih a h.1, ih b h.2]
      omega
    | mul a b =>
      simp only [E.toN, N.args, List.all_cons, List.all_nil, Bool.and_true, Bool.and_eq_true, E.depth, ih a h.1, ih b h.2]
      omega
    | call f a =>
      simp only [E.toN, N.args, List.all_cons, List.all_nil, Bool.and_true, E.depth, ih a h.2]
      omega

theorem depth_E : ∀ (m : Nat) (e : E), depthN m e.toN = min e.depth (m + 1) := by
  intro m
  induction m with
  | zero => intro e; have := e.depth_pos; simp only [depthN]; omega
  | succ m ih =>
    intro e
    cases e with
    | path t => simp [depthN, E.toN, N.args, mx, E.depth]
    | num n => simp [depthN, E.toN, N.args, mx, E.depth]
    | sum a b => simp only [depthN, E.toN, N.args, List.map_cons, List.map_nil, mx, ih, E.depth]; omega
    | mul a b => simp only [depthN, E.toN, N.args, List.map_cons, List.map_nil, mx, ih, E.depth]; omega
    | call f a => simp only [depthN, E.toN, N.args, List.map_cons, List.map_nil, mx, ih, E.depth]; omega

/-- There are nodes so deep. -/
def hasN : Nat → List N → Prop
  | 0, ts => ts ≠ []
  | j + 1, ts => ∃ t ∈ ts, hasN j t.args

theorem has_E : ∀ (j : Nat) (e : E), j < e.depth → hasN j [e.toN] := by
  intro j
  induction j with
  | zero => intro e _; simp [hasN]
  | succ j ih =>
    intro e h
    refine ⟨e.toN, by simp, ?_⟩
    have up : ∀ (x : N) (l : List N), x ∈ l → hasN j [x] → hasN j l := by
      intro x l hx hj
      cases j with
      | zero => exact List.ne_nil_of_mem hx
      | succ j =>
        obtain ⟨t, ht, h⟩ := hj
        rw [List.mem_singleton.1 ht] at h
        exact ⟨x, hx, h⟩
    cases e with
    | path t => simp [E.depth] at h
    | num n => simp [E.depth] at h
    | sum a b =>
      simp only [E.depth] at h
      simp only [E.toN, N.args]
      by_cases ha : j < a.depth
      · exact up a.toN _ (by simp) (ih a ha)
      · exact up b.toN _ (by simp) (ih b (by omega))
    | mul a b =>
      simp only [E.depth] at h
      simp only [E.toN, N.args]
      by_cases ha : j < a.depth
      · exact up a.toN _ (by simp) (ih a ha)
      · exact up b.toN _ (by simp) (ih b (by omega))
    | call f a =>
      simp only [E.depth] at h
      simp only [E.toN, N.args]
      exact up a.toN _ (by simp) (ih a (by omega))

theorem hasN_ne : ∀ (j : Nat) (ts : List N), hasN j ts → ts ≠ [] := by
  intro j
  cases j with
  | zero => intro ts h; exact h
  | succ j => rintro ts ⟨t, ht, _⟩; exact List.ne_nil_of_mem ht

theorem cov_has {xs ys : List (Value × List N)} {j : Nat} (h : Cov xs ys) (hx : ∃ x ∈ xs, hasN (j + 1) x.2) : ∃ y ∈ ys, hasN j y.2 := by
  obtain ⟨x, hx, t, ht, hj⟩ := hx
  obtain ⟨y, hy, e⟩ := h x hx t ht (hasN_ne j _ hj)
  exact ⟨y, hy, by rw [e]; exact hj⟩

theorem G.nodes {lv : Lv} {s : List UInt8} {e : E} (h : G lv s e) : e.nodes ≤ s.length := by
  induction h with
  | @leaf s e h =>
    have hne := (leaf_wc h).2
    have hl : 0 < s.length := List.length_pos_iff.2 hne
    unfold leafE at h
    split at h
    · split at h
      · cases h
      · cases h; simp only [E.nodes]; omega
    · split at h
      · cases h; simp only [E.nodes]; omega
      · cases h
  | paren _ ih => simp; omega
  | call hn _ ih => simp [E.nodes]; omega
  | up1 _ ih => exact ih
  | mul _ _ iha ihb => simp [E.nodes]; omega
  | up2 _ ih => exact ih
  | add _ _ iha ihb => simp [E.nodes]; omega

end Go.Proofs.YtdlkpkldlljhcaaDoor
