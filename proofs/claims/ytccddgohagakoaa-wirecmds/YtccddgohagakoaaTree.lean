/-
  Cells as trees, and as they lie in memory; the functions Num and Text of package cell, by contracts.
-/
import Derived.Test.YtccddgohagakoaaSums
namespace Go.Proofs.Ytccddgohagakoaa
open Go.RowKit
attribute [local go_sem] cell?_more frozen?_more setCell_more size_more tape_more drew_more drewN_more more_drew more_drewN one_out plus_out plus_end lt_one le_p2 le_p3 le_p4 le_p5 le_p6 le_p7 le_p8 le_p9 le_p10 le_p11 le_p12 le_p13 le_p14 le_p15 le_p16 le_p17 le_p18 le_p19 le_p20 le_p21 le_p22 le_p23 le_p24 le_q0 le_q1 lt_q1 le_q2 lt_q2 le_q3 lt_q3 le_q4 lt_q4 le_q5 lt_q5 le_q6 lt_q6 le_q7 lt_q7 le_q8 lt_q8 le_q9 lt_q9 le_q10 lt_q10 le_q11 lt_q11 le_q12 lt_q12 le_q13 lt_q13 le_q14 lt_q14 le_q15 lt_q15 le_q16 lt_q16 le_q17 lt_q17 le_q18 lt_q18 le_q19 lt_q19 le_q20 lt_q20 le_q21 lt_q21 le_q22 lt_q22 le_q23 lt_q23 le_q24 lt_q24

attribute [local go_sem] cell?_addTo

theorem toList_inj {a b : ByteArray} (h : a.toList = b.toList) : a = b := by
  rw [ByteArray.toList_eq, ByteArray.toList_eq] at h
  obtain ⟨⟨x⟩⟩ := a
  obtain ⟨⟨y⟩⟩ := b
  simp at h
  rw [h]


inductive T where
  | mk (kind num : Int) (text : ByteArray) (list : List T)

def T.kind : T → Int | .mk k _ _ _ => k
def T.num : T → Int | .mk _ n _ _ => n
def T.text : T → ByteArray | .mk _ _ s _ => s
def T.list : T → List T | .mk _ _ _ l => l

theorem T.ext_iff' (a b : T) : a = b ↔ a.kind = b.kind ∧ a.num = b.num ∧ a.text.toList = b.text.toList ∧ a.list = b.list := by
  obtain ⟨ak, an, ax, al⟩ := a
  obtain ⟨bk, bn, bx, bl⟩ := b
  simp only [T.mk.injEq, T.kind, T.num, T.text, T.list]
  exact ⟨fun h => ⟨h.1, h.2.1, by rw [h.2.2.1], h.2.2.2⟩, fun h => ⟨h.1, h.2.1, toList_inj h.2.2.1, h.2.2.2⟩⟩

/-- The slice value s reads as the trees ts, which are no deeper than that; all its blocks are such as ok says. -/
def Tr (ok : Nat → Prop) : Nat → World → Value → List T → Prop
  | 0, _, s, ts => ts = [] ∧ ∃ ao cap, s = .slice ao 0 cap
  | d + 1, w, s, ts => ∃ ao cap, s = .slice ao ts.length cap ∧ ts.length ≤ cap ∧ (ts = [] ∨ ∃ b off, ao = some ⟨b, off, none⟩ ∧ b < w.heap.size ∧ ok b ∧ ∀ j (h : j < ts.length), ∃ x,
      (w.cell? ⟨b, off + j * 4, none⟩ = some (.int .i64 ts[j].kind) ∧ w.cell? ⟨b, off + j * 4 + 1, none⟩ = some (.int .i64 ts[j].num) ∧ w.cell? ⟨b, off + j * 4 + 2, none⟩ = some (.string ts[j].text) ∧ w.cell? ⟨b, off + j * 4 + 3, none⟩ = some x) ∧
      ts[j].text.size ≤ 9223372036854775807 ∧ Tr ok d w x ts[j].list)

theorem Tr.frame {ok ok' : Nat → Prop} {d : Nat} {w w' : World} {s : Value} {ts : List T} (h : Tr ok d w s ts) (hs : w.heap.size ≤ w'.heap.size) (hw : ∀ b, ok b → b < w.heap.size → w'.heap[b]? = w.heap[b]?) (hok : ∀ b, ok b → ok' b) : Tr ok' d w' s ts := by
  induction d generalizing s ts with
  | zero => exact h
  | succ d ih =>
    obtain ⟨ao, cap, rfl, hc, h | ⟨b, off, rfl, hlt, hb, hx⟩⟩ := h
    · exact ⟨ao, cap, rfl, hc, .inl h⟩
    · refine ⟨_, cap, rfl, hc, .inr ⟨b, off, rfl, Nat.lt_of_lt_of_le hlt hs, hok b hb, fun j hj => ?_⟩⟩
      obtain ⟨x, ⟨h0, h1, h2, h3⟩, h4, h5⟩ := hx j hj
      have hk : ∀ i, w'.cell? ⟨b, i, none⟩ = w.cell? ⟨b, i, none⟩ := fun i => World.cell?_of_block (w := w) (a := ⟨b, i, none⟩) (hw b hb hlt)
      exact ⟨x, ⟨by rw [hk]; exact h0, by rw [hk]; exact h1, by rw [hk]; exact h2, by rw [hk]; exact h3⟩, h4, ih h5⟩

theorem Tr.adds {ok : Nat → Prop} {d : Nat} {w w' : World} {s : Value} {ts : List T} (h : Tr ok d w s ts) (hA : Adds w w') : Tr ok d w' s ts :=
  h.frame hA.below.size (fun b _ hb => hA.below.block b hb) (fun _ h => h)

theorem Tr.deeper {ok : Nat → Prop} {d : Nat} {w : World} {s : Value} {ts : List T} (h : Tr ok d w s ts) : Tr ok (d + 1) w s ts := by
  induction d generalizing s ts with
  | zero =>
    obtain ⟨rfl, ao, cap, rfl⟩ := h
    exact ⟨ao, cap, rfl, Nat.zero_le _, .inl rfl⟩
  | succ d ih =>
    obtain ⟨ao, cap, rfl, hc, h | ⟨b, off, rfl, hlt, hb, hx⟩⟩ := h
    · exact ⟨ao, cap, rfl, hc, .inl h⟩
    · refine ⟨_, cap, rfl, hc, .inr ⟨b, off, rfl, hlt, hb, fun j hj => ?_⟩⟩
      obtain ⟨x, h0, h4, h5⟩ := hx j hj
      exact ⟨x, h0, h4, ih h5⟩

theorem Tr.shape {ok : Nat → Prop} {d : Nat} {w : World} {s : Value} {ts : List T} (h : Tr ok d w s ts) : ∃ ao cap, s = .slice ao ts.length cap := by
  cases d with
  | zero =>
    obtain ⟨rfl, ao, cap, rfl⟩ := h
    exact ⟨ao, cap, rfl⟩
  | succ d =>
    obtain ⟨ao, cap, rfl, _⟩ := h
    exact ⟨ao, cap, rfl⟩

theorem Tr.nil (ok : Nat → Prop) (d : Nat) (w : World) : Tr ok d w (.slice none 0 0) [] := by
  cases d with
  | zero => exact ⟨rfl, none, 0, rfl⟩
  | succ d => exact ⟨none, 0, rfl, Nat.le_refl _, .inl rfl⟩

/-- Two worlds alike but for one block. -/
def Oth (g : Nat) (w w' : World) : Prop := w'.heap.size = w.heap.size ∧ ∀ k, k ≠ g → w'.heap[k]? = w.heap[k]?

theorem Oth.box (w : World) (o o' : Obj) {g : Nat} (hg : g = w.heap.size) : Oth g (w.alloc o) (w.alloc o') := by
  subst hg
  refine ⟨by simp, fun k hk => ?_⟩
  show (w.heap.push o')[k]? = (w.heap.push o)[k]?
  rw [Array.getElem?_push, Array.getElem?_push]
  simp [hk]

theorem Oth.more {g : Nat} {w w' : World} (h : Oth g w w') (os : Array Obj) (k : Nat) : Oth g (more w os k) (more w' os k) := by
  refine ⟨by simp [Ytccddgohagakoaa.more, h.1], fun j hj => ?_⟩
  show (w'.heap ++ os)[j]? = (w.heap ++ os)[j]?
  rw [Array.getElem?_append, Array.getElem?_append, h.1, h.2 j hj]

theorem Oth.alloc {g : Nat} {w w' : World} (h : Oth g w w') (o : Obj) : Oth g (w.alloc o) (w'.alloc o) := by
  refine ⟨by simp [h.1], fun j hj => ?_⟩
  show (w'.heap.push o)[j]? = (w.heap.push o)[j]?
  rw [Array.getElem?_push, Array.getElem?_push, h.1, h.2 j hj]

theorem Tr.oth {ok : Nat → Prop} {d g : Nat} {w w' : World} {s : Value} {ts : List T} (h : Tr (fun k => k ≠ g ∧ ok k) d w s ts) (ho : Oth g w w') : Tr ok d w' s ts :=
  h.frame (by rw [ho.1]; omega) (fun b hb _ => ho.2 b hb.1) (fun _ h => h.2)

/-- A cell's value, its list beside. -/
abbrev cellV (t : T) (s : Value) : Value := .agg #[.int .i64 t.kind, .int .i64 t.num, .string t.text, s]

def tNum (n : Int) : T := .mk 1 n ⟨#[]⟩ []
def tText (s : ByteArray) : T := .mk 2 0 s []
def tList (l : List T) : T := .mk 3 0 ⟨#[]⟩ l

theorem cellNum_any (n : Int) (w : World) :
    Calls Try.prog 19 #[.int .i64 n] w fun e w' => e = .returned (.agg #[.int .i64 1, .int .i64 n, .string ⟨#[]⟩, .slice none 0 0]) ∧ Adds w w' := by
  go_enter Try.func19, Try.ntmps19
  go_wp2
  refine bodyPost_ret (v := .agg #[.int .i64 1, .int .i64 n, .string ⟨#[]⟩, .slice none 0 0]) (by simp [results, Try.results19, go_sem]) rfl ⟨rfl, ?_⟩
  repeat (first | with_reducible exact Adds.refl _ | with_reducible refine Adds.alloc ?_ _ | with_reducible refine Adds.more ?_ _ _ | with_reducible refine Adds.drew ?_ | with_reducible refine Adds.drewN ?_ _)

theorem cellText_any (s : ByteArray) (w : World) :
    Calls Try.prog 20 #[.string s] w fun e w' => e = .returned (.agg #[.int .i64 2, .int .i64 0, .string s, .slice none 0 0]) ∧ Adds w w' := by
  go_enter Try.func20, Try.ntmps20
  go_wp2
  refine bodyPost_ret (v := .agg #[.int .i64 2, .int .i64 0, .string s, .slice none 0 0]) (by simp [results, Try.results20, go_sem]) rfl ⟨rfl, ?_⟩
  repeat (first | with_reducible exact Adds.refl _ | with_reducible refine Adds.alloc ?_ _ | with_reducible refine Adds.more ?_ _ _ | with_reducible refine Adds.drew ?_ | with_reducible refine Adds.drewN ?_ _)

end Go.Proofs.Ytccddgohagakoaa
