/-
  The walk of the statement ReelActs: it returns true, whatever is handed in, and leaves all that was there as it was.
-/
import Derived.Test.YtinfoblgojnjfaaUlike
import Derived.Deep.RegionWith
namespace Go.Proofs.Ytinfoblgojnjfaa
open Go.RowKit Go.Maps
attribute [local go_sem] cell?_more frozen?_more setCell_more size_more tape_more drew_more drewN_more more_drew more_drewN more_more one_out plus_out plus_end lt_one le_p2 le_p3 le_p4 le_p5 le_p6 le_p7 le_p8 le_p9 le_p10 le_p11 le_p12 le_p13 le_p14 le_p15 le_p16 le_p17 le_p18 le_p19 le_p20 le_p21 le_p22 le_p23 le_p24 le_q0 le_q1 lt_q1 le_q2 lt_q2 le_q3 lt_q3 le_q4 lt_q4 le_q5 lt_q5 le_q6 lt_q6 le_q7 lt_q7 le_q8 lt_q8 le_q9 lt_q9 le_q10 lt_q10 le_q11 lt_q11 le_q12 lt_q12 le_q13 lt_q13 le_q14 lt_q14 le_q15 lt_q15 le_q16 lt_q16 le_q17 lt_q17 le_q18 lt_q18 le_q19 lt_q19 le_q20 lt_q20 le_q21 lt_q21 le_q22 lt_q22 le_q23 lt_q23 le_q24 lt_q24

/-- Any act. -/
theorem act_any {w0 w : World} {B : Nat} {f : Fs} {R : Rw} {r : Rf} {kv dv : Value} {kept : List Fl} {M : Nat} (hb : Both w B f R r kv dv kept M) (hM : M ≤ 80000) (ha : Adds w0 w) (hB : w0.heap.size = B) (a : A) (hv : Byt w0 a.val a.b) (hl : a.b.length ≤ 600) (h1 : (Lit.int .i64 a.file).wf = true) (h2 : (Lit.int .i64 a.n).wf = true) :
    Calls Try.prog 10 #[ptr R.p, .agg #[.int .i64 r.room, kv, dv, .int .i64 (r.live : Int), .bool r.gone, .int .i64 r.armed], .agg #[.int .i64 a.act, .int .i64 a.file, a.val, .int .i64 a.n]] w (Told w0 w B R.p (M + a.b.length + 1)) := by
  have up : ∀ {N e w'}, N ≤ M + a.b.length + 1 → Told w0 w B R.p N e w' → Told w0 w B R.p (M + a.b.length + 1) e w' := by
    rintro N e w' hN ⟨r', kv', dv', he, ⟨f', R', kept', hb', hp, h0⟩, hs⟩
    exact ⟨r', kv', dv', he, ⟨f', R', kept', hb'.mono hN, hp, h0⟩, hs⟩
  obtain ⟨act, file, val, b, n⟩ := a
  simp only at *
  have hv' := hv
  obtain ⟨vo, vc, rfl, _⟩ := hv'
  by_cases q0 : act = 0
  · subst q0
    exact act_append hb hM ha hB file n _ b hv hl
  by_cases q1 : act = 1
  · subst q1
    exact (act_drop hb hM ha hB file n h1 vo _ vc).mono fun e w' h => up (by omega) h
  by_cases q2 : act = 2
  · subst q2
    exact (act_sync hb hM ha hB file n vo _ vc).mono fun e w' h => up (by omega) h
  by_cases q3 : act = 3
  · subst q3
    exact (act_arm hb hM ha hB file n h2 vo _ vc).mono fun e w' h => up (by omega) h
  exact (act_crash hb hM ha hB act file n q0 q1 q2 q3 h2 vo _ vc).mono fun e w' h => up (by omega) h

theorem both_new {w1 : World} {B : Nat} {R : Rw} {N : Nat} (h : Live w1 B (fun _ => none) R) (hd : R.deeds = []) (hr : R.room = N) (hp : R.pw = ⟨0, false, 0, false⟩) (hb : R.bulk = 0) : Both w1 B (fun _ => none) R ⟨(N : Int), [], [], 0, false, -1⟩ (.slice none 0 0) (.slice none 0 0) [] 0 := by
  have hc := congrArg Pw.count hp
  have hA := congrArg Pw.armed hp
  have hG := congrArg Pw.gone hp
  unfold Rw.pw at hc hA hG
  simp only at hc hA hG
  refine ⟨h, likes_fresh hr hd List.Pairwise.nil rfl hc hG (by rw [hA]; rfl) (fun h' => h.mem.arm h'), ⟨⟨⟨none, 0, rfl, Nat.le_refl _, rfl, .inl rfl⟩, by simp⟩, lie_nil _⟩, rfl, ⟨by show (-1 : Int) ≤ -1; omega, by show (-1 : Int) ≤ _; omega⟩, by simp, ⟨1, Nat.le_refl _, by simp, by simp⟩, by omega⟩

end Go.Proofs.Ytinfoblgojnjfaa
