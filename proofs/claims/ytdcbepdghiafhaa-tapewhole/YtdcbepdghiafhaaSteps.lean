/-
  Acts that are done while the power lasts; the last one, from which it may go.
-/
import Derived.Test.YtdcbepdghiafhaaRuns
namespace Go.Proofs.Ytdcbepdghiafhaa
open Go.RowKit Go.Maps

theorem asum_mono {l : List A} {j k : Nat} (h : j ≤ k) : asum (l.take j) ≤ asum (l.take k) := by
  have e : l.take k = l.take j ++ (l.take k).drop j := by
    have := List.take_append_drop j (l.take k)
    rw [List.take_take, Nat.min_eq_left h] at this
    exact this.symm
  unfold asum
  rw [e, List.map_append, List.sum_append]
  omega

/-- Behind k acts. -/
structure Lp (w0 W : World) (T : Tw) (l : List A) (k : Nat) (n : Int) (base : Nat) (rs : List (List UInt8)) : Prop where
  cal : Cal w0 W T n base rs 20000 (40003 + 50000 * k)
  n : 0 ≤ n ∧ n ≤ k
  base : base ≤ rs.length
  len : rs.length ≤ 40 + k
  tot : tot rs ≤ asum (l.take k)

theorem tot_fits {ls : List (List UInt8)} (h : tot ls ≤ 16384) : fits ls := fun b hb => by
  have := le_tot hb
  omega

theorem rws_high {w W : World} {F : Nat → Prop} {x : Value} {ls : List (List UInt8)} (ha : Adds w W) (hF : ∀ i, F i → w.heap.size ≤ i) (h : RwsA w (fun i => w.heap.size ≤ i) x ls) : RwsA W F x ls :=
  (h.mv (Mv.adds _ ha)).sub fun b _ hn hf => hn (hF b hf)
theorem byt_high {w W : World} {F : Nat → Prop} {x : Value} {m : List UInt8} (ha : Adds w W) (hF : ∀ i, F i → w.heap.size ≤ i) (h : BytA w (fun i => w.heap.size ≤ i) x m) : BytA W F x m :=
  (h.mv (Mv.adds _ ha)).sub fun b _ hn hf => hn (hF b hf)

theorem lp_append {w0 W : World} {T : Tw} {l : List A} {k : Nat} {n : Int} {base : Nat} {rs : List (List UInt8)} (h : Lp w0 W T l k n base rs) (hk : k < l.length) (h40 : k < 40) (hs : asum (l.take (k + 1)) ≤ 1500) (hx : BytA w0 (fun i => w0.heap.size ≤ i) l[k].bv l[k].b) :
    Calls Try.prog 15 #[ptr T.p, l[k].bv] W fun e w' => e = .returned (.int .i64 0) ∧ ∃ T' n' base' rs', T'.p = T.p ∧ Lp w0 w' T' l (k + 1) n' base' rs' := by
  have e := asum_next hk
  have hz : l[k].size = l[k].b.length + Ytdcbepdghiafhaa.tot l[k].l := rfl
  have h1 := h.tot
  have h2 := h.len
  have h3 := h.n
  have h4 := h.base
  refine (cal_append h.cal ⟨h3.1, by omega⟩ (by omega) _ _ (byt_high h.cal.adds h.cal.tap.low hx) (by omega) (by unfold segLen; omega) (by omega)).mono ?_
  rintro e w' ⟨rfl, T', p', c', _⟩
  refine ⟨rfl, T', n, base, rs ++ [l[k].b], p', ⟨c'.tap, c'.file, c'.base, c'.ls, c'.rp, c'.room, Nat.le_trans c'.bulk (by omega), c'.adds⟩, ⟨h3.1, by omega⟩, by simp; omega, by simp; omega, ?_⟩
  rw [tot_append, tot_one]
  omega

theorem lp_restart {w0 W : World} {T : Tw} {l : List A} {k : Nat} {n : Int} {base : Nat} {rs : List (List UInt8)} (h : Lp w0 W T l k n base rs) (hk : k < l.length) (h40 : k < 40) (hs : asum (l.take (k + 1)) ≤ 1500) (hl : l[k].l.length ≤ 40) (hx : RwsA w0 (fun i => w0.heap.size ≤ i) l[k].lv l[k].l) :
    Calls Try.prog 17 #[ptr T.p, l[k].lv] W fun e w' => e = .returned (.int .i64 0) ∧ ∃ T' n' base' rs', T'.p = T.p ∧ Lp w0 w' T' l (k + 1) n' base' rs' := by
  have e := asum_next hk
  have hz : l[k].size = l[k].b.length + Ytdcbepdghiafhaa.tot l[k].l := rfl
  have h1 := h.tot
  have h2 := h.len
  have h3 := h.n
  have h4 := h.base
  refine (cal_restart h.cal (by omega) (by omega) _ _ (rws_high h.cal.adds (fun i hi => h.cal.tap.low i (hi.elim .inl fun e => .inr (.inl e))) hx) (tot_fits (by omega)) (by decide) (by unfold segLen; omega)).mono ?_
  rintro e w' ⟨rfl, T', p', c', _⟩
  exact ⟨rfl, T', n + 1, l[k].l.length, l[k].l, p', ⟨c'.tap, c'.file, c'.base, c'.ls, c'.rp, c'.room, Nat.le_trans c'.bulk (by omega), c'.adds⟩, ⟨by omega, by omega⟩, Nat.le_refl _, by omega, by omega⟩

/-- Armed, beside two lists. -/
structure Arms (w0 W : World) (T : Tw) (n : Int) (base : Nat) (rs : List (List UInt8)) (m : Nat) (wv : Value) : Prop where
  tap : TapW W w0.heap.size T ⟨filesK [(n, seg base rs)], [], ⟨0, true, (m : Int), false⟩⟩
  file : T.file = n
  ls : T.ls = rs
  rp : T.R.p = w0.heap.size + 1
  room : T.R.room = 20000
  bulk : T.R.bulk ≤ 3000000
  adds : Adds w0 W
  was : RwsA W T.foot wv rs

theorem arm_tape {w0 W : World} {T : Tw} {n : Int} {base : Nat} {rs : List (List UInt8)} {bulk : Nat} (c : Cal w0 W T n base rs 20000 bulk) (hb : bulk ≤ 3000000) (wv : Value) (hw : RwsA W T.foot wv rs) (nv : Value) (ms : List (List UInt8)) (hn : RwsA W T.foot nv ms) (m : Nat) (hm : m ≤ 255) :
    Calls Try.prog 19 #[ptr (w0.heap.size + 1), .int .i64 (m : Int)] W fun e w' => e = .returned (.tuple #[]) ∧ ∃ T', T'.p = T.p ∧ Arms w0 w' T' n base rs m wv ∧ RwsA w' T'.foot nv ms := by
  have k := st_arm c.tap.st (m : Int) (wf64.2 (by omega))
  rw [c.rp] at k
  refine k.mono ?_
  rintro e w' ⟨rfl, R', s', g'⟩
  have e : (calm [(n, seg base rs)] 0).arm (m : Int) = ⟨filesK [(n, seg base rs)], [], ⟨0, true, (m : Int), false⟩⟩ := by
    unfold Dk.arm calm
    simp
  rw [e] at s'
  obtain ⟨t1, m1⟩ := c.tap.moves s' g'
  have := g'.bulk
  have := c.bulk
  exact ⟨rfl, { T with R := R' }, rfl, ⟨t1, c.file, c.ls, g'.p.trans c.rp, g'.room.trans c.room, by show R'.bulk ≤ _; omega, adds_mv c.adds m1 c.tap.low, hw.mv m1⟩, hn.mv m1⟩

theorem last_append {w0 W : World} {T : Tw} {n : Int} {base : Nat} {rs : List (List UInt8)} {m : Nat} {wv : Value} (c : Arms w0 W T n base rs m wv) (hn : 0 ≤ n ∧ n ≤ 40) (hb : base ≤ rs.length) (hl : rs.length ≤ 80) (ht : tot rs ≤ 1500) (x : Value) (b : List UInt8) (hx : BytA w0 (fun i => w0.heap.size ≤ i) x b) (hbl : b.length ≤ 1500) (nv : Value) (hnv : RwsA W T.foot nv (rs ++ [b])) :
    Calls Try.prog 15 #[ptr T.p, x] W fun e w' => e = .returned (.int .i64 0) ∧ ∃ R d, Run w0 w' R d wv nv rs (rs ++ [b]) 3100000 ∧ Sure d rs (rs ++ [b]) 0 := by
  have hf : fits rs := tot_fits (by omega)
  refine (append_tape c.tap (K := [(n, seg base rs)]) (srt_one _) rfl (by have := c.bulk; omega) x b (byt_high c.adds c.tap.low hx) (by omega) (by rw [c.file]; omega) (by rw [sizeK_one, seg_length, c.room]; unfold segLen; omega) (by rw [c.ls]; omega)).mono ?_
  rintro e w' ⟨rfl, T', a⟩
  have st := a.tap.st
  rw [c.file] at st
  have hr : ∀ {v ls}, RwsA W T.foot v ls → RwsA w' T'.R.foot v ls := fun hv => RwsA.sub (hv.mv a.mv) fun b _ hn hc => hn (.inl hc)
  have := a.bulk
  have := c.bulk
  exact ⟨rfl, T'.R, _, ⟨st, a.rp.trans c.rp, a.room.trans c.room, by omega, adds_mv c.adds a.mv c.tap.low, hr c.was, hr hnv⟩, sure_append (by omega) hf (by omega) hb (by unfold segLen; omega) _ rfl rfl (by simp)⟩

theorem last_restart {w0 W : World} {T : Tw} {n : Int} {base : Nat} {rs : List (List UInt8)} {m : Nat} {wv : Value} (c : Arms w0 W T n base rs m wv) (hn : 0 ≤ n ∧ n ≤ 40) (hb : base ≤ rs.length) (hl : rs.length ≤ 80) (ht : tot rs ≤ 1500) (x : Value) (ms : List (List UInt8)) (hx : RwsA w0 (fun i => w0.heap.size ≤ i) x ms) (hml : ms.length ≤ 40) (hmt : tot ms ≤ 1500) :
    Calls Try.prog 17 #[ptr T.p, x] W fun e w' => e = .returned (.int .i64 0) ∧ ∃ R d, Run w0 w' R d wv x rs ms 3100000 ∧ Sure d rs ms 0 := by
  have hf : fits rs := tot_fits (by omega)
  have hfm : fits ms := tot_fits (by omega)
  have hcore : ∀ i, T.core i → w0.heap.size ≤ i := fun i hi => c.tap.low i (hi.elim .inl fun e => .inr (.inl e))
  refine (restart_tape c.tap.tap (K := [(n, seg base rs)]) (srt_one _) rfl (by have := c.bulk; omega) x ms (rws_high c.adds hcore hx) hfm (by rw [c.room]; decide) (by rw [sizeK_one, seg_length, c.room]; unfold segLen; omega) (by rw [next_one]; omega)).mono ?_
  rintro e w' ⟨rfl, T', a⟩
  have hr : ∀ {v ls}, RwsA W T.core v ls → RwsA w' T'.R.foot v ls := fun hv => RwsA.sub (hv.mv a.mv) fun b _ hn hc => hn (.inl hc)
  have h1 := a.bulk
  have := c.bulk
  refine ⟨rfl, T'.R, _, ⟨a.tap.st, a.rp.trans c.rp, a.room.trans c.room, ?_, adds_mv c.adds a.mv hcore, hr (c.was.sub fun b _ hn hc => hn (hc.elim .inl fun e => .inr (.inl e))), hr (rws_high c.adds hcore hx)⟩, sure_restart ⟨hn.1, by omega⟩ hf hfm hb (by unfold segLen; omega) _ rfl rfl (by simp)⟩
  simp at h1
  unfold segLen at h1
  omega

end Go.Proofs.Ytdcbepdghiafhaa
