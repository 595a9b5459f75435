/-
  What stands between the loops of the law ReelKeeps: how it comes about.
-/
import Derived.Test.YtinfoblgojnjfaaStates
namespace Go.Proofs.Ytinfoblgojnjfaa
open Go.RowKit Go.Maps

theorem row_base {w : World} {B B' : Nat} {e : TypeId} {k n : Nat} {v : Value} {xs : List Value} (h : w.ownsRow B' e k v n xs) (hB : B ≤ B') : w.ownsRow B e k v n xs := by
  refine ⟨h.1, h.2.imp id ?_⟩
  rintro ⟨g, cap, cur, e, hb, rest⟩
  exact ⟨g, cap, cur, e, Nat.le_trans hB hb, rest⟩

/-- One more of the slices. -/
theorem S2.push {w : World} {f : Fs} {ks : List Int} {R : Rw} {n : Nat} {v10 v11 v' : Value} {xs : List Value} {wc w' : World} (h : S2 w f ks R n v10 v11 xs wc) (hn : n < ks.length) {r : Value} (hs : Safe wc R r (bytes f ks[n]))
    (ho : w'.ownsRow w.heap.size 36 1 v' (xs ++ [r]).length (xs ++ [r])) (hg : wc.grownBy w' v11.ownBlock) : S2 w f ks R (n + 1) v10 v' (xs ++ [r]) w' := by
  have he : Odd 36 := ⟨by decide, by decide, by decide⟩
  refine ⟨live_grown h.live he h.was hg, h.p, row_other h.files h.was (by decide) hg, h.has, h.keys, h.few, ho, ?_, adds_of_grown h.adds hg (fun i hi => (h.was.lt i hi).1)⟩
  have := (h.each.imp fun _ _ hs => hs.grown he h.was hg).snoc (hs.grown he h.was hg)
  rw [List.take_succ_eq_append_getElem hn, List.map_append]
  exact this

/-- The reel as it is synced, the numbers of its files, no slice yet. -/
theorem S2.start {w wc : World} {B : Nat} {f : Fs} {R : Rw} (L : Live wc w.heap.size f R) (hd : R.deeds = []) (hp : R.p = w.heap.size + 1) (ha : Adds w wc) {v : Value} {B' : Nat} (hB : w.heap.size ≤ B') (hv : wc.ownsRow B' 3 1 v (keysF R.fs).length (cellsZ (keysF R.fs))) (_hb : B ≤ B)
    {v11 : Value} (h11 : wc.ownsRow w.heap.size 36 1 v11 0 []) : S2 w f (keysF R.fs) R 0 v v11 [] wc := by
  have hf : filesF R.fs = f := by rw [L.files, hd]; rfl
  refine ⟨L, hp, row_base hv hB, fun k hk => ?_, fun k hk => ?_, ?_, h11, ⟨rfl, fun i hi _ => by simp at hi⟩, ha⟩
  · obtain ⟨x, hx, rfl⟩ := List.mem_map.1 hk
    have : f x.1 = some x.2.2 := by
      rw [← hf]
      unfold filesF
      rw [L.mem.srt.get_eq hx]
      rfl
    rw [this]
    simp [bytes, this]
  · obtain ⟨x, hx, rfl⟩ := List.mem_map.1 hk
    exact L.mem.keys x hx
  · have := L.mem.few
    simpa [keysF] using this

/-- Behind the second loop. -/
structure T2 (w : World) (v10 v11 v12 : Value) (wc : World) : Prop where
  of : ∃ f ks R xs, S2 w f ks R ks.length v10 v11 xs wc ∧ R.deeds = [] ∧ R.bulk ≤ 72120 ∧ wc.ownsRow w.heap.size 4 1 v12 ks.length (cellsT (List.replicate ks.length false))

/-- Behind the third. -/
structure T3 (w : World) (f : Fs) (ks : List Int) (xs : List Value) (v10 v11 v12 : Value) (wc : World) : Prop where
  of : ∃ R fl, S2 w f ks R ks.length v10 v11 xs wc ∧ R.bulk ≤ 200000 ∧ fl.length = ks.length ∧ wc.ownsRow w.heap.size 4 1 v12 ks.length (cellsT fl) ∧ ∀ i (h : i < fl.length) (h' : i < ks.length), fl[i] = false → noDrop R.deeds ks[i]

/-- A row that is none of these grows. -/
theorem S2.apart {w : World} {f : Fs} {ks : List Int} {R : Rw} {n : Nat} {v10 v11 : Value} {xs : List Value} {wc w' : World} (h : S2 w f ks R n v10 v11 xs wc) {B' : Nat} (hB : w.heap.size ≤ B') (h11 : ∀ i, v11.ownBlock = some i → i < B') {k m : Nat} {v : Value} {ys : List Value}
    (ho : wc.ownsRow B' 36 k v m ys) (hg : wc.grownBy w' v.ownBlock) : S2 w f ks R n v10 v11 xs w' := by
  have he : Odd 36 := ⟨by decide, by decide, by decide⟩
  refine ⟨live_grown h.live he ho hg, h.p, row_other h.files ho (by decide) hg, h.has, h.keys, h.few, row_keep h.was (fun i hi => hg.block i (h.was.lt i hi).2 (fun e => ?_)), h.each.imp fun _ _ hs => hs.grown he ho hg, adds_of_grown h.adds hg (fun i hi => Nat.le_trans hB (ho.lt i hi).1)⟩
  have h1 := h11 i hi
  have h2 := (ho.lt i e.symm).1
  omega

/-- Behind the fifth. -/
structure T5 (w : World) (f : Fs) (ks : List Int) (R : Rw) (xs : List Value) (fl : List Bool) (v10 v11 v12 v18 : Value) (wc : World) : Prop where
  of : ∃ ys, S2 w f ks R ks.length v10 v11 xs wc ∧ wc.ownsRow w.heap.size 36 1 v18 ys.length ys ∧ Eachs wc R ys (ks.map (bytes (filesF R.fs))) ∧ wc.ownsRow w.heap.size 4 1 v12 ks.length (cellsT fl)

/-- Behind the crash. -/
structure S6 (w : World) (R : Rw) (f6 g0 g1 : Fs) (ks : List Int) (xs ys : List Value) (fl : List Bool) (v10 v11 v12 v18 : Value) (wc : World) : Prop where
  live : Live wc w.heap.size f6 R
  p : R.p = w.heap.size + 1
  files : wc.ownsRow w.heap.size 3 1 v10 ks.length (cellsZ ks)
  was : wc.ownsRow w.heap.size 36 1 v11 xs.length xs
  each : Eachs wc R xs (ks.map (bytes g0))
  after : wc.ownsRow w.heap.size 36 1 v18 ys.length ys
  eacha : Eachs wc R ys (ks.map (bytes g1))
  flags : wc.ownsRow w.heap.size 4 1 v12 ks.length (cellsT fl)
  adds : Adds w wc

theorem S6.more {w : World} {R : Rw} {f6 g0 g1 : Fs} {ks : List Int} {xs ys : List Value} {fl : List Bool} {v10 v11 v12 v18 : Value} {wc w' : World} (h : S6 w R f6 g0 g1 ks xs ys fl v10 v11 v12 v18 wc) (ha : Adds wc w') : S6 w R f6 g0 g1 ks xs ys fl v10 v11 v12 v18 w' :=
  ⟨h.live.adds ha, h.p, row_adds h.files ha, row_adds h.was ha, h.each.imp fun _ _ hs => hs.adds ha, row_adds h.after ha, h.eacha.imp fun _ _ hs => hs.adds ha, row_adds h.flags ha, h.adds.trans ha⟩

theorem S6.of {w : World} {R R' : Rw} {f f6 g1 : Fs} {ks : List Int} {xs ys : List Value} {fl : List Bool} {v10 v11 v12 v18 : Value} {wc w' : World} (h : S2 w f ks R ks.length v10 v11 xs wc) (ho : wc.ownsRow w.heap.size 36 1 v18 ys.length ys) (he : Eachs wc R ys (ks.map (bytes g1))) (hfl : wc.ownsRow w.heap.size 4 1 v12 ks.length (cellsT fl))
    (L : Live w' w.heap.size f6 R') (mv : Moves wc R w' R') (hp : R'.p = R.p) : S6 w R' f6 f g1 ks xs ys fl v10 v11 v12 v18 w' := by
  have m := h.live.mem
  have o36 : Odd 36 := ⟨by decide, by decide, by decide⟩
  refine ⟨L, hp.trans h.p, row_moves m mv ⟨by decide, by decide, by decide⟩ h.files, row_moves m mv o36 h.was, ?_, row_moves m mv o36 ho, he.imp fun _ _ hs => hs.moves mv, row_moves m mv ⟨by decide, by decide, by decide⟩ hfl, adds_low mv m h.adds rfl⟩
  have := h.each
  rw [List.take_length] at this
  exact this.imp fun _ _ hs => hs.moves mv

theorem Byt.first {w : World} {ao : Option Addr} {n cap k : Nat} {l : List UInt8} (h : Byt w (.slice ao n cap) l) (hk : k ≤ l.length) : Byt w (.slice ao k cap) (l.take k) := by
  obtain ⟨ao', cap', e, hc, hl⟩ := h.open
  simp only [Value.slice.injEq] at e
  obtain ⟨rfl, rfl, rfl⟩ := e
  have hlen : (l.take k).length = k := by simp; omega
  have := byt_of (w := w) (ao := ao) (cap := cap) (l := l.take k) (by omega) ?_
  · rw [hlen] at this
    exact this
  · rcases hl with rfl | ⟨b, off, rfl, hb, hl⟩
    · exact .inl (by simp)
    · refine .inr ⟨b, off, rfl, hb, fun j hj => ?_⟩
      rw [hlen] at hj
      rw [hl j (by omega)]
      simp

end Go.Proofs.Ytinfoblgojnjfaa
