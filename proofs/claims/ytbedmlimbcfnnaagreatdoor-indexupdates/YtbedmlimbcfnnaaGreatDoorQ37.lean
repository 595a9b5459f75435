/-
  The function Build of package index, whatever the documents.
  The law's own test, whether documents are not too many, by contract.
  Arguments opened: documents with their keys, a change, as they lie in memory.
-/
import Derived.Test.YtbedmlimbcfnnaaGreatDoorQ34
import Derived.Test.YtbedmlimbcfnnaaGreatDoorQ33
import Derived.Test.YtbedmlimbcfnnaaGreatDoorQ13
namespace Go.Proofs.YtbedmlimbcfnnaaGreatDoor
open Go.RowKit
attribute [local go_sem] cell?_more frozen?_more setCell_more size_more tape_more drew_more drewN_more more_drew more_drewN one_out plus_out plus_end lt_one le_p2 le_p3 le_p4 le_p5 le_p6 le_p7 le_p8 le_p9 le_p10 le_p11 le_p12 le_p13 le_p14 le_p15 le_p16 le_p17 le_p18 le_p19 le_p20 le_p21 le_p22 le_p23 le_p24 le_q0 le_q1 lt_q1 le_q2 lt_q2 le_q3 lt_q3 le_q4 lt_q4 le_q5 lt_q5 le_q6 lt_q6 le_q7 lt_q7 le_q8 lt_q8 le_q9 lt_q9 le_q10 lt_q10 le_q11 lt_q11 le_q12 lt_q12 le_q13 lt_q13 le_q14 lt_q14 le_q15 lt_q15 le_q16 lt_q16 le_q17 lt_q17 le_q18 lt_q18 le_q19 lt_q19 le_q20 lt_q20 le_q21 lt_q21 le_q22 lt_q22 le_q23 lt_q23 le_q24 lt_q24


theorem parseA_err {s : List UInt8} {c : Int} (h : parseA s = .error c) : c ≠ 0 := by
  unfold parseA at h
  split at h
  · cases h
    decide
  · exact parseLs_err h

set_option maxHeartbeats 2000000 in
set_option maxRecDepth 20000 in
theorem build_none (s : ByteArray) (dv : Value) (w : World) (hs : s.size ≤ 2000) (c : Int) (hx : parseA s.toList = .error c) (hd : ∃ ao n cap, dv = .slice ao n cap) :
    Calls Tryz.prog 10 #[.string s, dv] w fun e w' => e = .returned (.tuple #[.slice none 0 0, .int .i64 c]) ∧ Adds w w' := by
  have kP := fun w' => parseAll_any s hs w'
  have hc := parseA_err hx
  have hcb : (c != 0) = true := by simpa using hc
  have hcb' : (c == 0) = false := by simpa using hc
  rw [hx] at kP
  simp only [GaveR] at kP
  obtain ⟨ao, n, cap, rfl⟩ := hd
  clear hx
  go_enter Tryz.func10, Tryz.ntmps10
  go_wp2_with (go_at_call 23; refine (kP _).mono ?_; rintro e w1 ⟨rfl, os1, n1, rfl⟩)
  go_ret2
  exact ⟨rfl, by repeat (first | with_reducible exact Adds.refl _ | with_reducible refine Adds.alloc ?_ _ | with_reducible refine Adds.more ?_ _ _ | with_reducible refine Adds.drew ?_ | with_reducible refine Adds.drewN ?_ _)⟩

set_option maxHeartbeats 2000000 in
set_option maxRecDepth 20000 in
theorem build_bad (s : ByteArray) (dv : Value) (ds : List Dn) (w : World) (hs : s.size ≤ 2000) (h : LstD w dv ds) (hl6 : ds.length ≤ 200) (xs : List E) (hx : parseA s.toList = .ok xs) (hM : ¬ MayD ds) :
    Calls Tryz.prog 10 #[.string s, dv] w fun e w' => e = .returned (.tuple #[.slice none 0 0, .int .i64 1]) ∧ Adds w w' := by
  have kP := fun w' => parseAll_any s hs w'
  rw [hx] at kP
  simp only [GaveR] at kP
  have kD := fun w' hA => docs_any dv ds w' (h.adds hA) (by omega)
  rw [err_bad hM] at kD
  obtain ⟨ao, cap, rfl, hcap, hlo⟩ := h
  clear hx hM
  go_enter Tryz.func10, Tryz.ntmps10
  go_wp2_with (first
    | (go_at_call 23; refine (kP _).mono ?_; rintro e w1 ⟨⟨no, nc, D, rfl, hT, hok⟩, os1, n1, rfl⟩)
    | (go_at_call 13; refine (kD _ (by repeat (first | with_reducible exact Adds.refl _ | with_reducible refine Adds.alloc ?_ _ | with_reducible refine Adds.more ?_ _ _ | with_reducible refine Adds.drew ?_ | with_reducible refine Adds.drewN ?_ _))).mono ?_; rintro e w2 ⟨rfl, os2, n2, rfl⟩))
  go_ret2
  exact ⟨rfl, by repeat (first | with_reducible exact Adds.refl _ | with_reducible refine Adds.alloc ?_ _ | with_reducible refine Adds.more ?_ _ _ | with_reducible refine Adds.drew ?_ | with_reducible refine Adds.drewN ?_ _)⟩

theorem build_any (s : ByteArray) (dv : Value) (ds : List Dn) (w : World) (hs : s.size ≤ 2000) (h : LstD w dv ds) (hl6 : ds.length ≤ 200) :
    Calls Tryz.prog 10 #[.string s, dv] w fun e w' => GaveB (buildA s.toList ds) e w' ∧ Adds w w' := by
  unfold buildA
  cases hx : parseA s.toList with
  | error c =>
    simp only [GaveB]
    exact build_none s dv w hs c hx (by obtain ⟨ao, cap, e, _⟩ := h; exact ⟨ao, _, cap, e⟩)
  | ok xs =>
    by_cases hM : MayD ds
    · simp only [if_pos hM, GaveB]
      exact build_ok s dv ds w hs h hl6 xs hx hM
    · simp only [if_neg hM, GaveB]
      exact build_bad s dv ds w hs h hl6 xs hx hM

end Go.Proofs.YtbedmlimbcfnnaaGreatDoor

namespace Go.Proofs.YtbedmlimbcfnnaaGreatDoor
open Go.RowKit
attribute [local go_sem] cell?_more frozen?_more setCell_more size_more tape_more drew_more drewN_more more_drew more_drewN one_out plus_out plus_end lt_one le_p2 le_p3 le_p4 le_p5 le_p6 le_p7 le_p8 le_p9 le_p10 le_p11 le_p12 le_p13 le_p14 le_p15 le_p16 le_p17 le_p18 le_p19 le_p20 le_p21 le_p22 le_p23 le_p24 le_q0 le_q1 lt_q1 le_q2 lt_q2 le_q3 lt_q3 le_q4 lt_q4 le_q5 lt_q5 le_q6 lt_q6 le_q7 lt_q7 le_q8 lt_q8 le_q9 lt_q9 le_q10 lt_q10 le_q11 lt_q11 le_q12 lt_q12 le_q13 lt_q13 le_q14 lt_q14 le_q15 lt_q15 le_q16 lt_q16 le_q17 lt_q17 le_q18 lt_q18 le_q19 lt_q19 le_q20 lt_q20 le_q21 lt_q21 le_q22 lt_q22 le_q23 lt_q23 le_q24 lt_q24

/-- Documents that are not too many. -/
def LightD (ds : List Dn) : Prop := (∀ j (h : j < ds.length), j < 60 → ds[j].doc.length ≤ 20) ∧ ds.length ≤ 60

instance (ds : List Dn) : Decidable (LightD ds) := by unfold LightD; infer_instance

set_option maxHeartbeats 2000000 in
set_option maxRecDepth 20000 in
theorem light_any (s : Value) (ds : List Dn) (w : World) (h : LstD w s ds) :
    Calls Tryz.prog 8 #[s] w fun e w' => e = .returned (.bool (decide (LightD ds))) ∧ w' = w := by
  obtain ⟨ao, cap, rfl, hcap, hlo⟩ := h
  go_enter Tryz.func8, Tryz.ntmps8
  go_wp2
  go_loopw [3] (fun i wr => ∃ k : Nat, k ≤ ds.length ∧ k ≤ 60 ∧ i = .int .i64 k ∧ Hid (∀ j (h : j < ds.length), j < k → ds[j].doc.length ≤ 20) ∧ wr = w) (fun i _ => 60 - (intOf i).toNat)
  case atStart => exact ⟨0, Nat.zero_le _, Nat.zero_le _, rfl, fun j _ hj => absurd hj (by omega), rfl⟩
  case round =>
    obtain ⟨k, hk, hk6, rfl, HG, rfl⟩ := hrel
    by_cases hlt : k < ds.length
    · have hlt' : (k : Int) < (ds.length : Int) := by omega
      by_cases h6 : k < 60
      · have h6' : (k : Int) < 60 := by omega
        rcases hlo with rfl | ⟨b, off, rfl, hb, hl⟩
        · simp at hlt
        obtain ⟨v, c0, c1, hdoc⟩ := hl k hlt
        obtain ⟨vo, vc, rfl, _, _⟩ := hdoc
        by_cases h20 : 20 < ds[k].doc.length
        · have h20' : (20 : Int) < (ds[k].doc.length : Int) := by omega
          have HR : Hid (decide (LightD ds) = false) := decide_eq_false (fun h => by have := h.1 k hlt h6; omega)
          clear h20 HG
          generalize ds[k].doc.length = nd at *
          go_wp2
          go_ret
          exact ⟨by rw [HR.out]; rfl, rfl⟩
        · have h20' : ¬ (20 : Int) < (ds[k].doc.length : Int) := by omega
          have HN : Hid (∀ j (h : j < ds.length), j < k + 1 → ds[j].doc.length ≤ 20) := fun j hj hjk => by
            by_cases e : j = k
            · subst e; omega
            · exact HG.out j hj (by omega)
          clear h20 HG
          generalize ds[k].doc.length = nd at *
          go_wp2
          go_roundw
          case rel => exact ⟨k + 1, by omega, by omega, by go_num, HN, by first | rfl | trivial⟩
          case measure => simp [intOf]; omega
      · have h6' : ¬ (k : Int) < 60 := by omega
        have hk60 : k = 60 := by omega
        have HR : Hid (decide (LightD ds) = false) := decide_eq_false (fun h => by have := h.2; omega)
        have h7 : ¬ (ds.length : Int) ≤ 60 := by omega
        clear HG
        go_wp2
        go_ret
        exact ⟨by rw [HR.out]; rfl, rfl⟩
    · have hlt' : ¬ (k : Int) < (ds.length : Int) := by omega
      have HR : Hid (decide (LightD ds) = true) := decide_eq_true ⟨fun j hj _ => HG.out j hj (by omega), by omega⟩
      have h7 : (ds.length : Int) ≤ 60 := by omega
      clear HG
      go_wp2
      go_ret
      exact ⟨by rw [HR.out]; rfl, rfl⟩

end Go.Proofs.YtbedmlimbcfnnaaGreatDoor

namespace Go.Proofs.YtbedmlimbcfnnaaGreatDoor
open Go.RowKit
attribute [local go_sem] cell?_more frozen?_more setCell_more size_more tape_more drew_more drewN_more more_drew more_drewN one_out plus_out plus_end lt_one le_p2 le_p3 le_p4 le_p5 le_p6 le_p7 le_p8 le_p9 le_p10 le_p11 le_p12 le_p13 le_p14 le_p15 le_p16 le_p17 le_p18 le_p19 le_p20 le_p21 le_p22 le_p23 le_p24 le_q0 le_q1 lt_q1 le_q2 lt_q2 le_q3 lt_q3 le_q4 lt_q4 le_q5 lt_q5 le_q6 lt_q6 le_q7 lt_q7 le_q8 lt_q8 le_q9 lt_q9 le_q10 lt_q10 le_q11 lt_q11 le_q12 lt_q12 le_q13 lt_q13 le_q14 lt_q14 le_q15 lt_q15 le_q16 lt_q16 le_q17 lt_q17 le_q18 lt_q18 le_q19 lt_q19 le_q20 lt_q20 le_q21 lt_q21 le_q22 lt_q22 le_q23 lt_q23 le_q24 lt_q24

open Go.ChangeShapes Go.WideShapes Go.ChangeAt Go.RowKit Go.Joins Go.ChangeMaps

theorem Tryz.cells49 : Tryz.prog.cellsOf 49 = 2 := by kernel_rfl
theorem Tryz.cells35 : Tryz.prog.cellsOf 35 = 4 := by kernel_rfl
theorem Tryz.cells33 : Tryz.prog.cellsOf 33 = 1 := by kernel_rfl
theorem Tryz.cells4 : Tryz.prog.cellsOf 4 = 1 := by kernel_rfl

set_option maxRecDepth 20000 in
/-- A slice of rows of k cells opened, whatever its elements are. -/
theorem open_gen {H : Type} {enc : TypeId × Value → H} {w : World} {α : Type} [Nonempty α] {t e : TypeId} {k : Nat} (ht : Tryz.prog.underlying t = some (.slice e)) (hk : Tryz.prog.cellsOf e = k) (hk0 : 0 < k)
    {R : α → List Value → Prop} (hR : ∀ n cs y, DataW.trod enc Tryz.prog w 0 (fun _ => true) true n e cs = some y → cs.length = k → ∃ a, R a cs)
    {fuel : Nat} {c : Value} {x : DataW H × List MemPlace} (hf : DataW.trod enc Tryz.prog w 0 (fun _ => true) true fuel t [c] = some x) :
    ∃ (l : List α) (ao : Option Addr) (cap : Nat), c = .slice ao l.length cap ∧ l.length ≤ cap ∧ (l = [] ∨ ∃ b off, ao = some ⟨b, off, none⟩ ∧ b < w.heap.size ∧
      ∀ j (hj : j < l.length), ∃ cs, R l[j] cs ∧ cs.length = k ∧ ∀ q (hq : q < cs.length), w.cell? ⟨b, off + j * k + q, none⟩ = some cs[q]) := by
  rcases Deep.open_slice ht hf with ⟨hcs, hx⟩ | ⟨a, len, cap, m, n, D, Pl, hcs, _, hl, hm, hmm, hx, hcell⟩
  · obtain rfl : c = .slice none 0 0 := by simpa using hcs
    exact ⟨[], none, 0, rfl, Nat.le_refl _, .inl rfl⟩
  · obtain rfl : c = .slice (some a) len cap := by simpa using hcs
    simp only [if_true] at hmm
    subst hmm
    have each : ∀ i, i < len → ∃ (y : α) (cs : List Value), R y cs ∧ cs.length = k ∧ ∀ q (hq : q < cs.length), w.cell? (a.add (i * k + q)) = some cs[q] := by
      intro i hi
      obtain ⟨cs', h1, h2⟩ := hcell i (by omega)
      rw [hk] at h1
      obtain ⟨_, hlen, hc⟩ := World.cells?_some h1
      obtain ⟨y, hy⟩ := hR _ _ _ h2 hlen
      refine ⟨y, cs', hy, hlen, fun q hq => ?_⟩
      have := hc q (by omega)
      rw [Deep.add_add] at this
      rw [this, List.getElem?_eq_getElem hq]
    by_cases hl0 : len = 0
    · subst hl0
      exact ⟨[], some a, _, rfl, Nat.zero_le _, .inl rfl⟩
    obtain ⟨b, off, spot⟩ := a
    have hfirst : ∃ v, w.cell? (({ block := b, off := off, spot := spot } : Addr).add (0 * k + 0)) = some v := by
      obtain ⟨y, cs, hy, hlen, hx⟩ := each 0 (by omega)
      exact ⟨_, hx 0 (by omega)⟩
    have hspot : spot = none := by
      obtain ⟨v, hv⟩ := hfirst
      simpa [Addr.add] using World.cell?_spot hv
    subst hspot
    have hbW : b < w.heap.size := by
      obtain ⟨v, hv⟩ := hfirst
      rw [Addr.add_lit] at hv
      exact block_lt_of_cell hv
    obtain ⟨X, hX⟩ : ∃ X : Nat → α, ∀ i, i < len → ∃ cs : List Value, R (X i) cs ∧ cs.length = k ∧ ∀ q (hq : q < cs.length), w.cell? ((⟨b, off, none⟩ : Addr).add (i * k + q)) = some cs[q] :=
      ⟨fun i => if h : i < len then (each i h).choose else Classical.choice inferInstance, fun i hi => by simp only [hi, dif_pos]; exact (each i hi).choose_spec⟩
    refine ⟨(List.range len).map X, some ⟨b, off, none⟩, m, by simp, by simp; omega, .inr ⟨b, off, rfl, hbW, ?_⟩⟩
    intro i hi
    have hi' : i < len := by simpa using hi
    obtain ⟨cs, h1, h2, h3⟩ := hX i hi'
    refine ⟨cs, by simpa using h1, h2, fun q hq => ?_⟩
    have := h3 q hq
    rw [Addr.add_lit, ← Nat.add_assoc] at this
    exact this

instance : Nonempty F := ⟨⟨⟨#[]⟩, ⟨0, 0, ⟨#[]⟩, 0, 0⟩, by decide⟩⟩

theorem trod_doc {H : Type} {enc : TypeId × Value → H} {w : World} {fuel : Nat} {c : Value} {x : DataW H × List MemPlace} (hf : DataW.trod enc Tryz.prog w 0 (fun _ => true) true fuel 33 [c] = some x) : ∃ fs, Lst w c fs := by
  obtain ⟨l, ao, cap, rfl, hle, h⟩ := open_gen (α := F) (R := fun f cs => cs = f.cellList) Tryz.underlying33 Tryz.cells77 (by omega) (fun n cs y h _ => trod_F h) hf
  refine ⟨l, ao, cap, rfl, hle, ?_⟩
  rcases h with h | ⟨b, off, rfl, hb, hh⟩
  · exact .inl h
  · refine .inr ⟨b, off, rfl, hb, fun j hj => ?_⟩
    obtain ⟨cs, rfl, _, hc⟩ := hh j hj
    exact ⟨hc 0 (by simp [F.cellList]), hc 1 (by simp [F.cellList]), hc 2 (by simp [F.cellList]), hc 3 (by simp [F.cellList]), hc 4 (by simp [F.cellList]), hc 5 (by simp [F.cellList])⟩

instance : Nonempty Dn := ⟨⟨⟨#[]⟩, []⟩⟩

set_option maxRecDepth 20000 in
theorem trod_docs {H : Type} {enc : TypeId × Value → H} {w : World} {fuel : Nat} {c : Value} {x : DataW H × List MemPlace} (hf : DataW.trod enc Tryz.prog w 0 (fun _ => true) true fuel 22 [c] = some x) : ∃ ds, LstD w c ds := by
  obtain ⟨l, ao, cap, rfl, hle, h⟩ := open_gen (α := Dn) (R := fun d cs => ∃ v, cs = [.string d.key, v] ∧ Lst w v d.doc) Tryz.underlying22 Tryz.cells49 (by omega) (fun n cs y h hlen => by
    obtain ⟨y0, y1, n, _, hl, h0, h1⟩ := trod_struct2 Tryz.underlying49 h
    match cs, hlen with
    | [c0, c1], _ =>
      simp only [Tryz.cells9, Tryz.cells33, List.drop_zero, List.take_succ_cons, List.take_zero, List.drop_succ_cons] at h0 h1
      obtain ⟨p, e0, _, hp⟩ := DataW.trod_string Tryz.underlying9 h0
      obtain ⟨fs, hfs⟩ := trod_doc h1
      simp at e0
      subst e0
      exact ⟨⟨p, fs⟩, c1, rfl, hfs⟩) hf
  refine ⟨l, ao, cap, rfl, hle, ?_⟩
  rcases h with h | ⟨b, off, rfl, hb, hh⟩
  · exact .inl h
  · refine .inr ⟨b, off, rfl, hb, fun j hj => ?_⟩
    obtain ⟨cs, ⟨v, rfl, hv⟩, _, hc⟩ := hh j hj
    exact ⟨v, hc 0 (by simp), hc 1 (by simp), hv⟩

set_option maxRecDepth 20000 in
theorem open_docs {H : Type} {enc : TypeId × Value → H} {w : World} {b0 : Nat} {r : Reach} {v : Value} {d : DataW H} {ps : List MemPlace}
    (hv : Value.okWide Tryz.prog w r b0 22 v) (h : DataW.Trod enc Tryz.prog w 0 (fun _ => true) true 22 v d ps) : ∃ ds, LstD w v ds := by
  obtain ⟨a0, len, cap, rfl⟩ := okWide_slice Tryz.underlying22 hv
  obtain ⟨fuel, hf⟩ := h
  exact trod_docs hf

/-- A change, as it lies. -/
def ChV (w : World) (v : Value) (key : ByteArray) (has : Bool) (doc : List F) : Prop := ∃ pos dv, v = .agg #[.int .i64 pos, .string key, .bool has, dv] ∧ Lst w dv doc

set_option maxRecDepth 20000 in
theorem trod_change {H : Type} {enc : TypeId × Value → H} {w : World} {fuel : Nat} {cs : List Value} {x : DataW H × List MemPlace} (hlen : cs.length = 4)
    (h : DataW.trod enc Tryz.prog w 0 (fun _ => true) true fuel 35 cs = some x) : ∃ pos key has dv doc, cs = [.int .i64 pos, .string key, .bool has, dv] ∧ Lst w dv doc := by
  obtain ⟨y0, y1, y2, y3, n, _, hl, h0, h1, h2, h3⟩ := trod_struct4 Tryz.underlying35 h
  match cs, hlen with
  | [c0, c1, c2, c3], _ =>
    simp only [Tryz.cells3, Tryz.cells9, Tryz.cells4, Tryz.cells33, List.drop_zero, List.take_succ_cons, List.take_zero, List.drop_succ_cons] at h0 h1 h2 h3
    obtain ⟨m, e0, _, _⟩ := DataW.trod_int Tryz.underlying3 h0
    obtain ⟨s, e1, _⟩ := DataW.trod_string Tryz.underlying9 h1
    obtain ⟨b, e2, _⟩ := DataW.trod_bool Tryz.underlying4 h2
    obtain ⟨fs, hfs⟩ := trod_doc h3
    simp at e0 e1 e2
    subst e0 e1 e2
    exact ⟨m, s, b, c3, fs, rfl, hfs⟩

set_option maxRecDepth 20000 in
theorem open_change {H : Type} {enc : TypeId × Value → H} {w : World} {b0 : Nat} {r : Reach} {v : Value} {d : DataW H} {ps : List MemPlace}
    (hv : Value.okWide Tryz.prog w r b0 35 v) (h : DataW.Trod enc Tryz.prog w 0 (fun _ => true) true 35 v d ps) : ∃ key has doc, ChV w v key has doc := by
  obtain ⟨cs, rfl, hsz⟩ := okWide_struct Tryz.underlying35 hv
  obtain ⟨fuel, hf⟩ := h
  rw [Tryz.cells35] at hsz
  obtain ⟨pos, key, has, dv, doc, e, hd⟩ := trod_change (by simpa [Value.cells] using hsz) hf
  refine ⟨key, has, doc, pos, dv, ?_, hd⟩
  simp only [Value.cells] at e
  congr 1
  apply Array.toList_inj.1
  exact e

end Go.Proofs.YtbedmlimbcfnnaaGreatDoor
