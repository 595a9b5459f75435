/-
  put of package cell, by contract, of any tree.
-/
import Derived.Test.YtccddgohagakoaaLpv
namespace Go.Proofs.Ytccddgohagakoaa
open Go.RowKit
attribute [local go_sem] cell?_more frozen?_more setCell_more size_more tape_more drew_more drewN_more more_drew more_drewN one_out plus_out plus_end lt_one le_p2 le_p3 le_p4 le_p5 le_p6 le_p7 le_p8 le_p9 le_p10 le_p11 le_p12 le_p13 le_p14 le_p15 le_p16 le_p17 le_p18 le_p19 le_p20 le_p21 le_p22 le_p23 le_p24 le_q0 le_q1 lt_q1 le_q2 lt_q2 le_q3 lt_q3 le_q4 lt_q4 le_q5 lt_q5 le_q6 lt_q6 le_q7 lt_q7 le_q8 lt_q8 le_q9 lt_q9 le_q10 lt_q10 le_q11 lt_q11 le_q12 lt_q12 le_q13 lt_q13 le_q14 lt_q14 le_q15 lt_q15 le_q16 lt_q16 le_q17 lt_q17 le_q18 lt_q18 le_q19 lt_q19 le_q20 lt_q20 le_q21 lt_q21 le_q22 lt_q22 le_q23 lt_q23 le_q24 lt_q24

/-- What put writes of a cell, onto a row of bytes from block B on that the call owns. -/
def PutOk (B : Nat) (W0 : World) (d : Nat) : Prop := ∀ (t : T) (s bv : Value) (l : List UInt8) (w : World), Tr (fun b => b < B) d W0 s t.list → B ≤ W0.heap.size → okT (d + 1) t → l.length + (bytesT (d + 1) t).length ≤ 65536 → OwnV B 5 bv (cellsB l) W0 w →
  Calls Try.prog 39 #[bv, .agg #[.int .i64 t.kind, .int .i64 t.num, .string t.text, s]] w fun e w' => ∃ v', e = .returned v' ∧ OwnV B 5 v' (cellsB (l ++ bytesT (d + 1) t)) W0 w' ∧ Keeps w w'

/-- The bytes of the first i of some. -/
def flatT (d : Nat) (ts : List T) (i : Nat) : List UInt8 := (ts.take i).flatMap (bytesT d)

theorem flatT_next {d : Nat} {ts : List T} {i : Nat} (h : i < ts.length) : flatT d ts (i + 1) = flatT d ts i ++ bytesT d ts[i] := by
  unfold flatT
  have e := List.take_succ_eq_append_getElem h
  rw [e, List.flatMap_append]
  simp

theorem flatT_le (d : Nat) (ts : List T) (i : Nat) : (flatT d ts i).length ≤ (ts.flatMap (bytesT d)).length := by
  unfold flatT
  have h : ts.flatMap (bytesT d) = (ts.take i).flatMap (bytesT d) ++ (ts.drop i).flatMap (bytesT d) := by
    rw [← List.flatMap_append, List.take_append_drop]
  rw [h, List.length_append]
  omega

theorem Tr.low {B d : Nat} {W0 w : World} {s : Value} {ts : List T} (h : Tr (fun b => b < B) d W0 s ts) (hb : Below B W0 w) : Tr (fun b => b < B) d w s ts :=
  h.frame hb.size (fun b hlt _ => hb.block b hlt) (fun _ h => h)

set_option maxRecDepth 20000 in
set_option maxHeartbeats 2000000 in
theorem put_list (B d : Nat) (W0 : World) (ts : List T) (s bv : Value) (l : List UInt8) (w : World) (ht : Tr (fun b => b < B) d W0 s ts) (hB : B ≤ W0.heap.size) (hok : ∀ x ∈ ts, okT d x) (hl : l.length + (3 :: (number ts.length ++ ts.flatMap (bytesT d))).length ≤ 65536) (h : OwnV B 5 bv (cellsB l) W0 w)
    (ih : ∀ d', d = d' + 1 → PutOk B W0 d') :
    Calls Try.prog 39 #[bv, .agg #[.int .i64 3, .int .i64 0, .string ⟨#[]⟩, s]] w fun e w' => ∃ v', e = .returned v' ∧ OwnV B 5 v' (cellsB (l ++ 3 :: (number ts.length ++ ts.flatMap (bytesT d)))) W0 w' ∧ Keeps w w' := by
  simp only [List.length_cons, List.length_append] at hl
  have hn : ts.length ≤ 65536 := by
    by_cases hd : d = 0
    · subst hd
      obtain ⟨rfl, _⟩ := ht
      simp
    · obtain ⟨d', rfl⟩ : ∃ d', d = d' + 1 := ⟨d - 1, by omega⟩
      have : ∀ (xs : List T), xs.length ≤ (xs.flatMap (bytesT (d' + 1))).length := by
        intro xs
        induction xs with
        | nil => simp
        | cons x xs ihx =>
          have : 0 < (bytesT (d' + 1) x).length := by
            unfold bytesT
            split
            · simp
            · split <;> simp
          simp only [List.flatMap_cons, List.length_append, List.length_cons]
          omega
      have := this ts
      omega
  have hl2' : l.length ≤ 65536 := by omega
  obtain ⟨bo, bc, rfl, hbc, _⟩ := Byt.open h.lst
  have HO : Hid _ := h
  have hl1 : Hid (l.length + [(3 : UInt8)].length ≤ 1000000) := by show _ ≤ 1000000; simp; omega
  have hl2 : Hid ((l ++ [3]).length + (number ts.length).length ≤ 1000000) := by show _ ≤ 1000000; simp; omega
  have HT : Hid _ := ht
  have HE0 : Hid (l ++ 3 :: (number ts.length ++ flatT d ts 0) = l ++ [3] ++ number ts.length) := by
    show _ = _
    simp [flatT]
  obtain ⟨ao, cap, rfl⟩ := ht.shape
  have HOK : Hid (∀ x ∈ ts, okT d x) := hok
  have HI : Hid _ := ih
  have HL : Hid _ := hl
  clear ht hok ih h hl
  go_enter Try.func39, Try.ntmps39
  go_wp2_with (first
    | (go_at_call 52; refine (putCount_any B _ (l ++ [3]) W0 _ ts.length (by omega) hl2 H1.out).mono ?_; rintro e w3 ⟨v3, rfl, h3, hk3⟩; have b3 := (Keeps.trans HK1.out hk3).cell (box_at w _ _) (by decide) 3; have H3 : Hid (OwnV B 5 v3 (cellsB (l ++ 3 :: (number ts.length ++ flatT d ts 0))) W0 w3) := (by rw [HE0.out]; exact h3); have HK3 : Hid (Keeps w w3) := (Keeps.alloc _ (Keeps.alloc _ HK1.out)).trans hk3; clear h3 hk3; simp at b3)
    | (at_builtin; refine byt_app rfl (.tmp 11) (.tmp 15) rfl (OwnV.alloc (OwnV.alloc HO _) _) rfl (byt_new (l := [3]) (by simp) byte_three rfl) rfl hl1 ?_; intro v1 w1 h1 hk1; have b0 := hk1.cell (box_at w _ _) (by decide) 0; have b1 := hk1.cell (box_at w _ _) (by decide) 3; have H1 : Hid _ := h1; have HK1 : Hid _ := hk1; clear h1 hk1; simp at b0 b1))
  go_loopw [0, 44] (fun bx iv wr => ∃ i : Nat, i ≤ ts.length ∧ iv = .int .i64 (i : Int) ∧ Hid (OwnV B 5 bx (cellsB (l ++ 3 :: (number ts.length ++ flatT d ts i))) W0 wr) ∧ Hid (Keeps w wr)) (fun _ iv _ => ts.length - (intOf iv).toNat)
  case atStart => exact ⟨0, by omega, rfl, H3.out, HK3.out⟩
  case round =>
    obtain ⟨i, hi, rfl, hO, hKp⟩ := hrel
    by_cases hlt : i < ts.length
    · have hT := HT.out.low hO.out.2.1
      cases d with
      | zero =>
        obtain ⟨rfl, _⟩ := hT
        simp at hlt
      | succ d =>
        obtain ⟨ao', cap', he, _, hx⟩ := hT
        simp only [Value.slice.injEq] at he
        obtain ⟨rfl, _, rfl⟩ := he
        obtain ⟨ao0, cap0, he0, _, hx0⟩ := HT.out
        simp only [Value.slice.injEq] at he0
        obtain ⟨rfl, _, rfl⟩ := he0
        rcases hx with rfl | ⟨b, off, rfl, hb, hbP, hx⟩
        · simp at hlt
        rcases hx0 with rfl | ⟨b0, off0, e0, hb0, hbP0, hx0⟩
        · simp at hlt
        cases e0
        obtain ⟨x, ⟨c0, c1, c2, c3⟩, _, _⟩ := hx i hlt
        obtain ⟨x0, ⟨_, _, _, d3⟩, _, hTx⟩ := hx0 i hlt
        have hxx : x0 = x := by
          have := World.cell?_of_block (w := W0) (w' := wr) (a := ⟨b, off + i * 4 + 3, none⟩) (hO.out.2.1.block b hbP)
          rw [c3, d3] at this
          exact (Option.some.inj this).symm
        subst hxx
        have hfn := flatT_next (d := d + 1) hlt
        have hfl := flatT_le (d + 1) ts (i + 1)
        have hkT := HOK.out _ (List.getElem_mem hlt)
        have HN : Hid (l ++ 3 :: (number ts.length ++ flatT (d + 1) ts (i + 1)) = l ++ 3 :: (number ts.length ++ flatT (d + 1) ts i) ++ bytesT (d + 1) ts[i]) := by
          show _ = _
          rw [hfn]
          simp
        have hfll : (l ++ 3 :: (number ts.length ++ flatT (d + 1) ts i)).length + (bytesT (d + 1) ts[i]).length ≤ 65536 := by
          have := HL.out
          rw [hfn, List.length_append] at hfl
          simp only [List.length_append, List.length_cons]
          omega
        have HX : Hid (∀ W, Adds wr W → Calls Try.prog 39 #[u0, .agg #[.int .i64 ts[i].kind, .int .i64 ts[i].num, .string ts[i].text, x0]] W fun e w' => ∃ v', e = .returned v' ∧ OwnV B 5 v' (cellsB (l ++ 3 :: (number ts.length ++ flatT (d + 1) ts i) ++ bytesT (d + 1) ts[i])) W0 w' ∧ Keeps W w') :=
          fun W hA => HI.out d rfl ts[i] x0 _ _ W hTx hB hkT hfll (OwnV.adds hO.out hA)
        obtain ⟨xo, xc, rfl⟩ := hTx.shape
        clear hfn hfl hfll hkT hTx hx hx0 d3
        generalize ts[i] = t at *
        go_wp2_with (go_at_call 39; refine (HX.out _ (by repeat (first | with_reducible exact Adds.refl _ | with_reducible refine Adds.alloc ?_ _ | with_reducible refine Adds.more ?_ _ _ | with_reducible refine Adds.drew ?_ | with_reducible refine Adds.drewN ?_ _))).mono ?_; rintro e w4 ⟨v4, rfl, h4, hk4⟩)
        go_roundw
        case rel => exact ⟨i + 1, by omega, by go_num, by rw [HN.out]; exact h4, Keeps.trans hKp.out ((Keeps.of_adds (by repeat (first | with_reducible exact Adds.refl _ | with_reducible refine Adds.alloc ?_ _ | with_reducible refine Adds.more ?_ _ _ | with_reducible refine Adds.drew ?_ | with_reducible refine Adds.drewN ?_ _))).trans hk4)⟩
        case measure => simp [intOf]; omega
    · have : i = ts.length := by omega
      subst this
      have HE : Hid (flatT d ts ts.length = ts.flatMap (bytesT d)) := by
        show _ = _
        unfold flatT
        rw [List.take_length]
      go_wp2
      go_ret
      exact ⟨_, rfl, by rw [← HE.out]; exact hO.out, hKp.out⟩

theorem str_data (x : ByteArray) : (⟨x.data.toList.toArray⟩ : ByteArray) = x := by cases x; simp

theorem put_ok (B : Nat) (W0 : World) : ∀ d, PutOk B W0 d := by
  intro d
  induction d with
  | zero =>
    intro t s bv l w hT hB hok hl h
    obtain ⟨k, n, x, ts⟩ := t
    simp only [T.kind, T.num, T.text, T.list] at *
    obtain ⟨rfl, ao, cap, rfl⟩ := hT
    rcases hok with ⟨rfl, h1, h2, rfl, _⟩ | ⟨rfl, rfl, h1, _⟩ | ⟨rfl, rfl, rfl, h1⟩
    · exact put_num B ao cap bv l W0 w n ⟨h1, h2⟩ (by omega) h
    · have := put_text B ao cap bv l x.data.toList W0 w h1 (by omega) h
      rw [str_data] at this
      exact this
    · exact put_list B 0 W0 [] (.slice ao 0 cap) bv l w ⟨rfl, ao, cap, rfl⟩ hB (by simp) hl h (fun d' e => by omega)
  | succ d ih =>
    intro t s bv l w hT hB hok hl h
    obtain ⟨k, n, x, ts⟩ := t
    simp only [T.kind, T.num, T.text, T.list] at *
    rcases hok with ⟨rfl, h1, h2, rfl, hls⟩ | ⟨rfl, rfl, h1, hls⟩ | ⟨rfl, rfl, rfl, h1⟩
    · simp only [T.list] at hls
      subst hls
      obtain ⟨ao, cap, rfl⟩ := hT.shape
      exact put_num B ao cap bv l W0 w n ⟨h1, h2⟩ (by omega) h
    · simp only [T.list] at hls
      subst hls
      obtain ⟨ao, cap, rfl⟩ := hT.shape
      have := put_text B ao cap bv l x.data.toList W0 w h1 (by omega) h
      rw [str_data] at this
      exact this
    · simp only [T.list] at h1
      exact put_list B (d + 1) W0 ts s bv l w hT hB h1 hl h (fun d' e => by cases e; exact ih)

end Go.Proofs.Ytccddgohagakoaa
