/-
  The reference's bytes of any tree, by contract: lists, and the induction.
-/
import Derived.Test.YtccddgohagakoaaSby
namespace Go.Proofs.Ytccddgohagakoaa
open Go.RowKit
attribute [local go_sem] cell?_more frozen?_more setCell_more size_more tape_more drew_more drewN_more more_drew more_drewN one_out plus_out plus_end lt_one le_p2 le_p3 le_p4 le_p5 le_p6 le_p7 le_p8 le_p9 le_p10 le_p11 le_p12 le_p13 le_p14 le_p15 le_p16 le_p17 le_p18 le_p19 le_p20 le_p21 le_p22 le_p23 le_p24 le_q0 le_q1 lt_q1 le_q2 lt_q2 le_q3 lt_q3 le_q4 lt_q4 le_q5 lt_q5 le_q6 lt_q6 le_q7 lt_q7 le_q8 lt_q8 le_q9 lt_q9 le_q10 lt_q10 le_q11 lt_q11 le_q12 lt_q12 le_q13 lt_q13 le_q14 lt_q14 le_q15 lt_q15 le_q16 lt_q16 le_q17 lt_q17 le_q18 lt_q18 le_q19 lt_q19 le_q20 lt_q20 le_q21 lt_q21 le_q22 lt_q22 le_q23 lt_q23 le_q24 lt_q24

set_option maxRecDepth 20000 in
set_option maxHeartbeats 4000000 in
theorem rbytes_list (d : Nat) (ts : List T) (s : Value) (w : World) (ht : Tr (fun b => b < w.heap.size) d w s ts) (hok : ∀ x ∈ ts, okT d x) (hl : (3 :: (number ts.length ++ ts.flatMap (bytesT d))).length ≤ 65536)
    (ih : ∀ d', d = d' + 1 → BytesOk d') :
    Calls Try.prog 23 #[.agg #[.int .i64 3, .int .i64 0, .string ⟨#[]⟩, s]] w fun e w' => ∃ v', e = .returned v' ∧ OwnV w.heap.size 5 v' (cellsB (3 :: (number ts.length ++ ts.flatMap (bytesT d)))) w w' := by
  simp only [List.length_cons, List.length_append] at hl
  have hn : ts.length ≤ 65536 := by
    by_cases hd : d = 0
    · subst hd
      obtain ⟨rfl, _⟩ := ht
      simp
    · obtain ⟨d', rfl⟩ : ∃ d', d = d' + 1 := ⟨d - 1, by omega⟩
      have : ∀ (xs : List T), xs.length ≤ (xs.flatMap (bytesT (d' + 1))).length := by
        intro xs
        induction xs with
        | nil => simp
        | cons x xs ihx =>
          have : 0 < (bytesT (d' + 1) x).length := by
            unfold bytesT
            split
            · simp
            · split <;> simp
          simp only [List.flatMap_cons, List.length_append, List.length_cons]
          omega
      have := this ts
      omega
  have kN := fun W => rnumber_any ts.length W (by omega)
  have hlen : Hid ([(3 : UInt8)].length + (number ts.length).length ≤ 1000000) := by
    show _ ≤ 1000000
    have := number_len9 (n := ts.length) (by omega)
    simp
    omega
  have HT : Hid _ := ht
  have HE0 : Hid (3 :: (number ts.length ++ flatT d ts 0) = [3] ++ number ts.length) := by
    show _ = _
    simp [flatT]
  have HE1 : Hid (flatT d ts ts.length = ts.flatMap (bytesT d)) := by
    show _ = _
    simp [flatT]
  obtain ⟨ao, cap, rfl⟩ := ht.shape
  have HOK : Hid (∀ x ∈ ts, okT d x) := hok
  have HI : Hid _ := ih
  have HL : Hid _ := hl
  have HBX : Hid (Adds w (w.alloc (.cells #[.int .i64 3, .int .i64 0, .string ⟨#[]⟩, .slice ao ts.length cap] 43))) := by
    show Adds _ _
    repeat (first | with_reducible exact Adds.refl _ | with_reducible refine Adds.alloc ?_ _ | with_reducible refine Adds.more ?_ _ _ | with_reducible refine Adds.drew ?_ | with_reducible refine Adds.drewN ?_ _)
  clear ht hok ih hl
  go_enter Try.func23, Try.ntmps23
  go_wp2_with (first
    | (go_at_call 44; refine (kN _).mono ?_; rintro e w1 ⟨v1, rfl, h1⟩; have H1 : Hid _ := h1; clear h1)
    | (at_builtin; refine byt_app rfl (.tmp 12) (.tmp 16) rfl (l := [3]) (B := w.heap.size + 1) (W0 := w.alloc (.cells #[.int .i64 3, .int .i64 0, .string ⟨#[]⟩, .slice ao ts.length cap] 43)) (OwnV.adds (ownV_new (by simp) byte_three rfl (by simp)) (Adds.of H1.out.2.1)) rfl (own_lst H1.out) rfl hlen.out ?_; intro v2 w2 h2 hk2; clear hk2; have H2 : Hid (OwnV (w.heap.size + 1) 5 v2 (cellsB (3 :: (number ts.length ++ flatT d ts 0))) (w.alloc (.cells #[.int .i64 3, .int .i64 0, .string ⟨#[]⟩, .slice ao ts.length cap] 43)) w2) := (by rw [HE0.out]; exact h2); clear h2))
  go_loopw [3, 5] (fun bx iv wr => ∃ i : Nat, i ≤ ts.length ∧ iv = .int .i64 (i : Int) ∧ Hid (OwnV (w.heap.size + 1) 5 bx (cellsB (3 :: (number ts.length ++ flatT d ts i))) (w.alloc (.cells #[.int .i64 3, .int .i64 0, .string ⟨#[]⟩, .slice ao ts.length cap] 43)) wr)) (fun _ iv _ => ts.length - (intOf iv).toNat)
  case atStart => exact ⟨0, by omega, rfl, H2.out⟩
  case round =>
    obtain ⟨i, hi, rfl, hO⟩ := hrel
    have HAB : Hid (Adds (w.alloc (.cells #[.int .i64 3, .int .i64 0, .string ⟨#[]⟩, .slice ao ts.length cap] 43)) wr) := Adds.of (by simpa using hO.out.2.1)
    have HA : Hid (Adds w wr) := HBX.out.trans HAB.out
    have b3 : wr.cell? ⟨w.heap.size, 3, none⟩ = some (.slice ao ts.length cap) := by
      rw [hO.out.2.1.cell (by simp)]
      simp [go_sem]
    by_cases hlt : i < ts.length
    · have hT := HT.out.adds HA.out
      cases d with
      | zero =>
        obtain ⟨rfl, _⟩ := hT
        simp at hlt
      | succ d =>
        obtain ⟨ao', cap', he, _, hx⟩ := hT
        simp only [Value.slice.injEq] at he
        obtain ⟨rfl, _, rfl⟩ := he
        rcases hx with rfl | ⟨b, off, rfl, hb, hbP, hx⟩
        · simp at hlt
        obtain ⟨x, ⟨c0, c1, c2, c3⟩, _, hTx⟩ := hx i hlt
        have hfn := flatT_next (d := d + 1) hlt
        have hfl := flatT_le (d + 1) ts (i + 1)
        have hkT := HOK.out _ (List.getElem_mem hlt)
        have HN : Hid (3 :: (number ts.length ++ flatT (d + 1) ts (i + 1)) = 3 :: (number ts.length ++ flatT (d + 1) ts i) ++ bytesT (d + 1) ts[i]) := by
          show _ = _
          rw [hfn]
          simp
        have hfll : (3 :: (number ts.length ++ flatT (d + 1) ts i)).length + (bytesT (d + 1) ts[i]).length ≤ 65536 := by
          have := HL.out
          rw [hfn, List.length_append] at hfl
          simp only [List.length_append, List.length_cons]
          omega
        have HLL : Hid ((3 :: (number ts.length ++ flatT (d + 1) ts i)).length + (bytesT (d + 1) ts[i]).length ≤ 1000000) := by
          show _ ≤ 1000000
          omega
        have HX : Hid (∀ W, Adds wr W → Calls Try.prog 23 #[.agg #[.int .i64 ts[i].kind, .int .i64 ts[i].num, .string ts[i].text, x]] W fun e w' => ∃ v', e = .returned v' ∧ OwnV W.heap.size 5 v' (cellsB (bytesT (d + 1) ts[i])) W w') :=
          fun W hA => HI.out d rfl ts[i] x W ((hTx.frame (Nat.le_refl _) (fun _ _ _ => rfl) (fun _ h => Nat.lt_of_lt_of_le h HA.out.below.size)).rest hA (fun b hb => Nat.lt_of_lt_of_le hb hA.below.size)) hkT (by omega)
        obtain ⟨xo, xc, rfl⟩ := hTx.shape
        clear hfn hfl hfll hkT hTx hx
        generalize ts[i] = t at *
        go_wp2_with (first
          | (go_at_call 23; refine (HX.out _ (by repeat (first | with_reducible exact Adds.refl _ | with_reducible refine Adds.alloc ?_ _ | with_reducible refine Adds.more ?_ _ _ | with_reducible refine Adds.drew ?_ | with_reducible refine Adds.drewN ?_ _))).mono ?_; rintro e w4 ⟨v4, rfl, h4⟩; have H4 : Hid _ := h4; clear h4)
          | (at_builtin; refine byt_app rfl (.tmp 25) (.tmp 31) rfl (OwnV.adds hO.out (Adds.of H4.out.2.1)) rfl (own_lst H4.out) rfl HLL.out ?_; intro v5 w5 h5 hk5; clear hk5; have H5 : Hid _ := h5; clear h5))
        go_roundw
        case rel => exact ⟨i + 1, by omega, by go_num, by show OwnV _ _ _ _ _ _; rw [HN.out]; exact H5.out⟩
        case measure => simp [intOf]; omega
    · have hi' : i = ts.length := by omega
      subst hi'
      rw [HE1.out] at hO
      go_wp2
      go_ret
      exact ⟨_, rfl, OwnV.back hO.out HBX.out (by simp)⟩

theorem rbytes_ok : ∀ d, BytesOk d := by
  intro d
  induction d with
  | zero =>
    intro t s w ht hok hl
    obtain ⟨k, n, x, l⟩ := t
    obtain ⟨hts, ao, cap, rfl⟩ := ht
    simp only [T.kind, T.num, T.text, T.list] at *
    subst hts
    rcases hok with ⟨h1, h2, h3, h4, _⟩ | ⟨h1, h2, h3, _⟩ | ⟨h1, h2, h3, h4⟩
    · simp only [T.kind, T.num, T.text] at h1 h2 h3 h4
      subst h1 h4
      exact rbytes_num n ao cap w ⟨h2, h3⟩
    · simp only [T.kind, T.num, T.text] at h1 h2 h3
      subst h1 h2
      have := rbytes_text x.data.toList ao cap w (by simpa using h3)
      rw [str_data] at this
      simpa [bytesT, T.kind, T.text] using this
    · simp only [T.kind, T.num, T.text] at h1 h2 h3
      subst h1 h2 h3
      have := rbytes_list 0 [] (.slice ao 0 cap) w ⟨rfl, ao, cap, rfl⟩ (by simp) (by simp [number_small]) (fun d' h => by omega)
      simpa [bytesT, T.kind, T.list] using this
  | succ d ih =>
    intro t s w ht hok hl
    obtain ⟨k, n, x, l⟩ := t
    simp only [T.kind, T.num, T.text, T.list] at *
    rcases hok with ⟨h1, h2, h3, h4, h5⟩ | ⟨h1, h2, h3, h5⟩ | ⟨h1, h2, h3, h4⟩
    · simp only [T.kind, T.num, T.text, T.list] at h1 h2 h3 h4 h5
      subst h1 h4 h5
      obtain ⟨ao, cap, rfl⟩ := ht.shape
      exact rbytes_num n ao cap w ⟨h2, h3⟩
    · simp only [T.kind, T.num, T.text, T.list] at h1 h2 h3 h5
      subst h1 h2 h5
      obtain ⟨ao, cap, rfl⟩ := ht.shape
      have := rbytes_text x.data.toList ao cap w (by simpa using h3)
      rw [str_data] at this
      simpa [bytesT, T.kind, T.text] using this
    · simp only [T.kind, T.num, T.text, T.list] at h1 h2 h3 h4
      subst h1 h2 h3
      have e : bytesT (d + 1 + 1) (.mk 3 0 ⟨#[]⟩ l) = 3 :: (number l.length ++ l.flatMap (bytesT (d + 1))) := by simp [bytesT, T.kind, T.list]
      rw [e] at hl ⊢
      exact rbytes_list (d + 1) l s w ht h4 hl (fun d' h => by
        obtain rfl : d' = d := by omega
        exact ih)

end Go.Proofs.Ytccddgohagakoaa
