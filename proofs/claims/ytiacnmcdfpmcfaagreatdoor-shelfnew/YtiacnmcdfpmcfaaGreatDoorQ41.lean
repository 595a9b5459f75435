/-
  The reference's ParseAll, by a contract.
  What a definition that is none is refused for.
  Entries in memory; the reference's Same of them, by a contract.
-/
import Derived.Test.YtiacnmcdfpmcfaaGreatDoorQ40
import Derived.Test.YtiacnmcdfpmcfaaGreatDoorQ39
import Derived.Test.YtiacnmcdfpmcfaaGreatDoorQ01
import Derived.Test.YtiacnmcdfpmcfaaGreatDoorSums
import Derived.Lib.Bytealg
namespace Go.Proofs.YtiacnmcdfpmcfaaGreatDoor
open Go.RowKit
attribute [local go_sem] cell?_more frozen?_more setCell_more size_more tape_more drew_more drewN_more more_drew more_drewN one_out plus_out plus_end lt_one le_p2 le_p3 le_p4 le_p5 le_p6 le_p7 le_p8 le_p9 le_p10 le_p11 le_p12 le_p13 le_p14 le_p15 le_p16 le_p17 le_p18 le_p19 le_p20 le_p21 le_p22 le_p23 le_p24 le_q0 le_q1 lt_q1 le_q2 lt_q2 le_q3 lt_q3 le_q4 lt_q4 le_q5 lt_q5 le_q6 lt_q6 le_q7 lt_q7 le_q8 lt_q8 le_q9 lt_q9 le_q10 lt_q10 le_q11 lt_q11 le_q12 lt_q12 le_q13 lt_q13 le_q14 lt_q14 le_q15 lt_q15 le_q16 lt_q16 le_q17 lt_q17 le_q18 lt_q18 le_q19 lt_q19 le_q20 lt_q20 le_q21 lt_q21 le_q22 lt_q22 le_q23 lt_q23 le_q24 lt_q24


theorem get_L (s : ByteArray) {i : Nat} (hi : i < s.size) : s.toList[i]'(by rw [toList_length]; exact hi) = s[i] := toList_get ..

set_option maxHeartbeats 8000000 in
set_option maxRecDepth 20000 in
theorem rParseAll_any (s : ByteArray) (hs : s.size ≤ 2000) (w : World) : Calls Tryz.prog 18 #[.string s] w fun e w' => GaveR (parseA s.toList) e w' ∧ Adds w w' := by
  generalize hPA : parseA s.toList = PA
  have HPA : Hid (parseA s.toList = PA) := hPA
  clear hPA
  go_enter Tryz.func18, Tryz.ntmps18
  go_wp2
  go_loopw [4, 5, 6] (fun lv fv iv wr => ∃ (i f : Nat) (done : List ByteArray), i ≤ s.size + 1 ∧ iv = .int .i64 i ∧ fv = .int .i64 f ∧ f ≤ 2002 ∧ Hid (Cut s.toList i f done) ∧ Hid (Sr w wr lv done)) (fun _ _ iv _ => s.size + 1 - (intOf iv).toNat)
  case atStart => exact ⟨0, 0, [], Nat.zero_le _, rfl, rfl, by omega, cut_nil _, sr_empty rfl⟩
  case round =>
    obtain ⟨i, f, done, hi, rfl, rfl, hf2, HC, HR⟩ := hrel
    obtain ⟨vo, vc, rfl⟩ := HR.out.shape
    obtain ⟨os, n0, rfl⟩ := HR.out.adds
    have hLs : s.toList.length = s.size := toList_length s
    by_cases hle : i ≤ s.size
    · obtain ⟨hfi, hdl⟩ := HC.out.f_le (by omega)
      have hnl : done.length ≤ 10000 := by omega
      have HU : Hid ((s.extract f i).toList = (s.toList.take i).drop f) := extract_L s f i
      have hle' : (i : Int) ≤ (s.size : Int) := by omega
      have hfi' : (f : Int) ≤ (i : Int) := by omega
      have HL : Hid (s.toList.length = s.size) := hLs
      clear hLs
      by_cases hend : i = s.size
      · have HCE : Hid (Cut s.toList (i + 1) (i + 1) (done ++ [s.extract f i])) := HC.out.end' (by have := HL.out; omega) HU.out (i + 1)
        clear HC HU
        subst hend
        go_wp2_with (first
          | (at_builtin; refine str_app rfl (.tmp 28) (.tmp 33) rfl (Sr.own HR.out) (by repeat (first | with_reducible exact Adds.refl _ | with_reducible refine Adds.alloc ?_ _ | with_reducible refine Adds.more ?_ _ _ | with_reducible refine Adds.drew ?_ | with_reducible refine Adds.drewN ?_ _)) (by simp [size_more]) rfl (by first | rfl | simp [size_more] | (simp [size_more]; omega)) rfl hnl ?_; intro v6 w6 ho6 hg6))
        go_roundw
        case rel => exact ⟨s.size + 1, s.size + 1, _, by omega, by go_num, by go_num, by omega, HCE, Sr.push HR.out (by repeat (first | with_reducible exact Adds.refl _ | with_reducible refine Adds.alloc ?_ _ | with_reducible refine Adds.more ?_ _ _ | with_reducible refine Adds.drew ?_ | with_reducible refine Adds.drewN ?_ _)) ho6 hg6⟩
        case measure => simp [intOf]
      · have hlt : i < s.size := by omega
        have hne : ((i : Int) == (s.size : Int)) = false := by simp; omega
        by_cases hc : (s[i].toNat : Int) = 44
        · have hcb : ((s[i].toNat : Int) == 44) = true := by simpa using hc
          have HCE : Hid (Cut s.toList (i + 1) (i + 1) (done ++ [s.extract f i])) := HC.out.comma (by have := HL.out; omega) (by rw [get_L s hlt]; exact UInt8.toNat_inj.1 (by simpa using (by omega : s[i].toNat = 44))) HU.out
          clear HC HU hc
          go_wp2_with (first
            | (at_builtin; refine str_app rfl (.tmp 28) (.tmp 33) rfl (Sr.own HR.out) (by repeat (first | with_reducible exact Adds.refl _ | with_reducible refine Adds.alloc ?_ _ | with_reducible refine Adds.more ?_ _ _ | with_reducible refine Adds.drew ?_ | with_reducible refine Adds.drewN ?_ _)) (by simp [size_more]) rfl (by first | rfl | simp [size_more] | (simp [size_more]; omega)) rfl hnl ?_; intro v6 w6 ho6 hg6))
          go_roundw
          case rel => exact ⟨i + 1, i + 1, _, by omega, by go_num, by go_num, by omega, HCE, Sr.push HR.out (by repeat (first | with_reducible exact Adds.refl _ | with_reducible refine Adds.alloc ?_ _ | with_reducible refine Adds.more ?_ _ _ | with_reducible refine Adds.drew ?_ | with_reducible refine Adds.drewN ?_ _)) ho6 hg6⟩
          case measure => simp [intOf]; omega
        · have hcb : ((s[i].toNat : Int) == 44) = false := by simpa using hc
          have HCE : Hid (Cut s.toList (i + 1) f done) := HC.out.skip (by have := HL.out; omega) (by rw [get_L s hlt]; intro e; exact hc (by rw [e]; rfl))
          clear HC HU hc
          go_wp2
          go_roundw
          case rel => exact ⟨i + 1, f, done, by omega, by go_num, rfl, hf2, HCE, HR⟩
          case measure => simp [intOf]; omega
    · have hall : Hid (done.map ByteArray.toList = spl s.toList) := HC.out.all (by omega)
      have hdl : done.length = (spl s.toList).length := by rw [← hall.out, List.length_map]
      have hle' : ¬ (i : Int) ≤ (s.size : Int) := by omega
      clear HC hLs
      by_cases h4 : 4 < done.length
      · have h4' : (4 : Int) < (done.length : Int) := by omega
        have HE : Hid (PA = .error 5) := by
          rw [← HPA.out]
          unfold parseA
          rw [if_pos (by omega)]
          rfl
        clear hdl hall HR
        go_wp2
        exact bodyPost_ret (v := .tuple #[.slice none 0 0, .int .i64 5]) (by simp [results, Tryz.results18, go_sem]) rfl ⟨by rw [HE.out]; rfl, by repeat (first | with_reducible exact Adds.refl _ | with_reducible refine Adds.alloc ?_ _ | with_reducible refine Adds.more ?_ _ _ | with_reducible refine Adds.drew ?_ | with_reducible refine Adds.drewN ?_ _)⟩
      · have h4' : ¬ (4 : Int) < (done.length : Int) := by omega
        have HE : Hid (PA = parseLs (done.map ByteArray.toList)) := by
          rw [← HPA.out, hall.out]
          unfold parseA
          rw [if_neg (by omega)]
          rfl
        clear hdl hall HPA
        have HCL : Hid (∀ (j : Nat) (hj : j < done.length), ∃ g, vo = some ⟨g, 0, none⟩ ∧ g < (more w os n0).heap.size ∧ (more w os n0).cell? ⟨g, j, none⟩ = some (.string done[j])) := fun j hj => HR.out.cell hj
        have HA1 : Hid (Adds w (more w os n0)) := by
          show Adds _ _
          repeat (first | with_reducible exact Adds.refl _ | with_reducible refine Adds.alloc ?_ _ | with_reducible refine Adds.more ?_ _ _ | with_reducible refine Adds.drew ?_ | with_reducible refine Adds.drewN ?_ _)
        clear HR
        generalize more w os n0 = wq at *
        go_wp2
        go_loopw [7, 8] (fun lv iv wr => ∃ (j D : Nat) (xs : List E) (ns : List NV), j ≤ done.length ∧ iv = .int .i64 j ∧ Hid (Sofar (done.map ByteArray.toList) j xs) ∧ Hid (Nr wq wr lv xs ns D)) (fun _ iv _ => done.length - (intOf iv).toNat)
        case atStart => exact ⟨0, 0, [], [], Nat.zero_le _, rfl, sofar_nil _, nr_empty rfl⟩
        case round =>
          obtain ⟨j, D, xs, ns, hj, rfl, HSo, HN⟩ := hrel
          obtain ⟨uo, uc, rfl⟩ := HN.out.shape
          have hlx : xs.length = j := HSo.out.1
          have hln : ns.length = j := HN.out.rx.1.trans hlx
          obtain ⟨os1, n1, rfl⟩ := HN.out.adds
          by_cases hlt : j < done.length
          · obtain ⟨g, rfl, hgq, cj⟩ := HCL.out j hlt
            have hnl : ns.length ≤ 10000 := by omega
            have hlt2 : j < (done.map ByteArray.toList).length := by simpa using hlt
            have hel : (done.map ByteArray.toList)[j] = done[j].toList := by simp
            clear hln hlx
            cases hp : parseL done[j].toList with
            | error c =>
              have kP := fun W => (parse_E hp W).2
              rw [toB_of] at kP
              have HEE : Hid (PA = .error c) := by
                show _ = _
                rw [HE.out]
                exact HSo.out.err hlt2 (by rw [hel]; exact hp)
              have hc0 : (c == 0) = false := by simpa using parseL_err hp
              clear hp HCL HSo HN hel hlt2
              generalize done[j] = one at *
              go_wp2_with (go_at_call 38; refine (kP _).mono ?_; rintro e w2 ⟨rfl, os2, n2, rfl⟩)
              exact bodyPost_ret (v := .tuple #[.slice none 0 0, .int .i64 c]) (by simp [results, Tryz.results18, go_sem]) rfl ⟨by rw [HEE.out]; rfl, HA1.out.trans (by repeat (first | with_reducible exact Adds.refl _ | with_reducible refine Adds.alloc ?_ _ | with_reducible refine Adds.more ?_ _ _ | with_reducible refine Adds.drew ?_ | with_reducible refine Adds.drewN ?_ _))⟩
            | ok x =>
              have kP := fun W => (parse_O hp W).2
              rw [toB_of] at kP
              have HNX : Hid (Sofar (done.map ByteArray.toList) (j + 1) (xs ++ [x])) := HSo.out.next hlt2 (by rw [hel]; exact hp)
              clear hp HCL HSo hel hlt2
              generalize done[j] = one at *
              simp only [Gave, nodeV] at kP
              go_wp2_with (first
                | (go_at_call 38; refine (kP _).mono ?_; rintro e w2 ⟨⟨ao, cap, D', rfl, hT⟩, os2, n2, rfl⟩)
                | (at_builtin; refine node_app rfl (.tmp 58) (.tmp 60) rfl (Nr.own HN.out) (by repeat (first | with_reducible exact Adds.refl _ | with_reducible refine Adds.alloc ?_ _ | with_reducible refine Adds.more ?_ _ _ | with_reducible refine Adds.drew ?_ | with_reducible refine Adds.drewN ?_ _)) (by simp [size_more]) rfl (by first | rfl | simp [size_more] | (simp [size_more]; omega)) rfl hnl ?_; intro v6 w6 ho6 hg6 hv6))
              go_roundw
              case rel =>
                refine ⟨j + 1, _, xs ++ [x], _, by omega, by go_num, HNX, Nr.push (D' := D') HN.out (by repeat (first | with_reducible exact Adds.refl _ | with_reducible refine Adds.alloc ?_ _ | with_reducible refine Adds.more ?_ _ _ | with_reducible refine Adds.drew ?_ | with_reducible refine Adds.drewN ?_ _)) ?_ ho6 hg6 hv6⟩
                exact (Tn.adds hT.out (by repeat (first | with_reducible exact Adds.refl _ | with_reducible refine Adds.alloc ?_ _ | with_reducible refine Adds.more ?_ _ _ | with_reducible refine Adds.drew ?_ | with_reducible refine Adds.drewN ?_ _))).weak (fun b hb _ => Nat.le_trans (Nat.le_succ _) hb)
              case measure => simp [intOf]; omega
          · have hj' : j = done.length := by omega
            have HG : Hid (GaveR PA (.returned (.tuple #[.slice uo xs.length uc, .int .i64 0])) (more wq os1 n1)) := by
              have h1 := HSo.out
              rw [hj', show done.length = (done.map ByteArray.toList).length by simp] at h1
              have h2 := HN.out.gave h1
              rw [← HE.out] at h2
              exact h2
            subst hj'
            clear HSo HN hln HE
            go_wp2
            exact bodyPost_ret (v := .tuple #[.slice uo xs.length uc, .int .i64 0]) (by simp [results, Tryz.results18, go_sem]) rfl ⟨HG.out, HA1.out.trans (by repeat (first | with_reducible exact Adds.refl _ | with_reducible refine Adds.alloc ?_ _ | with_reducible refine Adds.more ?_ _ _ | with_reducible refine Adds.drew ?_ | with_reducible refine Adds.drewN ?_ _))⟩

end Go.Proofs.YtiacnmcdfpmcfaaGreatDoor

namespace Go.Proofs.YtiacnmcdfpmcfaaGreatDoor
open Go.RowKit
attribute [local go_sem] cell?_more frozen?_more setCell_more size_more tape_more drew_more drewN_more more_drew more_drewN one_out plus_out plus_end lt_one le_p2 le_p3 le_p4 le_p5 le_p6 le_p7 le_p8 le_p9 le_p10 le_p11 le_p12 le_p13 le_p14 le_p15 le_p16 le_p17 le_p18 le_p19 le_p20 le_p21 le_p22 le_p23 le_p24 le_q0 le_q1 lt_q1 le_q2 lt_q2 le_q3 lt_q3 le_q4 lt_q4 le_q5 lt_q5 le_q6 lt_q6 le_q7 lt_q7 le_q8 lt_q8 le_q9 lt_q9 le_q10 lt_q10 le_q11 lt_q11 le_q12 lt_q12 le_q13 lt_q13 le_q14 lt_q14 le_q15 lt_q15 le_q16 lt_q16 le_q17 lt_q17 le_q18 lt_q18 le_q19 lt_q19 le_q20 lt_q20 le_q21 lt_q21 le_q22 lt_q22 le_q23 lt_q23 le_q24 lt_q24


theorem parseA_err {s : List UInt8} {c : Int} (h : parseA s = .error c) : c ≠ 0 := by
  unfold parseA at h
  split at h
  · cases h
    decide
  · exact parseLs_err h

def xA : E := .path [97]
def fA (n : Int) : F := ⟨⟨#[97]⟩, V.mkNum n, by decide⟩

theorem a_list : (⟨#[97]⟩ : ByteArray).toList = [97] := by rw [ByteArray.toList_eq]

theorem parse_a : parseA [97] = .ok [xA] := by
  have hM : M [97] [] Fr.none none = some xA := M_whole (.up2 (.up1 (.leaf rfl)))
  have hp : parseL [97] = .ok xA := by
    unfold parseL
    rw [if_neg (by decide), hM]
    rfl
  have hs : spl [97] = [[97]] := by decide
  unfold parseA
  rw [hs, if_neg (by decide)]
  simp [parseLs, hp]

end Go.Proofs.YtiacnmcdfpmcfaaGreatDoor

namespace Go.Proofs.YtiacnmcdfpmcfaaGreatDoor.Sh
open Go.RowKit
attribute [local go_sem] cell?_more frozen?_more setCell_more size_more tape_more drew_more drewN_more more_drew more_drewN one_out plus_out plus_end lt_one le_p2 le_p3 le_p4 le_p5 le_p6 le_p7 le_p8 le_p9 le_p10 le_p11 le_p12 le_p13 le_p14 le_p15 le_p16 le_p17 le_p18 le_p19 le_p20 le_p21 le_p22 le_p23 le_p24 le_q0 le_q1 lt_q1 le_q2 lt_q2 le_q3 lt_q3 le_q4 lt_q4 le_q5 lt_q5 le_q6 lt_q6 le_q7 lt_q7 le_q8 lt_q8 le_q9 lt_q9 le_q10 lt_q10 le_q11 lt_q11 le_q12 lt_q12 le_q13 lt_q13 le_q14 lt_q14 le_q15 lt_q15 le_q16 lt_q16 le_q17 lt_q17 le_q18 lt_q18 le_q19 lt_q19 le_q20 lt_q20 le_q21 lt_q21 le_q22 lt_q22 le_q23 lt_q23 le_q24 lt_q24

/-- A pair of a key and what stands there. -/
structure F where
  path : ByteArray
  val : ByteArray

/-- The cells of the pairs fs, from ⟨b, off⟩ on. -/
def Lies (w : World) (b off : Nat) (fs : List F) : Prop := ∀ j (h : j < fs.length),
  w.cell? ⟨b, off + j * 2, none⟩ = some (.string fs[j].path) ∧ w.cell? ⟨b, off + j * 2 + 1, none⟩ = some (.string fs[j].val)

/-- The slice value s reads as the pairs fs. -/
def Lst (w : World) (s : Value) (fs : List F) : Prop :=
  ∃ ao cap, s = .slice ao fs.length cap ∧ fs.length ≤ cap ∧ (fs = [] ∨ ∃ b off, ao = some ⟨b, off, none⟩ ∧ b < w.heap.size ∧ Lies w b off fs)

theorem Lies.below {w w' : World} {B b off : Nat} {fs : List F} (h : Lies w b off fs) (hb : Below B w w') (hB : b < B) : Lies w' b off fs := by
  intro j hj
  obtain ⟨h0, h1⟩ := h j hj
  exact ⟨(hb.cell (by exact hB)).trans h0, (hb.cell (by exact hB)).trans h1⟩

theorem Lst.below {w w' : World} {s : Value} {fs : List F} (h : Lst w s fs) (hb : Below w.heap.size w w') : Lst w' s fs := by
  obtain ⟨ao, cap, rfl, hc, h | ⟨b, off, rfl, hlt, hl⟩⟩ := h
  · exact ⟨ao, cap, rfl, hc, .inl h⟩
  · exact ⟨_, cap, rfl, hc, .inr ⟨b, off, rfl, Nat.lt_of_lt_of_le hlt hb.size, hl.below hb hlt⟩⟩

theorem Lst.adds {w w' : World} {s : Value} {fs : List F} (h : Lst w s fs) (hb : Adds w w') : Lst w' s fs := h.below hb.below

/-- One key ahead of another. -/
def lessP (x y : ByteArray) : Bool := Op.bytesLess x.toList y.toList


theorem toList_inj {a b : ByteArray} (h : a.toList = b.toList) : a = b := by
  rw [ByteArray.toList_eq, ByteArray.toList_eq] at h
  obtain ⟨x⟩ := a
  obtain ⟨y⟩ := b
  congr 1
  exact Array.toList_inj.1 h

theorem F.eq_iff (a b : F) : a = b ↔ a.path.toList = b.path.toList ∧ a.val.toList = b.val.toList := by
  obtain ⟨ap, av⟩ := a
  obtain ⟨bp, bv⟩ := b
  simp only [F.mk.injEq]
  exact ⟨fun h => ⟨by rw [h.1], by rw [h.2]⟩, fun h => ⟨toList_inj h.1, toList_inj h.2⟩⟩

instance : DecidableEq F := fun a b => decidable_of_iff _ (F.eq_iff a b).symm

theorem run_neqP (ap av bp bv : ByteArray) (w : World) :
    (binOp .neq 70 (.agg #[.string ap, .string av]) (.agg #[.string bp, .string bv])).run Tryz.prog w
      = .ok (.bool (!decide (ap.toList = bp.toList ∧ av.toList = bv.toList))) w := by
  go_simp
  by_cases h0 : ap.toList = bp.toList <;> by_cases h1 : av.toList = bv.toList <;> simp [h0, h1]

theorem take_next {l t : List F} {k : Nat} (hk : k < l.length) (ht : k < t.length) (hp : l.take k = t.take k) (he : l[k] = t[k]) : l.take (k + 1) = t.take (k + 1) := by
  rw [List.take_succ_eq_append_getElem hk, List.take_succ_eq_append_getElem ht, hp, he]

theorem differ {l t : List F} {k : Nat} (hk : k < l.length) (ht : k < t.length) (h : l[k] ≠ t[k]) : decide (l = t) = false := decide_eq_false (fun e => by subst e; exact h rfl)

set_option maxHeartbeats 2000000 in
theorem refSame_any (s s' : Value) (l t : List F) (w : World) (hl : Lst w s l) (ht : Lst w s' t) (hl6 : l.length ≤ 1000) (ht6 : t.length ≤ 1000) :
    Calls Tryz.prog 24 #[s, s'] w fun e w' => e = .returned (.bool (decide (l = t))) ∧ Adds w w' := by
  obtain ⟨ao, cap, rfl, hcap, hlo⟩ := hl
  obtain ⟨bo, cap', rfl, hcap', hto⟩ := ht
  by_cases hlen : l.length = t.length
  · have hlen' : (l.length : Int) = (t.length : Int) := by omega
    rw [← hlen]
    go_enter Tryz.func24, Tryz.ntmps24
    go_wp2
    go_loopw [5] (fun i wr => ∃ k : Nat, k ≤ l.length ∧ i = .int .i64 k ∧ l.take k = t.take k ∧ Adds w wr) (fun i _ => l.length - (intOf i).toNat)
    case atStart => exact ⟨0, Nat.zero_le _, rfl, by simp, Adds.refl _⟩
    case round =>
      obtain ⟨k, hk, rfl, hp, os, n, rfl⟩ := hrel
      by_cases hlt : k < l.length
      · have hlt' : k < t.length := by omega
        rcases hlo with rfl | ⟨b, off, rfl, hb, hll⟩
        · simp at hlt
        rcases hto with rfl | ⟨b', off', rfl, hb', hlt2⟩
        · simp at hlt'
        obtain ⟨c0, c1⟩ := hll k hlt
        obtain ⟨d0, d1⟩ := hlt2 k hlt'
        have hd := differ hlt hlt'
        have hn := take_next hlt hlt' hp
        generalize l[k] = x at *
        generalize t[k] = y at *
        have he := run_neqP x.path x.val y.path y.val
        have hxy : decide (x.path.toList = y.path.toList ∧ x.val.toList = y.val.toList) = decide (x = y) := decide_eq_decide.2 (by rw [F.eq_iff])
        rw [hxy] at he
        clear hxy
        by_cases hE : x = y
        · have HN : Hid _ := hn hE
          rw [decide_eq_true hE, Bool.not_true] at he
          clear hd hn hE hp
          go_wp2
          go_quiet (fail)
          go_wp2
          go_roundw
          case rel =>
            refine ⟨k + 1, by omega, by go_num, HN.out, ?_⟩
            repeat (first | with_reducible exact Adds.refl _ | with_reducible refine Adds.alloc ?_ _ | with_reducible refine Adds.more ?_ _ _ | with_reducible refine Adds.drew ?_ | with_reducible refine Adds.drewN ?_ _)
          case measure => simp [intOf]; omega
        · have HD : Hid _ := hd hE
          rw [decide_eq_false hE, Bool.not_false] at he
          clear hd hn hp
          go_wp2
          go_quiet (fail)
          go_wp2
          go_ret
          refine ⟨by rw [HD.out]; rfl, ?_⟩
          repeat (first | with_reducible exact Adds.refl _ | with_reducible refine Adds.alloc ?_ _ | with_reducible refine Adds.more ?_ _ _ | with_reducible refine Adds.drew ?_ | with_reducible refine Adds.drewN ?_ _)
      · have hk' : k = l.length := by omega
        subst hk'
        have hE : l = t := by
          rw [List.take_length, hlen, List.take_length] at hp
          exact hp
        subst hE
        clear hp
        go_wp2
        go_ret
        refine ⟨by simp, ?_⟩
        repeat (first | with_reducible exact Adds.refl _ | with_reducible refine Adds.alloc ?_ _ | with_reducible refine Adds.more ?_ _ _ | with_reducible refine Adds.drew ?_ | with_reducible refine Adds.drewN ?_ _)
  · have hne : decide (l = t) = false := decide_eq_false (fun e => hlen (by rw [e]))
    have hlen2 : ((l.length : Int) != (t.length : Int)) = true := by simp; omega
    rw [hne]
    go_enter Tryz.func24, Tryz.ntmps24
    go_wp2
    go_ret
    exact ⟨rfl, Adds.refl _⟩


end Go.Proofs.YtiacnmcdfpmcfaaGreatDoor.Sh
