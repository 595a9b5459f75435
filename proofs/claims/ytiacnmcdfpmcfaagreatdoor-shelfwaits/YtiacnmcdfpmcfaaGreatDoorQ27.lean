/-
  The reference's cutting of a text, by laws.
  The reference's ParseAll, by a contract.
-/
import Derived.Test.YtiacnmcdfpmcfaaGreatDoorV27
namespace Go.Proofs.YtiacnmcdfpmcfaaGreatDoor
open Go.RowKit
attribute [local go_sem] cell?_more frozen?_more setCell_more size_more tape_more drew_more drewN_more more_drew more_drewN one_out plus_out plus_end lt_one le_p2 le_p3 le_p4 le_p5 le_p6 le_p7 le_p8 le_p9 le_p10 le_p11 le_p12 le_p13 le_p14 le_p15 le_p16 le_p17 le_p18 le_p19 le_p20 le_p21 le_p22 le_p23 le_p24 le_q0 le_q1 lt_q1 le_q2 lt_q2 le_q3 lt_q3 le_q4 lt_q4 le_q5 lt_q5 le_q6 lt_q6 le_q7 lt_q7 le_q8 lt_q8 le_q9 lt_q9 le_q10 lt_q10 le_q11 lt_q11 le_q12 lt_q12 le_q13 lt_q13 le_q14 lt_q14 le_q15 lt_q15 le_q16 lt_q16 le_q17 lt_q17 le_q18 lt_q18 le_q19 lt_q19 le_q20 lt_q20 le_q21 lt_q21 le_q22 lt_q22 le_q23 lt_q23 le_q24 lt_q24


theorem infoStr : (Tryz.prog.info? 9).map (fun i => (i.zero, i.size, i.bytes)) = some (some (.string ⟨#[]⟩), 1, 16) := by kernel_rfl

/-- append of one text. -/
theorem str_app {ops : Array Oper} {rest : List Oper} {o : Oper} {a : Act} {X : World} {Q : Exit → Act → World → Prop} (hgd : o.guard = none) (s x : Operand) (ho : o.op = .call { callee := .builtin .append, args := #[s, x], argTypes := #[79, 79] })
    {B : Nat} {W : World} {v : Value} {xs : List ByteArray} {u : ByteArray} (h : W.ownsRow B 9 1 v xs.length (xs.map Value.string)) (hA : Adds W X) (hB : B ≤ W.heap.size) (hs : a.eval s = v) {kk c : Nat} (hkk : kk = X.heap.size) (hx : a.eval x = .slice (some ⟨kk, 0, none⟩) 1 c) (hlen : xs.length ≤ 10000)
    (hk : ∀ v' w', w'.ownsRow B 9 1 v' (xs ++ [u]).length ((xs ++ [u]).map Value.string) → (X.alloc (.cells #[.string u] 9)).grownBy w' v.ownBlock → wpList Tryz.prog ops Q rest (a.put o.dst v') w') : wpList Tryz.prog ops Q (o :: rest) a (X.alloc (.cells #[.string u] 9)) := by
  obtain ⟨i0, hi, hz0, hz1, hz2⟩ := info_parts infoStr
  have h' := own_adds h (hA.alloc (.cells #[.string u] 9))
  have hnews : ∀ j y, [Value.string u][j]? = some y → (X.alloc (.cells #[.string u] 9)).cell? ((⟨kk, 0, none⟩ : Addr).add j) = some y := by
    intro j y hj
    rw [Addr.add_lit, Nat.zero_add]
    exact cell_new hkk hj
  have hB' : B ≤ (X.alloc (.cells #[.string u] 9)).heap.size := by
    have := hA.below.size
    simp
    omega
  obtain ⟨v', w', h1, h2, h3, _⟩ := run_append_own (P := Tryz.prog) _ B 79 o.type 9 i0 _ 1 16 Tryz.underlying79 hi hz0 hz1 hz2 rfl (by decide) v xs.length (xs.map Value.string) h' ⟨kk, 0, none⟩ 1 c [Value.string u] rfl hnews (by intro y hy; simp at hy; rw [hy]; rfl) (by unfold maxLen; omega) (by omega) hB'
  refine Lib.wpList_append_run _ hgd s x 79 79 ho v _ hs hx v' w' h1 (hk v' w' ?_ h3)
  rw [List.length_append, List.map_append]
  exact h2

/-- The texts that were cut off so far. -/
structure Sr (w1 wr : World) (v : Value) (done : List ByteArray) : Prop where
  own : wr.ownsRow w1.heap.size 9 1 v done.length (done.map Value.string)
  adds : Adds w1 wr

theorem sr_empty {X : World} {k : Nat} (hk : k = X.heap.size) : Sr X (X.alloc (.cells #[] 9)) (.slice (some ⟨k, 0, none⟩) 0 0) [] := by
  subst hk
  exact ⟨⟨rfl, .inr ⟨X.heap.size, 0, #[], rfl, Nat.le_refl _, new_block _ _, Nat.le_refl _, by unfold maxLen; omega, rfl, rfl⟩⟩, (Adds.refl _).alloc _⟩

theorem Sr.shape {w1 wr : World} {v : Value} {done : List ByteArray} (h : Sr w1 wr v done) : ∃ ao cap, v = .slice ao done.length cap := by
  rcases h.own.2 with ⟨rfl, h0⟩ | ⟨g, cap, cur, rfl, _⟩
  · exact ⟨none, 0, by rw [h0]⟩
  · exact ⟨_, cap, rfl⟩

theorem Sr.push {w1 wr X w6 : World} {v v' : Value} {done : List ByteArray} {u : ByteArray} (h : Sr w1 wr v done) (hA : Adds wr X) (ho : w6.ownsRow w1.heap.size 9 1 v' (done ++ [u]).length ((done ++ [u]).map Value.string)) (hg : (X.alloc (.cells #[.string u] 9)).grownBy w6 v.ownBlock) : Sr w1 w6 v' (done ++ [u]) :=
  ⟨ho, grown_adds ((h.adds.trans hA).alloc _) hg (fun k hk => (h.own.lt k hk).1)⟩

theorem Sr.cell {w1 wr : World} {ao : Option Addr} {n cap : Nat} {done : List ByteArray} (h : Sr w1 wr (.slice ao n cap) done) {j : Nat} (hj : j < done.length) : ∃ g, ao = some ⟨g, 0, none⟩ ∧ g < wr.heap.size ∧ wr.cell? ⟨g, j, none⟩ = some (.string done[j]) := by
  rcases h.own.2 with ⟨he, h0⟩ | ⟨g, cap', cur, he, hb, hg, hr⟩
  · omega
  · simp only [Value.slice.injEq] at he
    refine ⟨g, he.1, lt_of_some hg, ?_⟩
    have := World.ownsRow.cells h.own (g := g) (by rw [he.1]; rfl) j (.string done[j]) (by simp [hj])
    rwa [Addr.add_lit, Nat.zero_add] at this

/-- Where the cutting stands: f is where the piece begins. -/
def Cut (s : List UInt8) (i f : Nat) (done : List ByteArray) : Prop :=
  (i ≤ s.length ∧ f ≤ i ∧ done.length ≤ f ∧ done.map ByteArray.toList ++ spl (s.drop f) = spl s ∧ (44 : UInt8) ∉ (s.drop f).take (i - f)) ∨ (i = s.length + 1 ∧ done.map ByteArray.toList = spl s)

theorem cut_nil (s : List UInt8) : Cut s 0 0 [] := .inl ⟨Nat.zero_le _, Nat.le_refl _, Nat.le_refl _, rfl, by simp⟩

theorem Cut.skip {s : List UInt8} {i f : Nat} {done : List ByteArray} (h : Cut s i f done) (hi : i < s.length) (hc : s[i] ≠ 44) : Cut s (i + 1) f done := by
  rcases h with ⟨_, h2, h3, h4, h5⟩ | ⟨h, _⟩
  · refine .inl ⟨hi, by omega, h3, h4, ?_⟩
    have hlt : i - f < (s.drop f).length := by rw [List.length_drop]; omega
    rw [show i + 1 - f = (i - f) + 1 by omega, List.take_succ_eq_append_getElem hlt]
    intro hm
    rcases List.mem_append.1 hm with hm | hm
    · exact h5 hm
    · rw [List.mem_singleton, List.getElem_drop] at hm
      exact hc (by simpa [show f + (i - f) = i by omega] using hm.symm)
  · omega

theorem Cut.comma {s : List UInt8} {i f : Nat} {done : List ByteArray} (h : Cut s i f done) (hi : i < s.length) (hc : s[i] = 44) {u : ByteArray} (hu : u.toList = (s.take i).drop f) : Cut s (i + 1) (i + 1) (done ++ [u]) := by
  rcases h with ⟨_, h2, h3, h4, h5⟩ | ⟨h, _⟩
  · refine .inl ⟨hi, Nat.le_refl _, by simp; omega, ?_, by simp⟩
    have e1 : (s.drop f).take (i - f) = (s.take i).drop f := by rw [List.drop_take]
    have e2 : s.drop f = (s.take i).drop f ++ 44 :: s.drop (i + 1) := by
      have h6 : s.drop f = (s.drop f).take (i - f) ++ (s.drop f).drop (i - f) := (List.take_append_drop _ _).symm
      rw [List.drop_drop, show f + (i - f) = i by omega, List.drop_eq_getElem_cons hi, hc, e1] at h6
      exact h6
    rw [e1] at h5
    rw [← h4, e2, spl_at h5, List.map_append, List.map_cons, List.map_nil, hu]
    simp
  · omega

theorem Cut.end {s : List UInt8} {f : Nat} {done : List ByteArray} (h : Cut s s.length f done) {u : ByteArray} (hu : u.toList = (s.take s.length).drop f) (f' : Nat) : Cut s (s.length + 1) f' (done ++ [u]) := by
  rcases h with ⟨_, h2, h3, h4, h5⟩ | ⟨h, _⟩
  · refine .inr ⟨rfl, ?_⟩
    rw [List.take_of_length_le (by rw [List.length_drop]; omega)] at h5
    rw [← h4, spl_none h5, List.map_append, List.map_cons, List.map_nil, hu, List.take_length]
  · omega

theorem Cut.end' {s : List UInt8} {i f : Nat} {done : List ByteArray} (h : Cut s i f done) (hi : i = s.length) {u : ByteArray} (hu : u.toList = (s.take i).drop f) (f' : Nat) : Cut s (i + 1) f' (done ++ [u]) := by
  subst hi
  exact h.end hu f'

theorem Cut.f_le {s : List UInt8} {i f : Nat} {done : List ByteArray} (h : Cut s i f done) (hi : i ≤ s.length) : f ≤ i ∧ done.length ≤ s.length := by
  rcases h with ⟨_, h2, h3, _⟩ | ⟨h, _⟩
  · omega
  · omega

theorem Cut.all {s : List UInt8} {i f : Nat} {done : List ByteArray} (h : Cut s i f done) (hi : ¬ i ≤ s.length) : done.map ByteArray.toList = spl s := by
  rcases h with ⟨h, _⟩ | ⟨_, h⟩
  · exact absurd h hi
  · exact h

end Go.Proofs.YtiacnmcdfpmcfaaGreatDoor

namespace Go.Proofs.YtiacnmcdfpmcfaaGreatDoor
open Go.RowKit
attribute [local go_sem] cell?_more frozen?_more setCell_more size_more tape_more drew_more drewN_more more_drew more_drewN one_out plus_out plus_end lt_one le_p2 le_p3 le_p4 le_p5 le_p6 le_p7 le_p8 le_p9 le_p10 le_p11 le_p12 le_p13 le_p14 le_p15 le_p16 le_p17 le_p18 le_p19 le_p20 le_p21 le_p22 le_p23 le_p24 le_q0 le_q1 lt_q1 le_q2 lt_q2 le_q3 lt_q3 le_q4 lt_q4 le_q5 lt_q5 le_q6 lt_q6 le_q7 lt_q7 le_q8 lt_q8 le_q9 lt_q9 le_q10 lt_q10 le_q11 lt_q11 le_q12 lt_q12 le_q13 lt_q13 le_q14 lt_q14 le_q15 lt_q15 le_q16 lt_q16 le_q17 lt_q17 le_q18 lt_q18 le_q19 lt_q19 le_q20 lt_q20 le_q21 lt_q21 le_q22 lt_q22 le_q23 lt_q23 le_q24 lt_q24


theorem get_L (s : ByteArray) {i : Nat} (hi : i < s.size) : s.toList[i]'(by rw [toList_length]; exact hi) = s[i] := toList_get ..

set_option maxHeartbeats 8000000 in
set_option maxRecDepth 20000 in
theorem rParseAll_any (s : ByteArray) (hs : s.size ≤ 2000) (w : World) : Calls Tryz.prog 18 #[.string s] w fun e w' => GaveR (parseA s.toList) e w' ∧ Adds w w' := by
  generalize hPA : parseA s.toList = PA
  have HPA : Hid (parseA s.toList = PA) := hPA
  clear hPA
  go_enter Tryz.func18, Tryz.ntmps18
  go_wp2
  go_loopw [4, 5, 6] (fun lv fv iv wr => ∃ (i f : Nat) (done : List ByteArray), i ≤ s.size + 1 ∧ iv = .int .i64 i ∧ fv = .int .i64 f ∧ f ≤ 2002 ∧ Hid (Cut s.toList i f done) ∧ Hid (Sr w wr lv done)) (fun _ _ iv _ => s.size + 1 - (intOf iv).toNat)
  case atStart => exact ⟨0, 0, [], Nat.zero_le _, rfl, rfl, by omega, cut_nil _, sr_empty rfl⟩
  case round =>
    obtain ⟨i, f, done, hi, rfl, rfl, hf2, HC, HR⟩ := hrel
    obtain ⟨vo, vc, rfl⟩ := HR.out.shape
    obtain ⟨os, n0, rfl⟩ := HR.out.adds
    have hLs : s.toList.length = s.size := toList_length s
    by_cases hle : i ≤ s.size
    · obtain ⟨hfi, hdl⟩ := HC.out.f_le (by omega)
      have hnl : done.length ≤ 10000 := by omega
      have HU : Hid ((s.extract f i).toList = (s.toList.take i).drop f) := extract_L s f i
      have hle' : (i : Int) ≤ (s.size : Int) := by omega
      have hfi' : (f : Int) ≤ (i : Int) := by omega
      have HL : Hid (s.toList.length = s.size) := hLs
      clear hLs
      by_cases hend : i = s.size
      · have HCE : Hid (Cut s.toList (i + 1) (i + 1) (done ++ [s.extract f i])) := HC.out.end' (by have := HL.out; omega) HU.out (i + 1)
        clear HC HU
        subst hend
        go_wp2_with (first
          | (at_builtin; refine str_app rfl (.tmp 28) (.tmp 33) rfl (Sr.own HR.out) (by repeat (first | with_reducible exact Adds.refl _ | with_reducible refine Adds.alloc ?_ _ | with_reducible refine Adds.more ?_ _ _ | with_reducible refine Adds.drew ?_ | with_reducible refine Adds.drewN ?_ _)) (by simp [size_more]) rfl (by first | rfl | simp [size_more] | (simp [size_more]; omega)) rfl hnl ?_; intro v6 w6 ho6 hg6))
        go_roundw
        case rel => exact ⟨s.size + 1, s.size + 1, _, by omega, by go_num, by go_num, by omega, HCE, Sr.push HR.out (by repeat (first | with_reducible exact Adds.refl _ | with_reducible refine Adds.alloc ?_ _ | with_reducible refine Adds.more ?_ _ _ | with_reducible refine Adds.drew ?_ | with_reducible refine Adds.drewN ?_ _)) ho6 hg6⟩
        case measure => simp [intOf]
      · have hlt : i < s.size := by omega
        have hne : ((i : Int) == (s.size : Int)) = false := by simp; omega
        by_cases hc : (s[i].toNat : Int) = 44
        · have hcb : ((s[i].toNat : Int) == 44) = true := by simpa using hc
          have HCE : Hid (Cut s.toList (i + 1) (i + 1) (done ++ [s.extract f i])) := HC.out.comma (by have := HL.out; omega) (by rw [get_L s hlt]; exact UInt8.toNat_inj.1 (by simpa using (by omega : s[i].toNat = 44))) HU.out
          clear HC HU hc
          go_wp2_with (first
            | (at_builtin; refine str_app rfl (.tmp 28) (.tmp 33) rfl (Sr.own HR.out) (by repeat (first | with_reducible exact Adds.refl _ | with_reducible refine Adds.alloc ?_ _ | with_reducible refine Adds.more ?_ _ _ | with_reducible refine Adds.drew ?_ | with_reducible refine Adds.drewN ?_ _)) (by simp [size_more]) rfl (by first | rfl | simp [size_more] | (simp [size_more]; omega)) rfl hnl ?_; intro v6 w6 ho6 hg6))
          go_roundw
          case rel => exact ⟨i + 1, i + 1, _, by omega, by go_num, by go_num, by omega, HCE, Sr.push HR.out (by repeat (first | with_reducible exact Adds.refl _ | with_reducible refine Adds.alloc ?_ _ | with_reducible refine Adds.more ?_ _ _ | with_reducible refine Adds.drew ?_ | with_reducible refine Adds.drewN ?_ _)) ho6 hg6⟩
          case measure => simp [intOf]; omega
        · have hcb : ((s[i].toNat : Int) == 44) = false := by simpa using hc
          have HCE : Hid (Cut s.toList (i + 1) f done) := HC.out.skip (by have := HL.out; omega) (by rw [get_L s hlt]; intro e; exact hc (by rw [e]; rfl))
          clear HC HU hc
          go_wp2
          go_roundw
          case rel => exact ⟨i + 1, f, done, by omega, by go_num, rfl, hf2, HCE, HR⟩
          case measure => simp [intOf]; omega
    · have hall : Hid (done.map ByteArray.toList = spl s.toList) := HC.out.all (by omega)
      have hdl : done.length = (spl s.toList).length := by rw [← hall.out, List.length_map]
      have hle' : ¬ (i : Int) ≤ (s.size : Int) := by omega
      clear HC hLs
      by_cases h4 : 4 < done.length
      · have h4' : (4 : Int) < (done.length : Int) := by omega
        have HE : Hid (PA = .error 5) := by
          rw [← HPA.out]
          unfold parseA
          rw [if_pos (by omega)]
          rfl
        clear hdl hall HR
        go_wp2
        exact bodyPost_ret (v := .tuple #[.slice none 0 0, .int .i64 5]) (by simp [results, Tryz.results18, go_sem]) rfl ⟨by rw [HE.out]; rfl, by repeat (first | with_reducible exact Adds.refl _ | with_reducible refine Adds.alloc ?_ _ | with_reducible refine Adds.more ?_ _ _ | with_reducible refine Adds.drew ?_ | with_reducible refine Adds.drewN ?_ _)⟩
      · have h4' : ¬ (4 : Int) < (done.length : Int) := by omega
        have HE : Hid (PA = parseLs (done.map ByteArray.toList)) := by
          rw [← HPA.out, hall.out]
          unfold parseA
          rw [if_neg (by omega)]
          rfl
        clear hdl hall HPA
        have HCL : Hid (∀ (j : Nat) (hj : j < done.length), ∃ g, vo = some ⟨g, 0, none⟩ ∧ g < (more w os n0).heap.size ∧ (more w os n0).cell? ⟨g, j, none⟩ = some (.string done[j])) := fun j hj => HR.out.cell hj
        have HA1 : Hid (Adds w (more w os n0)) := by
          show Adds _ _
          repeat (first | with_reducible exact Adds.refl _ | with_reducible refine Adds.alloc ?_ _ | with_reducible refine Adds.more ?_ _ _ | with_reducible refine Adds.drew ?_ | with_reducible refine Adds.drewN ?_ _)
        clear HR
        generalize more w os n0 = wq at *
        go_wp2
        go_loopw [7, 8] (fun lv iv wr => ∃ (j D : Nat) (xs : List E) (ns : List NV), j ≤ done.length ∧ iv = .int .i64 j ∧ Hid (Sofar (done.map ByteArray.toList) j xs) ∧ Hid (Nr wq wr lv xs ns D)) (fun _ iv _ => done.length - (intOf iv).toNat)
        case atStart => exact ⟨0, 0, [], [], Nat.zero_le _, rfl, sofar_nil _, nr_empty rfl⟩
        case round =>
          obtain ⟨j, D, xs, ns, hj, rfl, HSo, HN⟩ := hrel
          obtain ⟨uo, uc, rfl⟩ := HN.out.shape
          have hlx : xs.length = j := HSo.out.1
          have hln : ns.length = j := HN.out.rx.1.trans hlx
          obtain ⟨os1, n1, rfl⟩ := HN.out.adds
          by_cases hlt : j < done.length
          · obtain ⟨g, rfl, hgq, cj⟩ := HCL.out j hlt
            have hnl : ns.length ≤ 10000 := by omega
            have hlt2 : j < (done.map ByteArray.toList).length := by simpa using hlt
            have hel : (done.map ByteArray.toList)[j] = done[j].toList := by simp
            clear hln hlx
            cases hp : parseL done[j].toList with
            | error c =>
              have kP := fun W => (parse_E hp W).2
              rw [toB_of] at kP
              have HEE : Hid (PA = .error c) := by
                show _ = _
                rw [HE.out]
                exact HSo.out.err hlt2 (by rw [hel]; exact hp)
              have hc0 : (c == 0) = false := by simpa using parseL_err hp
              clear hp HCL HSo HN hel hlt2
              generalize done[j] = one at *
              go_wp2_with (go_at_call 38; refine (kP _).mono ?_; rintro e w2 ⟨rfl, os2, n2, rfl⟩)
              exact bodyPost_ret (v := .tuple #[.slice none 0 0, .int .i64 c]) (by simp [results, Tryz.results18, go_sem]) rfl ⟨by rw [HEE.out]; rfl, HA1.out.trans (by repeat (first | with_reducible exact Adds.refl _ | with_reducible refine Adds.alloc ?_ _ | with_reducible refine Adds.more ?_ _ _ | with_reducible refine Adds.drew ?_ | with_reducible refine Adds.drewN ?_ _))⟩
            | ok x =>
              have kP := fun W => (parse_O hp W).2
              rw [toB_of] at kP
              have HNX : Hid (Sofar (done.map ByteArray.toList) (j + 1) (xs ++ [x])) := HSo.out.next hlt2 (by rw [hel]; exact hp)
              clear hp HCL HSo hel hlt2
              generalize done[j] = one at *
              simp only [Gave, nodeV] at kP
              go_wp2_with (first
                | (go_at_call 38; refine (kP _).mono ?_; rintro e w2 ⟨⟨ao, cap, D', rfl, hT⟩, os2, n2, rfl⟩)
                | (at_builtin; refine node_app rfl (.tmp 58) (.tmp 60) rfl (Nr.own HN.out) (by repeat (first | with_reducible exact Adds.refl _ | with_reducible refine Adds.alloc ?_ _ | with_reducible refine Adds.more ?_ _ _ | with_reducible refine Adds.drew ?_ | with_reducible refine Adds.drewN ?_ _)) (by simp [size_more]) rfl (by first | rfl | simp [size_more] | (simp [size_more]; omega)) rfl hnl ?_; intro v6 w6 ho6 hg6 hv6))
              go_roundw
              case rel =>
                refine ⟨j + 1, _, xs ++ [x], _, by omega, by go_num, HNX, Nr.push (D' := D') HN.out (by repeat (first | with_reducible exact Adds.refl _ | with_reducible refine Adds.alloc ?_ _ | with_reducible refine Adds.more ?_ _ _ | with_reducible refine Adds.drew ?_ | with_reducible refine Adds.drewN ?_ _)) ?_ ho6 hg6 hv6⟩
                exact (Tn.adds hT.out (by repeat (first | with_reducible exact Adds.refl _ | with_reducible refine Adds.alloc ?_ _ | with_reducible refine Adds.more ?_ _ _ | with_reducible refine Adds.drew ?_ | with_reducible refine Adds.drewN ?_ _))).weak (fun b hb _ => Nat.le_trans (Nat.le_succ _) hb)
              case measure => simp [intOf]; omega
          · have hj' : j = done.length := by omega
            have HG : Hid (GaveR PA (.returned (.tuple #[.slice uo xs.length uc, .int .i64 0])) (more wq os1 n1)) := by
              have h1 := HSo.out
              rw [hj', show done.length = (done.map ByteArray.toList).length by simp] at h1
              have h2 := HN.out.gave h1
              rw [← HE.out] at h2
              exact h2
            subst hj'
            clear HSo HN hln HE
            go_wp2
            exact bodyPost_ret (v := .tuple #[.slice uo xs.length uc, .int .i64 0]) (by simp [results, Tryz.results18, go_sem]) rfl ⟨HG.out, HA1.out.trans (by repeat (first | with_reducible exact Adds.refl _ | with_reducible refine Adds.alloc ?_ _ | with_reducible refine Adds.more ?_ _ _ | with_reducible refine Adds.drew ?_ | with_reducible refine Adds.drewN ?_ _))⟩

end Go.Proofs.YtiacnmcdfpmcfaaGreatDoor
