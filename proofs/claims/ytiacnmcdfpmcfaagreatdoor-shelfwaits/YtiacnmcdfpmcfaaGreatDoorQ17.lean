/-
  The function low, by a contract; a row of bytes that is turned byte by byte.
-/
import Derived.Test.YtiacnmcdfpmcfaaGreatDoorQ16
import Derived.Test.YtiacnmcdfpmcfaaGreatDoorQ03
import Derived.Lib.ConvBytes
import Derived.Lib.SlBytesConst
import Derived.Lib.SlBytesRow
import Derived.Laws.BytesString
namespace Go.Proofs.YtiacnmcdfpmcfaaGreatDoor
open Go.RowKit
attribute [local go_sem] cell?_more frozen?_more setCell_more size_more tape_more drew_more drewN_more more_drew more_drewN one_out plus_out plus_end lt_one le_p2 le_p3 le_p4 le_p5 le_p6 le_p7 le_p8 le_p9 le_p10 le_p11 le_p12 le_p13 le_p14 le_p15 le_p16 le_p17 le_p18 le_p19 le_p20 le_p21 le_p22 le_p23 le_p24 le_q0 le_q1 lt_q1 le_q2 lt_q2 le_q3 lt_q3 le_q4 lt_q4 le_q5 lt_q5 le_q6 lt_q6 le_q7 lt_q7 le_q8 lt_q8 le_q9 lt_q9 le_q10 lt_q10 le_q11 lt_q11 le_q12 lt_q12 le_q13 lt_q13 le_q14 lt_q14 le_q15 lt_q15 le_q16 lt_q16 le_q17 lt_q17 le_q18 lt_q18 le_q19 lt_q19 le_q20 lt_q20 le_q21 lt_q21 le_q22 lt_q22 le_q23 lt_q23 le_q24 lt_q24


/-- The bytes l lie in block g, and may be turned. -/
def LB (w : World) (g : Nat) (l : List UInt8) : Prop := g < w.heap.size ∧ (∀ j (h : j < l.length), w.cell? ⟨g, j, none⟩ = some (.int .u8 (l[j].toNat : Int))) ∧ (∀ j, j < l.length → w.frozen? ⟨g, j, none⟩ = false)

theorem LB.conv (w : World) (s : ByteArray) : LB (Lib.bytesWorld w 5 s) w.heap.size s.toList := by
  refine ⟨by rw [Lib.bytesWorld_size]; omega, fun j hj => ?_, fun j hj => ?_⟩
  · rw [Lib.bytesWorld_cell w 5 s j (by rw [← toList_length]; exact hj)]
    have e : s.data.toList = s.toList := by rw [ByteArray.toList_eq]
    rw [e, List.getD, List.getElem?_eq_getElem hj]
    rfl
  · have hnew := Lib.bytesWorld_at_new w 5 s
    have hge := grownCap_ge w s.size 0 5
    have hsz : (Lib.bytesCells w 5 s).size = grownCap w s.size 0 5 := by
      simp only [Lib.bytesCells, Array.size_append, Array.size_map, Array.size_replicate]
      show s.size + _ = _
      omega
    rw [toList_length] at hj
    simp only [World.frozen?, hnew]
    simp
    omega

theorem LB.set {w : World} {g : Nat} {l : List UInt8} (h : LB w g l) {k : Nat} (hk : k < l.length) (c : UInt8) : LB (w.setCell ⟨g, k, none⟩ (.int .u8 (c.toNat : Int))) g (l.set k c) := by
  obtain ⟨h0, h1, h2⟩ := h
  have hc := h1 k hk
  refine ⟨by simpa using h0, fun j hj => ?_, fun j hj => ?_⟩
  · rw [List.length_set] at hj
    by_cases e : k = j
    · subst e
      rw [World.cell?_setCell_same' _ _ _ (by rw [hc]; rfl)]
      simp
    · rw [show (w.setCell ⟨g, k, none⟩ (.int .u8 (c.toNat : Int))).cell? ⟨g, j, none⟩ = w.cell? ⟨g, j, none⟩ from World.cell?_setCell_other _ _ _ _ (by intro h; simp at h), h1 j hj]
      simp [e]
  · rw [List.length_set] at hj
    have := h2 j hj
    simpa using this

theorem LB.str {w : World} {g : Nat} {l : List UInt8} (h : LB w g l) (cap : Nat) : (convert 120 9 (.slice (some ⟨g, 0, none⟩) l.length cap)).run Tryz.prog w = .ok (.string (toB l)) w := by
  have := Lib.run_convert_whole (P := Tryz.prog) w 120 5 9 Tryz.underlying120 Tryz.underlying5 Tryz.underlying9 g 0 (toB l) (fun i hi => by
    have hi' : i < l.length := hi
    rw [Nat.zero_add, h.2.1 i hi']
    rfl) cap
  rw [toB_size] at this
  exact this

def mixL (f : UInt8 → UInt8) (l : List UInt8) (k : Nat) : List UInt8 := (l.take k).map f ++ l.drop k

theorem mixL_length (f : UInt8 → UInt8) (l : List UInt8) {k : Nat} (hk : k ≤ l.length) : (mixL f l k).length = l.length := by
  simp [mixL]
  omega

theorem mixL_at (f : UInt8 → UInt8) (l : List UInt8) {k : Nat} (hk : k < l.length) : (mixL f l k)[k]'(by rw [mixL_length f l (by omega)]; exact hk) = l[k] := by
  simp only [mixL]
  rw [List.getElem_append_right (by simp; omega)]
  simp [List.length_take, Nat.min_eq_left (Nat.le_of_lt hk)]

theorem mixL_next (f : UInt8 → UInt8) (l : List UInt8) {k : Nat} (hk : k < l.length) : mixL f l (k + 1) = (mixL f l k).set k (f l[k]) := by
  simp only [mixL]
  rw [List.take_succ_eq_append_getElem hk, List.map_append]
  rw [List.set_append_right _ _ (by simp; omega)]
  simp [List.length_take, Nat.min_eq_left (Nat.le_of_lt hk)]
  rw [List.drop_eq_getElem_cons hk, List.set_cons_zero]

theorem mixL_all (f : UInt8 → UInt8) (l : List UInt8) : mixL f l l.length = l.map f := by simp [mixL]

theorem lowC_up {c : UInt8} (h : 65 ≤ c.toNat ∧ c.toNat ≤ 90) : ((lowC c).toNat : Int) = (c.toNat : Int) + 32 := by
  have e : lowC c = c + 32 := by simp [lowC, h]
  rw [e, UInt8.toNat_add]
  have : (32 : UInt8).toNat = 32 := rfl
  omega

set_option maxHeartbeats 2000000 in
theorem low_any (s : ByteArray) (hs : s.size ≤ 256) (w : World) :
    Calls Tryz.prog 187 #[.string s] w fun e w' => e = .returned (.string (lowB s)) ∧ Adds w w' := by
  have hc0 := Lib.run_convert_string_bytes (P := Tryz.prog) w 9 120 5 s Tryz.underlying9 Tryz.underlying120 Tryz.underlying5
  have hL := LB.conv w s
  have hM : Mv (fun b => w.heap.size ≤ b) w (Lib.bytesWorld w 5 s) := ⟨rfl, rfl, rfl, by rw [Lib.bytesWorld_size]; omega, fun k hk _ => Lib.bytesWorld_at_old w 5 s k hk⟩
  generalize Lib.bytesWorld w 5 s = W0 at *
  generalize grownCap w s.size 0 5 = cap at *
  unfold lowB
  have hsz := toList_length s
  generalize hl : s.toList = l at *
  rw [← hsz] at hc0 hs
  clear hsz hl
  have HL : Hid (LB W0 w.heap.size l) := hL
  have HM : Hid (Mv (fun b => w.heap.size ≤ b) w W0) := hM
  clear hL hM
  go_enter Tryz.func187, Tryz.ntmps187
  go_wp2
  go_loopw [10] (fun iv wr => ∃ k : Nat, k ≤ l.length ∧ iv = .int .i64 k ∧ Hid (LB wr w.heap.size (mixL lowC l k)) ∧ Hid (Mv (fun b => w.heap.size ≤ b) w wr)) (fun iv _ => l.length - (intOf iv).toNat)
  case atStart => exact ⟨0, Nat.zero_le _, rfl, by simpa [mixL] using HL, HM⟩
  case round =>
    obtain ⟨k, hk, rfl, hB, hMv⟩ := hrel
    by_cases hlt : k < l.length
    · have hlen := mixL_length lowC l hk
      have c0 := hB.out.2.1 k (by rw [hlen]; exact hlt)
      rw [mixL_at lowC l hlt] at c0
      have cf := hB.out.2.2 k (by rw [hlen]; exact hlt)
      have hgl := hB.out.1
      have HN : Hid (mixL lowC l (k + 1) = (mixL lowC l k).set k (lowC l[k])) := mixL_next lowC l hlt
      have HS : Hid (LB (wr.setCell ⟨w.heap.size, k, none⟩ (.int .u8 ((lowC l[k]).toNat : Int))) w.heap.size (mixL lowC l (k + 1))) := by
        have := hB.out.set (by rw [hlen]; exact hlt) (lowC l[k])
        rw [← HN.out] at this
        exact this
      have HK : Hid (¬ (65 ≤ l[k].toNat ∧ l[k].toNat ≤ 90) → mixL lowC l (k + 1) = mixL lowC l k) := by
        intro h
        rw [HN.out]
        have e : lowC l[k] = l[k] := by simp only [lowC, h, if_false]
        rw [e]
        have := mixL_at lowC l hlt
        rw [← this]
        simp
      have HU : Hid (65 ≤ l[k].toNat ∧ l[k].toNat ≤ 90 → ((lowC l[k]).toNat : Int) = (l[k].toNat : Int) + 32) := lowC_up
      clear hlen
      by_cases h1 : 65 ≤ (l[k].toNat : Int)
      · by_cases h2 : (l[k].toNat : Int) ≤ 90
        · have hu := HU.out ⟨by omega, by omega⟩
          rw [hu] at HS
          clear hu HU HK HN
          generalize (l[k].toNat : Int) = c at *
          have w1 : IntKind.u8.wrap (c - 65) = c - 65 := by rw [IntKind.wrap_u8]; omega
          have w2 : IntKind.u8.wrap (c - 65 + 97) = c + 32 := by rw [IntKind.wrap_u8]; omega
          go_wp2
          go_roundw
          case rel =>
            refine ⟨k + 1, by omega, by go_num, ?_, ?_⟩
            · first
                | exact HS
                | (have := HS.out
                   have e : c - 65 + 97 = c + 32 := by omega
                   rw [← e] at this
                   exact this)
            · exact Mv.trans hMv.out (Mv.set _ _ (Nat.le_refl _))
          case measure => simp [intOf]; omega
        · have HE : Hid (mixL lowC l (k + 1) = mixL lowC l k) := HK.out (by omega)
          clear HU HK HN HS
          go_wp2
          go_roundw
          case rel => exact ⟨k + 1, by omega, by go_num, by rw [HE.out]; exact hB, hMv⟩
          case measure => simp [intOf]; omega
      · have HE : Hid (mixL lowC l (k + 1) = mixL lowC l k) := HK.out (by omega)
        clear HU HK HN HS
        go_wp2
        go_roundw
        case rel => exact ⟨k + 1, by omega, by go_num, by rw [HE.out]; exact hB, hMv⟩
        case measure => simp [intOf]; omega
    · have hk' : k = l.length := by omega
      subst hk'
      have hcv := hB.out.str cap
      rw [mixL_length lowC l (Nat.le_refl _), mixL_all] at hcv
      have hA := Mv.adds hMv.out
      clear hB hMv
      go_wp2
      go_ret
      exact ⟨rfl, hA⟩

end Go.Proofs.YtiacnmcdfpmcfaaGreatDoor
