/-
  The strings of bytes; the statements' own function awake, by contract.
-/
import Derived.Test.YtccddgohagakoaaWrn
import Derived.Laws.BytesString
import Derived.Deep.RegionHeld
namespace Go.Proofs.Ytccddgohagakoaa
open Go.RowKit
attribute [local go_sem] cell?_more frozen?_more setCell_more size_more tape_more drew_more drewN_more more_drew more_drewN one_out plus_out plus_end lt_one le_p2 le_p3 le_p4 le_p5 le_p6 le_p7 le_p8 le_p9 le_p10 le_p11 le_p12 le_p13 le_p14 le_p15 le_p16 le_p17 le_p18 le_p19 le_p20 le_p21 le_p22 le_p23 le_p24 le_q0 le_q1 lt_q1 le_q2 lt_q2 le_q3 lt_q3 le_q4 lt_q4 le_q5 lt_q5 le_q6 lt_q6 le_q7 lt_q7 le_q8 lt_q8 le_q9 lt_q9 le_q10 lt_q10 le_q11 lt_q11 le_q12 lt_q12 le_q13 lt_q13 le_q14 lt_q14 le_q15 lt_q15 le_q16 lt_q16 le_q17 lt_q17 le_q18 lt_q18 le_q19 lt_q19 le_q20 lt_q20 le_q21 lt_q21 le_q22 lt_q22 le_q23 lt_q23 le_q24 lt_q24

theorem Byt.strs {w : World} {v : Value} {l : List UInt8} (h : Byt w v l) (os : Array Obj) (k : Nat) : (convert 26 9 v).run Try.prog (more w os k) = .ok (.string ⟨l.toArray⟩) (more w os k) := (h.adds ⟨os, k, rfl⟩).str

theorem Byt.stra {w : World} {v : Value} {l : List UInt8} (h : Byt w v l) (os : Array Obj) (k : Nat) (o : Obj) : (convert 26 9 v).run Try.prog ((more w os k).alloc o) = .ok (.string ⟨l.toArray⟩) ((more w os k).alloc o) := (h.adds (Adds.alloc ⟨os, k, rfl⟩ o)).str

def c0 : Cm := ⟨6, 0, 0, 0, ⟨#[]⟩, []⟩
def l0 : List UInt8 := [3, 6, 1, 12, 1, 0, 1, 0, 1, 0, 2, 0, 3, 0]

theorem c0_bytes : bytesT 3 (cmdT c0) = l0 := by
  have h6 : number 6 = [6] := number_small (by decide)
  have h12 : number 12 = [12] := number_small (by decide)
  have h0 : number 0 = [0] := number_small (by decide)
  have z6 : zig 6 = 12 := by decide
  have z0 : zig 0 = 0 := by decide
  have e0 : (⟨#[]⟩ : ByteArray).size = 0 := rfl
  have e1 : (⟨#[]⟩ : ByteArray).data.toList = [] := rfl
  simp [bytesT, cmdT, c0, tList, tNum, tText, T.kind, T.num, T.text, T.list, h6, z6, h12, z0, h0, e0, l0]

theorem c0_odd : oddT 3 (cmdT c0) = false := by decide +kernel

set_option maxRecDepth 20000 in
set_option maxHeartbeats 4000000 in
theorem awake_any (w : World) : Calls Try.prog 4 #[] w fun e w' => e = .returned (.bool true) ∧ Adds w w' := by
  have hN : ∀ W, LstI W (.slice none 0 0) c0.ns := fun W => ⟨none, 0, rfl, Nat.le_refl _, .inl rfl⟩
  have kC := fun W => wcmdB_any c0 (.slice none 0 0) W (hN W) (by decide) (by decide)
  have kO := fun v W (hB : Byt W v l0) => cmdOf_any c0 v l0 W hB (by decide) (by rw [← c0_bytes]; exact cmd_is c0 (by decide) (by decide) c0_odd) (by decide)
  rw [c0_bytes, c0_odd] at kC
  simp only [EncT, Bool.false_eq_true, if_false, Cm.val, c0] at kC kO
  go_enter Try.func4, Try.ntmps4
  go_wp2_with (first
    | (go_at_call 5; refine (kC _).mono ?_; rintro e w2 ⟨vo, vc, rfl, hO⟩; have HB : Hid (Byt w2 (.slice vo l0.length vc) l0) := hO.out.lst; have qs := fun os k o => HB.out.stra os k o; have HA : Hid (Adds w w2) := Adds.of hO.out.2.1; clear hO)
    | (go_at_call 7; refine (kO _ _ HB.out).mono ?_; rintro e w3 ⟨⟨a3, c3, rfl, _⟩, os3, n3, rfl⟩))
  go_ret
  exact ⟨rfl, Adds.trans HA.out (by repeat (first | with_reducible exact Adds.refl _ | with_reducible refine Adds.alloc ?_ _ | with_reducible refine Adds.more ?_ _ _ | with_reducible refine Adds.drew ?_ | with_reducible refine Adds.drewN ?_ _))⟩

end Go.Proofs.Ytccddgohagakoaa
