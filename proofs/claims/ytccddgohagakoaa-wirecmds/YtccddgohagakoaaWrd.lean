/-
  A command's bytes: the functions record and Cmd of package wire, by contracts.
-/
import Derived.Test.YtccddgohagakoaaWrc
namespace Go.Proofs.Ytccddgohagakoaa
open Go.RowKit
attribute [local go_sem] cell?_more frozen?_more setCell_more size_more tape_more drew_more drewN_more more_drew more_drewN one_out plus_out plus_end lt_one le_p2 le_p3 le_p4 le_p5 le_p6 le_p7 le_p8 le_p9 le_p10 le_p11 le_p12 le_p13 le_p14 le_p15 le_p16 le_p17 le_p18 le_p19 le_p20 le_p21 le_p22 le_p23 le_p24 le_q0 le_q1 lt_q1 le_q2 lt_q2 le_q3 lt_q3 le_q4 lt_q4 le_q5 lt_q5 le_q6 lt_q6 le_q7 lt_q7 le_q8 lt_q8 le_q9 lt_q9 le_q10 lt_q10 le_q11 lt_q11 le_q12 lt_q12 le_q13 lt_q13 le_q14 lt_q14 le_q15 lt_q15 le_q16 lt_q16 le_q17 lt_q17 le_q18 lt_q18 le_q19 lt_q19 le_q20 lt_q20 le_q21 lt_q21 le_q22 lt_q22 le_q23 lt_q23 le_q24 lt_q24

theorem plT_num (lv : Nat) (n : Int) : plT (lv + 1) (tNum n) := .inl ⟨rfl, rfl, rfl⟩
theorem plT_txt (lv : Nat) (s : ByteArray) (h : s.size ≤ 65536) : plT (lv + 1) (tText s) := .inr (.inl ⟨rfl, rfl, h, rfl⟩)
theorem plT_lst (lv : Nat) (l : List T) (h : ∀ x ∈ l, plT lv x) : plT (lv + 1) (tList l) := .inr (.inr ⟨rfl, rfl, rfl, h⟩)

theorem cmdT_pl (c : Cm) (h : c.df.size ≤ 3000) : plT 3 (cmdT c) := by
  refine plT_lst 2 _ (fun x hx => ?_)
  simp only [List.mem_cons, List.not_mem_nil, or_false] at hx
  rcases hx with rfl | rfl | rfl | rfl | rfl | rfl
  · exact plT_num 1 _
  · exact plT_num 1 _
  · exact plT_num 1 _
  · exact plT_num 1 _
  · exact plT_txt 1 _ (by omega)
  · refine plT_lst 1 _ (fun x hx => ?_)
    obtain ⟨n, _, rfl⟩ := List.mem_map.1 hx
    exact plT_num 0 _

theorem size_nums (ns : List Int) : ((ns.map tNum).map (sizeT 1)).sum = ns.length := by
  induction ns with
  | nil => rfl
  | cons n r ih =>
    simp only [List.map_cons, List.sum_cons, List.length_cons, ih]
    simp [sizeT, tNum, T.list]
    omega

theorem cmdT_size (c : Cm) (h : c.ns.length ≤ 100) : sizeT 3 (cmdT c) ≤ 4096 := by
  have e : sizeT 3 (cmdT c) = 1 + (1 + (1 + (1 + (1 + (1 + ((1 + ((c.ns.map tNum).map (sizeT 1)).sum) + 0)))))) := rfl
  rw [e, size_nums]
  omega

theorem num_len {n : Int} (lv : Nat) (h1 : -9007199254740992 ≤ n) (h2 : n ≤ 9007199254740992) : (bytesT (lv + 1) (tNum n)).length ≤ 9 := (num_ok lv h1 h2).2.2

theorem cmdT_len (c : Cm) (h : c.ns.length ≤ 100) (hd : c.df.size ≤ 3000) (ho : oddT 3 (cmdT c) = false) : (bytesT 3 (cmdT c)).length ≤ 16384 := by
  have hb : ∀ x ∈ (cmdT c).list, oddT 2 x = false := fun x hx => by
    have := List.any_eq_false.1 (show (cmdT c).list.any (oddT 2) = false from ho) x hx
    simpa using this
  have hn : ∀ n : Int, oddT 2 (tNum n) = false → (bytesT 2 (tNum n)).length ≤ 9 := fun n h => by
    have h' : bigN n = false := h
    simp [bigN] at h'
    exact num_len 1 h'.1 h'.2
  have h0 := hn _ (hb (tNum c.kind) (by simp [cmdT, tList, T.list]))
  have h1 := hn _ (hb (tNum c.chain) (by simp [cmdT, tList, T.list]))
  have h2 := hn _ (hb (tNum c.epoch) (by simp [cmdT, tList, T.list]))
  have h3 := hn _ (hb (tNum c.node) (by simp [cmdT, tList, T.list]))
  have h5 := hb (tList (c.ns.map tNum)) (by simp [cmdT, tList, T.list])
  have hl5 : ∀ x ∈ c.ns.map tNum, (bytesT 1 x).length ≤ 9 := fun x hx => by
    have hx' := List.any_eq_false.1 (show (c.ns.map tNum).any (oddT 1) = false from h5) x hx
    obtain ⟨n, _, rfl⟩ := List.mem_map.1 hx
    have h' : bigN n = false := by simpa [oddT, tNum, T.kind, T.num] using hx'
    simp [bigN] at h'
    exact num_len 0 h'.1 h'.2
  have hf := flat_le (bytesT 1) 9 (c.ns.map tNum) hl5
  rw [List.length_map] at hf
  have n6 : (number (c.ns.map tNum).length).length ≤ 1 := by
    rw [List.length_map, number_small (by omega)]
    simp
  have n4 : (number c.df.size).length ≤ 2 := number_len 1 _ (by omega)
  have e : (bytesT 3 (cmdT c)).length = ((bytesT 2 (tNum c.kind)).length + ((bytesT 2 (tNum c.chain)).length + ((bytesT 2 (tNum c.epoch)).length + ((bytesT 2 (tNum c.node)).length + (1 + ((number c.df.size).length + c.df.size) + (1 + ((number (c.ns.map tNum).length).length + ((c.ns.map tNum).flatMap (bytesT 1)).length))))))) + (number 6).length + 1 := by
    have hds : c.df.size = c.df.data.toList.length := by rw [Array.length_toList]; rfl
    have e1 : bytesT 3 (cmdT c) = 3 :: (number 6 ++ (bytesT 2 (tNum c.kind) ++ (bytesT 2 (tNum c.chain) ++ (bytesT 2 (tNum c.epoch) ++ (bytesT 2 (tNum c.node) ++ ((2 :: (number c.df.size ++ c.df.data.toList)) ++ ((3 :: (number (c.ns.map tNum).length ++ (c.ns.map tNum).flatMap (bytesT 1))) ++ []))))))) := rfl
    rw [e1]
    simp only [List.length_cons, List.length_append, List.length_nil]
    omega
  have n60 : (number 6).length = 1 := by rw [number_small (by omega)]; rfl
  rw [e, n60]
  omega

end Go.Proofs.Ytccddgohagakoaa
