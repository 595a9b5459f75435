/-
  The reference's Open, by contract.
-/
import Derived.Test.YtpjhohmbifpogaaMrcl
import Derived.Test.YtpjhohmbifpogaaRky
import Derived.Test.YtpjhohmbifpogaaMopg
import Derived.Test.YtpjhohmbifpogaaOpf
namespace Go.Proofs.Ytpjhohmbifpogaa
open Go.RowKit
attribute [local go_sem] cell?_more frozen?_more setCell_more size_more tape_more drew_more drewN_more more_drew more_drewN one_out plus_out plus_end lt_one le_p2 le_p3 le_p4 le_p5 le_p6 le_p7 le_p8 le_p9 le_p10 le_p11 le_p12 le_p13 le_p14 le_p15 le_p16 le_p17 le_p18 le_p19 le_p20 le_p21 le_p22 le_p23 le_p24 le_q0 le_q1 lt_q1 le_q2 lt_q2 le_q3 lt_q3 le_q4 lt_q4 le_q5 lt_q5 le_q6 lt_q6 le_q7 lt_q7 le_q8 lt_q8 le_q9 lt_q9 le_q10 lt_q10 le_q11 lt_q11 le_q12 lt_q12 le_q13 lt_q13 le_q14 lt_q14 le_q15 lt_q15 le_q16 lt_q16 le_q17 lt_q17 le_q18 lt_q18 le_q19 lt_q19 le_q20 lt_q20 le_q21 lt_q21 le_q22 lt_q22 le_q23 lt_q23 le_q24 lt_q24

theorem rowS_appsN {ops : Array Oper} {rest : List Oper} {o : Oper} {a : Act} {X Y : World} {Q : Exit → Act → World → Prop} (hgd : o.guard = none) (s x : Operand) (ho : o.op = .call { callee := .builtin .append, args := #[s, x], argTypes := #[23, 23] })
    {B : Nat} {v : Value} {fs : List Sb} {n m : Nat} (h : RowS B v fs X) (hn : fs.length = n) (hs : a.eval s = v) {x' : Value} {gs : List Sb} (hx : LstS X x' gs) (hm : gs.length = m) (hxe : a.eval x = x') (hY : Adds Y X) (hYB : Y.heap.size ≤ B) (hBX : B ≤ X.heap.size) (hlen : n + m ≤ 10000) (N : Nat) (hN : n + m = N)
    (hQ : ∀ vo vc os d, Hid (RowS B (.slice vo N vc) (fs ++ gs) (more Y os d) ∧ B ≤ (more Y os d).heap.size) → wpList Try.prog ops Q rest (a.put o.dst (.slice vo N vc)) (more Y os d)) : wpList Try.prog ops Q (o :: rest) a X := by
  subst hN
  exact rowS_apps hgd s x ho h hn hs hx hm hxe hY hYB hBX hlen hQ

theorem lstS_new (x : Sb) (W : World) (T : TypeId) (b : Nat) (hb : b = W.heap.size) : LstS (W.alloc (.cells #[.string x.name, .int .i64 x.pos] T)) (.slice (some ⟨b, 0, none⟩) 1 1) [x] :=
  ⟨_, 1, rfl, Nat.le_refl _, .inr ⟨b, 0, rfl, by subst hb; simp, liesS_new x W T b hb⟩⟩

set_option maxHeartbeats 2000000 in
set_option maxRecDepth 20000 in
theorem refOpen_err (base total pos c : Int) (s t : Value) (sb : List Sb) (name : ByteArray) (w : World) (hs : ∃ so n sc, s = .slice so n sc) (ht : LstS w t sb) (h8 : sb.length ≤ 1000) (hc : ∀ i j (hi : i < sb.length) (hj : j < sb.length), i < j → lessP sb[i].name sb[j].name = true)
    (he : (isKey name = false ∧ c = 1) ∨ (isKey name = true ∧ pos < 0 ∧ c = 1) ∨ (isKey name = true ∧ ¬ pos < 0 ∧ total < pos ∧ c = 1) ∨ (isKey name = true ∧ ¬ pos < 0 ∧ ¬ total < pos ∧ hasAt name sb = true ∧ c = 11) ∨ (isKey name = true ∧ ¬ pos < 0 ∧ ¬ total < pos ∧ hasAt name sb = false ∧ sb.length = 8 ∧ c = 2) ∨ (isKey name = true ∧ ¬ pos < 0 ∧ ¬ total < pos ∧ hasAt name sb = false ∧ sb.length ≠ 8 ∧ pos < base ∧ c = 8)) :
    Calls Try.prog 22 #[.agg #[.int .i64 base, .int .i64 total, s, t], .string name, .int .i64 pos] w fun e w' => e = .returned (.tuple #[.agg #[.int .i64 base, .int .i64 total, s, t], .int .i64 c]) ∧ Adds w w' := by
  have kA := fun w' (hA : Adds w w') => refAt_any base total s t sb name w' (ht.adds hA) h8 hc
  have kK := refKey_any name
  have hat : hasAt name sb = true → 0 ≤ atI name sb := fun h => by simp only [atI, h, if_true]; omega
  have hat' : hasAt name sb = false → atI name sb < 0 := fun h => by simp [atI, h]
  obtain ⟨so, n, sc, rfl⟩ := hs
  obtain ⟨uo, uc, rfl, huc, _⟩ := ht
  clear hc
  generalize atI name sb = av at *
  rcases he with ⟨h1, rfl⟩ | ⟨h1, h2, rfl⟩ | ⟨h1, h2, h3, rfl⟩ | ⟨h1, h2, h3, h4, rfl⟩ | ⟨h1, h2, h3, h4, h5, rfl⟩ | ⟨h1, h2, h3, h4, h5, h6, rfl⟩
  · rw [h1] at kK
    clear hat hat'
    go_enter Try.func22, Try.ntmps22
    go_wp2_with (first
      | (go_at_call 34; refine (kK _).mono ?_; rintro e w1 ⟨rfl, os1, n1, rfl⟩))
    try go_quiet (fail)
    try go_wp2
    exact bodyPost_ret (v := .tuple #[.agg #[.int .i64 base, .int .i64 total, .slice so n sc, .slice uo sb.length uc], .int .i64 1]) (by simp [results, Try.results22, go_sem]) rfl ⟨rfl, (by repeat (first | with_reducible exact Adds.refl _ | with_reducible refine Adds.alloc ?_ _ | with_reducible refine Adds.more ?_ _ _ | with_reducible refine Adds.drew ?_ | with_reducible refine Adds.drewN ?_ _))⟩
  · rw [h1] at kK
    clear hat hat'
    go_enter Try.func22, Try.ntmps22
    go_wp2_with (first
      | (go_at_call 34; refine (kK _).mono ?_; rintro e w1 ⟨rfl, os1, n1, rfl⟩))
    try go_quiet (fail)
    try go_wp2
    exact bodyPost_ret (v := .tuple #[.agg #[.int .i64 base, .int .i64 total, .slice so n sc, .slice uo sb.length uc], .int .i64 1]) (by simp [results, Try.results22, go_sem]) rfl ⟨rfl, (by repeat (first | with_reducible exact Adds.refl _ | with_reducible refine Adds.alloc ?_ _ | with_reducible refine Adds.more ?_ _ _ | with_reducible refine Adds.drew ?_ | with_reducible refine Adds.drewN ?_ _))⟩
  · rw [h1] at kK
    clear hat hat'
    go_enter Try.func22, Try.ntmps22
    go_wp2_with (first
      | (go_at_call 34; refine (kK _).mono ?_; rintro e w1 ⟨rfl, os1, n1, rfl⟩))
    try go_quiet (fail)
    try go_wp2
    exact bodyPost_ret (v := .tuple #[.agg #[.int .i64 base, .int .i64 total, .slice so n sc, .slice uo sb.length uc], .int .i64 1]) (by simp [results, Try.results22, go_sem]) rfl ⟨rfl, (by repeat (first | with_reducible exact Adds.refl _ | with_reducible refine Adds.alloc ?_ _ | with_reducible refine Adds.more ?_ _ _ | with_reducible refine Adds.drew ?_ | with_reducible refine Adds.drewN ?_ _))⟩
  · rw [h1] at kK
    have h5 := hat h4
    clear hat hat' h4
    go_enter Try.func22, Try.ntmps22
    go_wp2_with (first
      | (go_at_call 34; refine (kK _).mono ?_; rintro e w1 ⟨rfl, os1, n1, rfl⟩)
      | (go_at_call 44; refine (kA _ (by repeat (first | with_reducible exact Adds.refl _ | with_reducible refine Adds.alloc ?_ _ | with_reducible refine Adds.more ?_ _ _ | with_reducible refine Adds.drew ?_ | with_reducible refine Adds.drewN ?_ _))).mono ?_; rintro e w2 ⟨rfl, os2, n2, rfl⟩))
    try go_quiet (fail)
    try go_wp2
    exact bodyPost_ret (v := .tuple #[.agg #[.int .i64 base, .int .i64 total, .slice so n sc, .slice uo sb.length uc], .int .i64 11]) (by simp [results, Try.results22, go_sem]) rfl ⟨rfl, (by repeat (first | with_reducible exact Adds.refl _ | with_reducible refine Adds.alloc ?_ _ | with_reducible refine Adds.more ?_ _ _ | with_reducible refine Adds.drew ?_ | with_reducible refine Adds.drewN ?_ _))⟩
  · rw [h1] at kK
    have h6 := hat' h4
    have h7 : ¬ 0 ≤ av := by omega
    have h5' : (sb.length : Int) = 8 := by omega
    have h5'' : ((sb.length : Int) == 8) = true := by simpa using h5'
    have HL : Hid (sb.length = 8) := h5
    clear hat hat' h4 h5
    go_enter Try.func22, Try.ntmps22
    go_wp2_with (first
      | (go_at_call 34; refine (kK _).mono ?_; rintro e w1 ⟨rfl, os1, n1, rfl⟩)
      | (go_at_call 44; refine (kA _ (by repeat (first | with_reducible exact Adds.refl _ | with_reducible refine Adds.alloc ?_ _ | with_reducible refine Adds.more ?_ _ _ | with_reducible refine Adds.drew ?_ | with_reducible refine Adds.drewN ?_ _))).mono ?_; rintro e w2 ⟨rfl, os2, n2, rfl⟩))
    try go_quiet (fail)
    try go_wp2
    exact bodyPost_ret (v := .tuple #[.agg #[.int .i64 base, .int .i64 total, .slice so n sc, .slice uo sb.length uc], .int .i64 2]) (by simp [results, Try.results22, go_sem]) rfl ⟨rfl, (by repeat (first | with_reducible exact Adds.refl _ | with_reducible refine Adds.alloc ?_ _ | with_reducible refine Adds.more ?_ _ _ | with_reducible refine Adds.drew ?_ | with_reducible refine Adds.drewN ?_ _))⟩
  · rw [h1] at kK
    have h7 := hat' h4
    have h8 : ¬ 0 ≤ av := by omega
    have h5' : ¬ (sb.length : Int) = 8 := by omega
    have h5'' : ((sb.length : Int) == 8) = false := by simpa using h5'
    clear hat hat' h4
    go_enter Try.func22, Try.ntmps22
    go_wp2_with (first
      | (go_at_call 34; refine (kK _).mono ?_; rintro e w1 ⟨rfl, os1, n1, rfl⟩)
      | (go_at_call 44; refine (kA _ (by repeat (first | with_reducible exact Adds.refl _ | with_reducible refine Adds.alloc ?_ _ | with_reducible refine Adds.more ?_ _ _ | with_reducible refine Adds.drew ?_ | with_reducible refine Adds.drewN ?_ _))).mono ?_; rintro e w2 ⟨rfl, os2, n2, rfl⟩))
    try go_quiet (fail)
    try go_wp2
    exact bodyPost_ret (v := .tuple #[.agg #[.int .i64 base, .int .i64 total, .slice so n sc, .slice uo sb.length uc], .int .i64 8]) (by simp [results, Try.results22, go_sem]) rfl ⟨rfl, (by repeat (first | with_reducible exact Adds.refl _ | with_reducible refine Adds.alloc ?_ _ | with_reducible refine Adds.more ?_ _ _ | with_reducible refine Adds.drew ?_ | with_reducible refine Adds.drewN ?_ _))⟩

set_option maxHeartbeats 4000000 in
set_option maxRecDepth 20000 in
theorem refOpen_ok (base total pos : Int) (s t : Value) (sb : List Sb) (name : ByteArray) (w : World) (hs : ∃ so n sc, s = .slice so n sc) (ht : LstS w t sb) (h8 : sb.length ≤ 1000) (hc : ∀ i j (hi : i < sb.length) (hj : j < sb.length), i < j → lessP sb[i].name sb[j].name = true)
    (h1 : isKey name = true) (h2 : ¬ pos < 0) (h3 : ¬ total < pos) (h4 : hasAt name sb = false) (h5 : sb.length ≠ 8) (h6 : ¬ pos < base) :
    Calls Try.prog 22 #[.agg #[.int .i64 base, .int .i64 total, s, t], .string name, .int .i64 pos] w fun e w' => (∃ uo uc, e = .returned (.tuple #[.agg #[.int .i64 base, .int .i64 total, s, .slice uo (sb.length + 1) uc], .int .i64 0]) ∧ Hid (LstS w' (.slice uo (sb.length + 1) uc) (insS name pos sb))) ∧ Adds w w' := by
  have kA := fun w' (hA : Adds w w') => refAt_any base total s t sb name w' (ht.adds hA) h8 hc
  have kK := refKey_any name
  rw [h1] at kK
  have h7 : ¬ 0 ≤ atI name sb := by simp [atI, h4]
  obtain ⟨so, n, sc, rfl⟩ := hs
  have ht0 := ht
  obtain ⟨uo, uc, rfl, huc, hul⟩ := ht
  have h5' : ¬ (sb.length : Int) = 8 := by omega
  have h5'' : ((sb.length : Int) == 8) = false := by simpa using h5'
  have HT : Hid (LstS w (.slice uo sb.length uc) sb) := ht0
  clear hc h4 ht0
  generalize atI name sb = av at *
  go_enter Try.func22, Try.ntmps22
  go_wp2_with (first
    | (go_at_call 34; refine (kK _).mono ?_; rintro e w1 ⟨rfl, os1, n1, rfl⟩)
    | (go_at_call 44; refine (kA _ (by repeat (first | with_reducible exact Adds.refl _ | with_reducible refine Adds.alloc ?_ _ | with_reducible refine Adds.more ?_ _ _ | with_reducible refine Adds.drew ?_ | with_reducible refine Adds.drewN ?_ _))).mono ?_; rintro e w2 ⟨rfl, os2, n2, rfl⟩))
  go_loopw [8, 9] (fun nv i wr => ∃ (k B : Nat) (vo : Option Addr) (vc : Nat), k ≤ sb.length ∧ i = .int .i64 k ∧ nv = .slice vo k vc ∧ (∀ j (hj : j < sb.length), j < k → lessP sb[j].name name = true) ∧ Hid (((w.alloc (Obj.cells #[.int .i64 base, .int .i64 total, .slice so n sc, .slice uo sb.length uc] 25)).alloc (Obj.cells #[.int .i64 0, .int .i64 0, .slice none 0 0, .slice none 0 0] 25)).heap.size ≤ B) ∧ Hid (RowS B (.slice vo k vc) (sb.take k) wr ∧ B ≤ wr.heap.size) ∧ Adds ((w.alloc (Obj.cells #[.int .i64 base, .int .i64 total, .slice so n sc, .slice uo sb.length uc] 25)).alloc (Obj.cells #[.int .i64 0, .int .i64 0, .slice none 0 0, .slice none 0 0] 25)) wr) (fun _ i _ => sb.length - (intOf i).toNat)
  case atStart =>
    refine ⟨0, w.heap.size + os1.size + os2.size + 1 + 1, _, _, Nat.zero_le _, rfl, rfl, fun j _ hj => absurd hj (by omega), ?_, ⟨RowS.emptyAt _ _ (by simp [go_sem]), by simp [go_sem]⟩, (by repeat (first | with_reducible exact Adds.refl _ | with_reducible refine Adds.alloc ?_ _ | with_reducible refine Adds.more ?_ _ _ | with_reducible refine Adds.drew ?_ | with_reducible refine Adds.drewN ?_ _))⟩
    show _ ≤ _
    simp [go_sem] <;> omega
  case round =>
    obtain ⟨k, B, vo, vc, hk, rfl, rfl, hgood, HB, HR, os, n', rfl⟩ := hrel
    have HL : Hid ((sb.take k).length = k) := by show _ = _; rw [List.length_take]; omega
    by_cases hlt : k < sb.length
    · rcases hul with rfl | ⟨b, off, rfl, hb, hl⟩
      · simp at hlt
      obtain ⟨c0, c1⟩ := hl k hlt
      have hlt' : (k : Int) < (sb.length : Int) := by omega
      cases hL : lessP sb[k].name name
      · have hcut : cutAt name sb = k := cutAt_eq (Nat.le_of_lt hlt) hgood (fun _ => hL)
        have hL' : Op.bytesLess sb[k].name.toList name.toList = false := hL
        clear hL
        generalize sb[k].name = nm at *
        generalize sb[k].pos = ps at *
        have HC : Hid (insS name pos sb = sb.take k ++ [⟨name, pos⟩] ++ sb.drop k) := by show _ = _; unfold insS; rw [hcut]; simp
        have HT2 : Hid (∀ X, Adds w X → LstS X (.slice (some ⟨b, off + k * 2, none⟩) (sb.length - k) (uc - k)) (sb.drop k)) := fun X hA => LstS.adds ⟨_, uc - k, by rw [List.length_drop], by rw [List.length_drop]; omega, .inr ⟨b, _, rfl, hb, hl.drop k⟩⟩ hA
        have HL2 : Hid ((sb.take k ++ [(⟨name, pos⟩ : Sb)]).length = k + 1) := by show _ = _; rw [List.length_append, List.length_take, List.length_singleton]; omega
        have HL3 : Hid ((sb.drop k).length = sb.length - k) := by show _ = _; rw [List.length_drop]
        have hkc : k ≤ uc := by omega
        have hne : ¬ uc = k := by omega
        clear hcut hgood hl
        go_wp2_with (first
          | (at_builtin; refine rowS_apps (m := 1) (Y := ((w.alloc (Obj.cells #[.int .i64 base, .int .i64 total, .slice so n sc, .slice (some ⟨b, off, none⟩) sb.length uc] 25)).alloc (Obj.cells #[.int .i64 0, .int .i64 0, .slice none 0 0, .slice none 0 0] 25))) rfl (.tmp 68) (.tmp 72) rfl (RowS.far HR.out.1 (by repeat (first | with_reducible exact Far.refl _ _ | with_reducible refine Far.mores ?_ (by simp [go_sem]) _ _ _ | with_reducible refine Far.allocs ?_ (by simp [go_sem]) _ | with_reducible refine Far.low ?_ (by simp [go_sem]) (by first | omega | (simp [go_sem] <;> omega)) _ _ | with_reducible refine Far.more ?_ _ _ | with_reducible refine Far.alloc ?_ _))) HL.out rfl (lstS_new ⟨name, pos⟩ _ _ _ (by simp [go_sem])) rfl rfl (by repeat (first | with_reducible exact Adds.refl _ | with_reducible refine Adds.alloc ?_ _ | with_reducible refine Adds.more ?_ _ _ | with_reducible refine Adds.drew ?_ | with_reducible refine Adds.drewN ?_ _)) HB.out (Nat.le_trans HR.out.2 (by simp [go_sem])) (by omega) ?_; rintro v6 c6 os6 d6 H6)
          | (at_builtin; refine rowS_appsN (Y := ((w.alloc (Obj.cells #[.int .i64 base, .int .i64 total, .slice so n sc, .slice (some ⟨b, off, none⟩) sb.length uc] 25)).alloc (Obj.cells #[.int .i64 0, .int .i64 0, .slice none 0 0, .slice none 0 0] 25))) rfl (.tmp 74) (.tmp 78) rfl (RowS.far H6.out.1 (by repeat (first | with_reducible exact Far.refl _ _ | with_reducible refine Far.mores ?_ (by simp [go_sem]) _ _ _ | with_reducible refine Far.allocs ?_ (by simp [go_sem]) _ | with_reducible refine Far.low ?_ (by simp [go_sem]) (by first | omega | (simp [go_sem] <;> omega)) _ _ | with_reducible refine Far.more ?_ _ _ | with_reducible refine Far.alloc ?_ _))) HL2.out rfl (HT2.out _ (by repeat (first | with_reducible exact Adds.refl _ | with_reducible refine Adds.alloc ?_ _ | with_reducible refine Adds.more ?_ _ _ | with_reducible refine Adds.drew ?_ | with_reducible refine Adds.drewN ?_ _))) HL3.out rfl (by repeat (first | with_reducible exact Adds.refl _ | with_reducible refine Adds.alloc ?_ _ | with_reducible refine Adds.more ?_ _ _ | with_reducible refine Adds.drew ?_ | with_reducible refine Adds.drewN ?_ _)) HB.out (Nat.le_trans H6.out.2 (by simp [go_sem])) (by omega) (sb.length + 1) (by omega) ?_; rintro v7 c7 os7 d7 H7))
        try go_quiet (fail)
        try go_wp2
        refine bodyPost_ret (v := .tuple #[.agg #[.int .i64 base, .int .i64 total, .slice so n sc, .slice v7 (sb.length + 1) c7], .int .i64 0]) (by simp [results, Try.results22, go_sem]) rfl ⟨⟨v7, c7, rfl, ?_⟩, (by repeat (first | with_reducible exact Adds.refl _ | with_reducible refine Adds.alloc ?_ _ | with_reducible refine Adds.more ?_ _ _ | with_reducible refine Adds.drew ?_ | with_reducible refine Adds.drewN ?_ _))⟩
        have hB' := HB.out
        simp only [alloc_size] at hB'
        show LstS _ _ (insS name pos sb)
        rw [HC.out]
        exact (RowS.far H7.out.1 (by repeat (first | with_reducible exact Far.refl _ _ | with_reducible refine Far.mores ?_ (by simp [go_sem]) _ _ _ | with_reducible refine Far.allocs ?_ (by simp [go_sem]) _ | with_reducible refine Far.low ?_ (by simp [go_sem]) (by first | omega | (simp [go_sem] <;> omega)) _ _ | with_reducible refine Far.more ?_ _ _ | with_reducible refine Far.alloc ?_ _))).lst
      · have HN : Hid (sb.take (k + 1) = sb.take k ++ [⟨sb[k].name, sb[k].pos⟩]) := by show _ = _; rw [List.take_succ_eq_append_getElem hlt]
        have hgood' : ∀ j (hj : j < sb.length), j < k + 1 → lessP sb[j].name name = true := fun j hj hjk => by
          by_cases e : j = k
          · subst e; exact hL
          · exact hgood j hj (by omega)
        have HG : Hid (∀ j (hj : j < sb.length), j < k + 1 → lessP sb[j].name name = true) := hgood'
        have hL' : Op.bytesLess sb[k].name.toList name.toList = true := hL
        clear hL hgood hgood' hl
        generalize sb[k].name = nm at c0 hL' HN
        generalize sb[k].pos = ps at *
        go_wp2_with (at_builtin; refine rowS_apps (m := 1) (Y := ((w.alloc (Obj.cells #[.int .i64 base, .int .i64 total, .slice so n sc, .slice (some ⟨b, off, none⟩) sb.length uc] 25)).alloc (Obj.cells #[.int .i64 0, .int .i64 0, .slice none 0 0, .slice none 0 0] 25))) rfl (.tmp 58) (.tmp 64) rfl (RowS.far HR.out.1 (by repeat (first | with_reducible exact Far.refl _ _ | with_reducible refine Far.mores ?_ (by simp [go_sem]) _ _ _ | with_reducible refine Far.allocs ?_ (by simp [go_sem]) _ | with_reducible refine Far.low ?_ (by simp [go_sem]) (by first | omega | (simp [go_sem] <;> omega)) _ _ | with_reducible refine Far.more ?_ _ _ | with_reducible refine Far.alloc ?_ _))) HL.out rfl (lstS_new ⟨nm, ps⟩ _ _ _ (by simp [go_sem])) rfl rfl (by repeat (first | with_reducible exact Adds.refl _ | with_reducible refine Adds.alloc ?_ _ | with_reducible refine Adds.more ?_ _ _ | with_reducible refine Adds.drew ?_ | with_reducible refine Adds.drewN ?_ _)) HB.out (Nat.le_trans HR.out.2 (by simp [go_sem])) (by omega) ?_; rintro v6 c6 os6 d6 H6)
        go_roundw
        case rel => exact ⟨k + 1, B, v6, c6, by omega, by go_num, rfl, HG.out, HB, by rw [HN.out]; exact H6, (by repeat (first | with_reducible exact Adds.refl _ | with_reducible refine Adds.alloc ?_ _ | with_reducible refine Adds.more ?_ _ _ | with_reducible refine Adds.drew ?_ | with_reducible refine Adds.drewN ?_ _))⟩
        case measure => simp [intOf]; omega
    · obtain rfl : k = sb.length := by omega
      have hcut : cutAt name sb = sb.length := cutAt_eq (Nat.le_refl _) hgood (fun h => absurd h (Nat.lt_irrefl _))
      have HC : Hid (insS name pos sb = sb.take sb.length ++ [⟨name, pos⟩] ++ []) := by show _ = _; unfold insS; rw [hcut]; simp
      have HT2 : Hid (∀ X a c, LstS X (.slice a 0 c) []) := fun X a c => ⟨_, c, rfl, Nat.zero_le _, .inl rfl⟩
      have HL2 : Hid ((sb.take sb.length ++ [(⟨name, pos⟩ : Sb)]).length = sb.length + 1) := by show _ = _; rw [List.length_append, List.length_take, List.length_singleton, Nat.min_self]
      clear hcut hgood hul
      by_cases hcap : uc = sb.length
      · subst hcap
        cases uo with
        | none =>
          go_wp2_with (first
            | (at_builtin; refine rowS_apps (m := 1) (Y := ((w.alloc (Obj.cells #[.int .i64 base, .int .i64 total, .slice so n sc, .slice none sb.length sb.length] 25)).alloc (Obj.cells #[.int .i64 0, .int .i64 0, .slice none 0 0, .slice none 0 0] 25))) rfl (.tmp 68) (.tmp 72) rfl (RowS.far HR.out.1 (by repeat (first | with_reducible exact Far.refl _ _ | with_reducible refine Far.mores ?_ (by simp [go_sem]) _ _ _ | with_reducible refine Far.allocs ?_ (by simp [go_sem]) _ | with_reducible refine Far.low ?_ (by simp [go_sem]) (by first | omega | (simp [go_sem] <;> omega)) _ _ | with_reducible refine Far.more ?_ _ _ | with_reducible refine Far.alloc ?_ _))) HL.out rfl (lstS_new ⟨name, pos⟩ _ _ _ (by simp [go_sem])) rfl rfl (by repeat (first | with_reducible exact Adds.refl _ | with_reducible refine Adds.alloc ?_ _ | with_reducible refine Adds.more ?_ _ _ | with_reducible refine Adds.drew ?_ | with_reducible refine Adds.drewN ?_ _)) HB.out (Nat.le_trans HR.out.2 (by simp [go_sem])) (by omega) ?_; rintro v6 c6 os6 d6 H6)
            | (at_builtin; refine rowS_appsN (m := 0) (Y := ((w.alloc (Obj.cells #[.int .i64 base, .int .i64 total, .slice so n sc, .slice none sb.length sb.length] 25)).alloc (Obj.cells #[.int .i64 0, .int .i64 0, .slice none 0 0, .slice none 0 0] 25))) rfl (.tmp 74) (.tmp 78) rfl (RowS.far H6.out.1 (by repeat (first | with_reducible exact Far.refl _ _ | with_reducible refine Far.mores ?_ (by simp [go_sem]) _ _ _ | with_reducible refine Far.allocs ?_ (by simp [go_sem]) _ | with_reducible refine Far.low ?_ (by simp [go_sem]) (by first | omega | (simp [go_sem] <;> omega)) _ _ | with_reducible refine Far.more ?_ _ _ | with_reducible refine Far.alloc ?_ _))) HL2.out rfl (HT2.out _ _ _) rfl rfl (by repeat (first | with_reducible exact Adds.refl _ | with_reducible refine Adds.alloc ?_ _ | with_reducible refine Adds.more ?_ _ _ | with_reducible refine Adds.drew ?_ | with_reducible refine Adds.drewN ?_ _)) HB.out (Nat.le_trans H6.out.2 (by simp [go_sem])) (by omega) (sb.length + 1) (by omega) ?_; rintro v7 c7 os7 d7 H7))
          try go_quiet (fail)
          try go_wp2
          refine bodyPost_ret (v := .tuple #[.agg #[.int .i64 base, .int .i64 total, .slice so n sc, .slice v7 (sb.length + 1) c7], .int .i64 0]) (by simp [results, Try.results22, go_sem]) rfl ⟨⟨v7, c7, rfl, ?_⟩, (by repeat (first | with_reducible exact Adds.refl _ | with_reducible refine Adds.alloc ?_ _ | with_reducible refine Adds.more ?_ _ _ | with_reducible refine Adds.drew ?_ | with_reducible refine Adds.drewN ?_ _))⟩
          have hB' := HB.out
          simp only [alloc_size] at hB'
          show LstS _ _ (insS name pos sb)
          rw [HC.out]
          exact (RowS.far H7.out.1 (by repeat (first | with_reducible exact Far.refl _ _ | with_reducible refine Far.mores ?_ (by simp [go_sem]) _ _ _ | with_reducible refine Far.allocs ?_ (by simp [go_sem]) _ | with_reducible refine Far.low ?_ (by simp [go_sem]) (by first | omega | (simp [go_sem] <;> omega)) _ _ | with_reducible refine Far.more ?_ _ _ | with_reducible refine Far.alloc ?_ _))).lst
        | some a =>
          obtain ⟨b, off, sp⟩ := a
          go_wp2_with (first
            | (at_builtin; refine rowS_apps (m := 1) (Y := ((w.alloc (Obj.cells #[.int .i64 base, .int .i64 total, .slice so n sc, .slice (some ⟨b, off, sp⟩) sb.length sb.length] 25)).alloc (Obj.cells #[.int .i64 0, .int .i64 0, .slice none 0 0, .slice none 0 0] 25))) rfl (.tmp 68) (.tmp 72) rfl (RowS.far HR.out.1 (by repeat (first | with_reducible exact Far.refl _ _ | with_reducible refine Far.mores ?_ (by simp [go_sem]) _ _ _ | with_reducible refine Far.allocs ?_ (by simp [go_sem]) _ | with_reducible refine Far.low ?_ (by simp [go_sem]) (by first | omega | (simp [go_sem] <;> omega)) _ _ | with_reducible refine Far.more ?_ _ _ | with_reducible refine Far.alloc ?_ _))) HL.out rfl (lstS_new ⟨name, pos⟩ _ _ _ (by simp [go_sem])) rfl rfl (by repeat (first | with_reducible exact Adds.refl _ | with_reducible refine Adds.alloc ?_ _ | with_reducible refine Adds.more ?_ _ _ | with_reducible refine Adds.drew ?_ | with_reducible refine Adds.drewN ?_ _)) HB.out (Nat.le_trans HR.out.2 (by simp [go_sem])) (by omega) ?_; rintro v6 c6 os6 d6 H6)
            | (at_builtin; refine rowS_appsN (m := 0) (Y := ((w.alloc (Obj.cells #[.int .i64 base, .int .i64 total, .slice so n sc, .slice (some ⟨b, off, sp⟩) sb.length sb.length] 25)).alloc (Obj.cells #[.int .i64 0, .int .i64 0, .slice none 0 0, .slice none 0 0] 25))) rfl (.tmp 74) (.tmp 78) rfl (RowS.far H6.out.1 (by repeat (first | with_reducible exact Far.refl _ _ | with_reducible refine Far.mores ?_ (by simp [go_sem]) _ _ _ | with_reducible refine Far.allocs ?_ (by simp [go_sem]) _ | with_reducible refine Far.low ?_ (by simp [go_sem]) (by first | omega | (simp [go_sem] <;> omega)) _ _ | with_reducible refine Far.more ?_ _ _ | with_reducible refine Far.alloc ?_ _))) HL2.out rfl (HT2.out _ _ _) rfl rfl (by repeat (first | with_reducible exact Adds.refl _ | with_reducible refine Adds.alloc ?_ _ | with_reducible refine Adds.more ?_ _ _ | with_reducible refine Adds.drew ?_ | with_reducible refine Adds.drewN ?_ _)) HB.out (Nat.le_trans H6.out.2 (by simp [go_sem])) (by omega) (sb.length + 1) (by omega) ?_; rintro v7 c7 os7 d7 H7))
          try go_quiet (fail)
          try go_wp2
          refine bodyPost_ret (v := .tuple #[.agg #[.int .i64 base, .int .i64 total, .slice so n sc, .slice v7 (sb.length + 1) c7], .int .i64 0]) (by simp [results, Try.results22, go_sem]) rfl ⟨⟨v7, c7, rfl, ?_⟩, (by repeat (first | with_reducible exact Adds.refl _ | with_reducible refine Adds.alloc ?_ _ | with_reducible refine Adds.more ?_ _ _ | with_reducible refine Adds.drew ?_ | with_reducible refine Adds.drewN ?_ _))⟩
          have hB' := HB.out
          simp only [alloc_size] at hB'
          show LstS _ _ (insS name pos sb)
          rw [HC.out]
          exact (RowS.far H7.out.1 (by repeat (first | with_reducible exact Far.refl _ _ | with_reducible refine Far.mores ?_ (by simp [go_sem]) _ _ _ | with_reducible refine Far.allocs ?_ (by simp [go_sem]) _ | with_reducible refine Far.low ?_ (by simp [go_sem]) (by first | omega | (simp [go_sem] <;> omega)) _ _ | with_reducible refine Far.more ?_ _ _ | with_reducible refine Far.alloc ?_ _))).lst
      · cases uo with
        | none =>
          go_wp2_with (first
            | (at_builtin; refine rowS_apps (m := 1) (Y := ((w.alloc (Obj.cells #[.int .i64 base, .int .i64 total, .slice so n sc, .slice none sb.length uc] 25)).alloc (Obj.cells #[.int .i64 0, .int .i64 0, .slice none 0 0, .slice none 0 0] 25))) rfl (.tmp 68) (.tmp 72) rfl (RowS.far HR.out.1 (by repeat (first | with_reducible exact Far.refl _ _ | with_reducible refine Far.mores ?_ (by simp [go_sem]) _ _ _ | with_reducible refine Far.allocs ?_ (by simp [go_sem]) _ | with_reducible refine Far.low ?_ (by simp [go_sem]) (by first | omega | (simp [go_sem] <;> omega)) _ _ | with_reducible refine Far.more ?_ _ _ | with_reducible refine Far.alloc ?_ _))) HL.out rfl (lstS_new ⟨name, pos⟩ _ _ _ (by simp [go_sem])) rfl rfl (by repeat (first | with_reducible exact Adds.refl _ | with_reducible refine Adds.alloc ?_ _ | with_reducible refine Adds.more ?_ _ _ | with_reducible refine Adds.drew ?_ | with_reducible refine Adds.drewN ?_ _)) HB.out (Nat.le_trans HR.out.2 (by simp [go_sem])) (by omega) ?_; rintro v6 c6 os6 d6 H6)
            | (at_builtin; refine rowS_appsN (m := 0) (Y := ((w.alloc (Obj.cells #[.int .i64 base, .int .i64 total, .slice so n sc, .slice none sb.length uc] 25)).alloc (Obj.cells #[.int .i64 0, .int .i64 0, .slice none 0 0, .slice none 0 0] 25))) rfl (.tmp 74) (.tmp 78) rfl (RowS.far H6.out.1 (by repeat (first | with_reducible exact Far.refl _ _ | with_reducible refine Far.mores ?_ (by simp [go_sem]) _ _ _ | with_reducible refine Far.allocs ?_ (by simp [go_sem]) _ | with_reducible refine Far.low ?_ (by simp [go_sem]) (by first | omega | (simp [go_sem] <;> omega)) _ _ | with_reducible refine Far.more ?_ _ _ | with_reducible refine Far.alloc ?_ _))) HL2.out rfl (HT2.out _ _ _) rfl rfl (by repeat (first | with_reducible exact Adds.refl _ | with_reducible refine Adds.alloc ?_ _ | with_reducible refine Adds.more ?_ _ _ | with_reducible refine Adds.drew ?_ | with_reducible refine Adds.drewN ?_ _)) HB.out (Nat.le_trans H6.out.2 (by simp [go_sem])) (by omega) (sb.length + 1) (by omega) ?_; rintro v7 c7 os7 d7 H7))
          try go_quiet (fail)
          try go_wp2
          refine bodyPost_ret (v := .tuple #[.agg #[.int .i64 base, .int .i64 total, .slice so n sc, .slice v7 (sb.length + 1) c7], .int .i64 0]) (by simp [results, Try.results22, go_sem]) rfl ⟨⟨v7, c7, rfl, ?_⟩, (by repeat (first | with_reducible exact Adds.refl _ | with_reducible refine Adds.alloc ?_ _ | with_reducible refine Adds.more ?_ _ _ | with_reducible refine Adds.drew ?_ | with_reducible refine Adds.drewN ?_ _))⟩
          have hB' := HB.out
          simp only [alloc_size] at hB'
          show LstS _ _ (insS name pos sb)
          rw [HC.out]
          exact (RowS.far H7.out.1 (by repeat (first | with_reducible exact Far.refl _ _ | with_reducible refine Far.mores ?_ (by simp [go_sem]) _ _ _ | with_reducible refine Far.allocs ?_ (by simp [go_sem]) _ | with_reducible refine Far.low ?_ (by simp [go_sem]) (by first | omega | (simp [go_sem] <;> omega)) _ _ | with_reducible refine Far.more ?_ _ _ | with_reducible refine Far.alloc ?_ _))).lst
        | some a =>
          obtain ⟨b, off, sp⟩ := a
          go_wp2_with (first
            | (at_builtin; refine rowS_apps (m := 1) (Y := ((w.alloc (Obj.cells #[.int .i64 base, .int .i64 total, .slice so n sc, .slice (some ⟨b, off, sp⟩) sb.length uc] 25)).alloc (Obj.cells #[.int .i64 0, .int .i64 0, .slice none 0 0, .slice none 0 0] 25))) rfl (.tmp 68) (.tmp 72) rfl (RowS.far HR.out.1 (by repeat (first | with_reducible exact Far.refl _ _ | with_reducible refine Far.mores ?_ (by simp [go_sem]) _ _ _ | with_reducible refine Far.allocs ?_ (by simp [go_sem]) _ | with_reducible refine Far.low ?_ (by simp [go_sem]) (by first | omega | (simp [go_sem] <;> omega)) _ _ | with_reducible refine Far.more ?_ _ _ | with_reducible refine Far.alloc ?_ _))) HL.out rfl (lstS_new ⟨name, pos⟩ _ _ _ (by simp [go_sem])) rfl rfl (by repeat (first | with_reducible exact Adds.refl _ | with_reducible refine Adds.alloc ?_ _ | with_reducible refine Adds.more ?_ _ _ | with_reducible refine Adds.drew ?_ | with_reducible refine Adds.drewN ?_ _)) HB.out (Nat.le_trans HR.out.2 (by simp [go_sem])) (by omega) ?_; rintro v6 c6 os6 d6 H6)
            | (at_builtin; refine rowS_appsN (m := 0) (Y := ((w.alloc (Obj.cells #[.int .i64 base, .int .i64 total, .slice so n sc, .slice (some ⟨b, off, sp⟩) sb.length uc] 25)).alloc (Obj.cells #[.int .i64 0, .int .i64 0, .slice none 0 0, .slice none 0 0] 25))) rfl (.tmp 74) (.tmp 78) rfl (RowS.far H6.out.1 (by repeat (first | with_reducible exact Far.refl _ _ | with_reducible refine Far.mores ?_ (by simp [go_sem]) _ _ _ | with_reducible refine Far.allocs ?_ (by simp [go_sem]) _ | with_reducible refine Far.low ?_ (by simp [go_sem]) (by first | omega | (simp [go_sem] <;> omega)) _ _ | with_reducible refine Far.more ?_ _ _ | with_reducible refine Far.alloc ?_ _))) HL2.out rfl (HT2.out _ _ _) rfl rfl (by repeat (first | with_reducible exact Adds.refl _ | with_reducible refine Adds.alloc ?_ _ | with_reducible refine Adds.more ?_ _ _ | with_reducible refine Adds.drew ?_ | with_reducible refine Adds.drewN ?_ _)) HB.out (Nat.le_trans H6.out.2 (by simp [go_sem])) (by omega) (sb.length + 1) (by omega) ?_; rintro v7 c7 os7 d7 H7))
          try go_quiet (fail)
          try go_wp2
          refine bodyPost_ret (v := .tuple #[.agg #[.int .i64 base, .int .i64 total, .slice so n sc, .slice v7 (sb.length + 1) c7], .int .i64 0]) (by simp [results, Try.results22, go_sem]) rfl ⟨⟨v7, c7, rfl, ?_⟩, (by repeat (first | with_reducible exact Adds.refl _ | with_reducible refine Adds.alloc ?_ _ | with_reducible refine Adds.more ?_ _ _ | with_reducible refine Adds.drew ?_ | with_reducible refine Adds.drewN ?_ _))⟩
          have hB' := HB.out
          simp only [alloc_size] at hB'
          show LstS _ _ (insS name pos sb)
          rw [HC.out]
          exact (RowS.far H7.out.1 (by repeat (first | with_reducible exact Far.refl _ _ | with_reducible refine Far.mores ?_ (by simp [go_sem]) _ _ _ | with_reducible refine Far.allocs ?_ (by simp [go_sem]) _ | with_reducible refine Far.low ?_ (by simp [go_sem]) (by first | omega | (simp [go_sem] <;> omega)) _ _ | with_reducible refine Far.more ?_ _ _ | with_reducible refine Far.alloc ?_ _))).lst

end Go.Proofs.Ytpjhohmbifpogaa
