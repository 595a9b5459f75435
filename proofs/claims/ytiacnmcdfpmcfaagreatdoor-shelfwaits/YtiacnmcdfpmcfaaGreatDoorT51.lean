/-
  Changes that are fed: which may be, and that they are one by one, by contracts.
  A shelf in a box that is loaded, by contract.
  A shelf in a box that is fed, by contract.
  A shelf in a box that is fed, by contract: the walk.
-/
import Derived.Test.YtiacnmcdfpmcfaaGreatDoorT48
import Derived.Test.YtiacnmcdfpmcfaaGreatDoorT38
import Derived.Test.YtiacnmcdfpmcfaaGreatDoorT37
import Derived.Test.YtiacnmcdfpmcfaaGreatDoorT50
import Derived.Test.YtiacnmcdfpmcfaaGreatDoorT40
namespace Go.Proofs.YtiacnmcdfpmcfaaGreatDoor
open Go.RowKit
attribute [local go_sem] cell?_more frozen?_more setCell_more size_more tape_more drew_more drewN_more more_drew more_drewN one_out plus_out plus_end lt_one le_p2 le_p3 le_p4 le_p5 le_p6 le_p7 le_p8 le_p9 le_p10 le_p11 le_p12 le_p13 le_p14 le_p15 le_p16 le_p17 le_p18 le_p19 le_p20 le_p21 le_p22 le_p23 le_p24 le_q0 le_q1 lt_q1 le_q2 lt_q2 le_q3 lt_q3 le_q4 lt_q4 le_q5 lt_q5 le_q6 lt_q6 le_q7 lt_q7 le_q8 lt_q8 le_q9 lt_q9 le_q10 lt_q10 le_q11 lt_q11 le_q12 lt_q12 le_q13 lt_q13 le_q14 lt_q14 le_q15 lt_q15 le_q16 lt_q16 le_q17 lt_q17 le_q18 lt_q18 le_q19 lt_q19 le_q20 lt_q20 le_q21 lt_q21 le_q22 lt_q22 le_q23 lt_q23 le_q24 lt_q24

/-- A change. -/
structure Ch where
  pos : Int
  key : ByteArray
  has : Bool
  doc : List F

def LiesH (w : World) (b off : Nat) (cs : List Ch) : Prop := ∀ j (h : j < cs.length), ∃ v,
  w.cell? ⟨b, off + j * 4, none⟩ = some (.int .i64 cs[j].pos) ∧ w.cell? ⟨b, off + j * 4 + 1, none⟩ = some (.string cs[j].key) ∧ w.cell? ⟨b, off + j * 4 + 2, none⟩ = some (.bool cs[j].has) ∧
  w.cell? ⟨b, off + j * 4 + 3, none⟩ = some v ∧ Lst w v cs[j].doc

/-- The slice value s reads as the changes cs. -/
def LstH (w : World) (s : Value) (cs : List Ch) : Prop :=
  ∃ ao cap, s = .slice ao cs.length cap ∧ cs.length ≤ cap ∧ (cs = [] ∨ ∃ b off, ao = some ⟨b, off, none⟩ ∧ b < w.heap.size ∧ LiesH w b off cs)

theorem LiesH.adds {w w' : World} {b off : Nat} {cs : List Ch} (h : LiesH w b off cs) (ha : Adds w w') (hb : b < w.heap.size) : LiesH w' b off cs := by
  intro j hj
  obtain ⟨v, h0, h1, h2, h3, h4⟩ := h j hj
  have hq := ha.below
  exact ⟨v, (hq.cell (by exact hb)).trans h0, (hq.cell (by exact hb)).trans h1, (hq.cell (by exact hb)).trans h2, (hq.cell (by exact hb)).trans h3, h4.adds ha⟩

theorem LstH.adds {w w' : World} {s : Value} {cs : List Ch} (h : LstH w s cs) (ha : Adds w w') : LstH w' s cs := by
  obtain ⟨ao, cap, rfl, hc, h | ⟨b, off, rfl, hlt, hl⟩⟩ := h
  · exact ⟨ao, cap, rfl, hc, .inl h⟩
  · exact ⟨_, cap, rfl, hc, .inr ⟨b, off, rfl, Nat.lt_of_lt_of_le hlt ha.below.size, hl.adds ha hlt⟩⟩

set_option maxHeartbeats 2000000 in
set_option maxRecDepth 20000 in
theorem shMayBe_any (pos : Int) (key : ByteArray) (has : Bool) (dv : Value) (doc : List F) (w : World) (hd : Lst w dv doc) :
    Calls Tryz.prog 79 #[.agg #[.int .i64 pos, .string key, .bool has, dv]] w fun e w' => e = .returned (.bool (decide (MayC key has doc))) ∧ Adds w w' := by
  have hK := key_any key
  have hC := fun w' hA => check_doc dv doc w' (hd.adds hA)
  obtain ⟨vo, vc, rfl, _, _⟩ := hd
  by_cases h1 : isKey key = true
  rotate_left
  · rw [show isKey key = false by simpa using h1] at hK
    rw [decide_eq_false (fun h : MayC key has doc => h1 h.1)]
    clear hC h1
    generalize doc.length = nd at *
    go_enter Tryz.func79, Tryz.ntmps79
    go_wp2_with (go_at_call 103; refine (hK _).mono ?_; rintro e w1 ⟨rfl, hw⟩; subst w1)
    go_ret
    exact ⟨rfl, (by repeat (first | with_reducible exact Adds.refl _ | with_reducible refine Adds.alloc ?_ _ | with_reducible refine Adds.more ?_ _ _ | with_reducible refine Adds.drew ?_ | with_reducible refine Adds.drewN ?_ _))⟩
  rw [h1] at hK
  cases has
  · rw [decide_eq_true (show MayC key false doc from ⟨h1, fun h => by cases h⟩)]
    clear hC h1
    generalize doc.length = nd at *
    go_enter Tryz.func79, Tryz.ntmps79
    go_wp2_with (go_at_call 103; refine (hK _).mono ?_; rintro e w1 ⟨rfl, hw⟩; subst w1)
    go_ret
    exact ⟨rfl, (by repeat (first | with_reducible exact Adds.refl _ | with_reducible refine Adds.alloc ?_ _ | with_reducible refine Adds.more ?_ _ _ | with_reducible refine Adds.drew ?_ | with_reducible refine Adds.drewN ?_ _))⟩
  · by_cases h2 : May doc
    · rw [err_ok h2] at hC
      rw [decide_eq_true (show MayC key true doc from ⟨h1, fun _ => h2⟩)]
      clear h1 h2
      generalize doc.length = nd at *
      go_enter Tryz.func79, Tryz.ntmps79
      go_wp2_with (first | (go_at_call 103; refine (hK _).mono ?_; rintro e w1 ⟨rfl, hw⟩; subst w1) | (go_at_call 104; refine (hC _ (by repeat (first | with_reducible exact Adds.refl _ | with_reducible refine Adds.alloc ?_ _ | with_reducible refine Adds.more ?_ _ _ | with_reducible refine Adds.drew ?_ | with_reducible refine Adds.drewN ?_ _))).mono ?_; rintro e w2 ⟨rfl, os2, n2, rfl⟩))
      go_ret
      exact ⟨rfl, (by repeat (first | with_reducible exact Adds.refl _ | with_reducible refine Adds.alloc ?_ _ | with_reducible refine Adds.more ?_ _ _ | with_reducible refine Adds.drew ?_ | with_reducible refine Adds.drewN ?_ _))⟩
    · rw [err_bad h2] at hC
      rw [decide_eq_false (fun h : MayC key true doc => h2 (h.2 rfl))]
      clear h1 h2
      generalize doc.length = nd at *
      go_enter Tryz.func79, Tryz.ntmps79
      go_wp2_with (first | (go_at_call 103; refine (hK _).mono ?_; rintro e w1 ⟨rfl, hw⟩; subst w1) | (go_at_call 104; refine (hC _ (by repeat (first | with_reducible exact Adds.refl _ | with_reducible refine Adds.alloc ?_ _ | with_reducible refine Adds.more ?_ _ _ | with_reducible refine Adds.drew ?_ | with_reducible refine Adds.drewN ?_ _))).mono ?_; rintro e w2 ⟨rfl, os2, n2, rfl⟩))
      go_ret
      exact ⟨rfl, (by repeat (first | with_reducible exact Adds.refl _ | with_reducible refine Adds.alloc ?_ _ | with_reducible refine Adds.more ?_ _ _ | with_reducible refine Adds.drew ?_ | with_reducible refine Adds.drewN ?_ _))⟩

/-- The changes are one by one from n on, and may be. -/
def Fed (n : Int) (cs : List Ch) : Prop := ∀ j (h : j < cs.length), cs[j].pos = n + 1 + j ∧ MayC cs[j].key cs[j].has cs[j].doc

set_option maxRecDepth 20000 in
set_option maxHeartbeats 1000000 in
theorem news_ok (s : Value) (cs : List Ch) (n : Int) (w : World) (hl : LstH w s cs) (hn : Fed n cs) (h16 : cs.length ≤ 16) (h0 : 0 ≤ n) (h1 : n ≤ 100000) :
    Calls Tryz.prog 58 #[s, .int .i64 n] w fun e w' => e = .returned (.bool true) ∧ Adds w w' := by
  obtain ⟨ao, cap, rfl, hcap, hlo⟩ := hl
  have HN : Hid (Fed n cs) := hn
  have h16' : ¬ (16 : Int) < (cs.length : Int) := by omega
  clear hn
  go_enter Tryz.func58, Tryz.ntmps58
  go_wp2
  go_loopw [1, 12] (fun nv i wr => ∃ k : Nat, k ≤ cs.length ∧ i = .int .i64 k ∧ nv = .int .i64 (n + k) ∧ Adds w wr) (fun _ i _ => cs.length - (intOf i).toNat)
  case atStart => exact ⟨0, Nat.zero_le _, rfl, by simp, Adds.refl _⟩
  case round =>
    obtain ⟨k, hk, rfl, rfl, hA⟩ := hrel
    have HA : Hid (Adds w wr) := hA
    clear hA
    by_cases hlt : k < cs.length
    · rcases hlo with rfl | ⟨b, off, rfl, hb, hll⟩
      · simp at hlt
      obtain ⟨v, c0, c1, c2, c3, hdoc⟩ := hll.adds HA.out hb k hlt
      obtain ⟨hp, hmc⟩ := HN.out k hlt
      have hbl : b < wr.heap.size := Nat.lt_of_lt_of_le hb HA.out.below.size
      have hltI : (k : Int) < (cs.length : Int) := by omega
      have kM := fun W (hA : Adds wr W) => shMayBe_any cs[k].pos cs[k].key cs[k].has v cs[k].doc W (hdoc.adds hA)
      rw [decide_eq_true hmc] at kM
      obtain ⟨vo, vc, rfl, _, _⟩ := hdoc
      clear hll hmc
      generalize cs[k].pos = ps at *
      generalize cs[k].key = ky at *
      generalize cs[k].has = hs at *
      generalize cs[k].doc.length = nd at *
      have e1 : ¬ ps ≤ n + k := by omega
      have e2 : (ps - 1 != n + k) = false := by simp; omega
      have e2' : (ps - 1 == n + k) = true := by simp; omega
      have e3 : ps ≤ 100020 := by omega
      have e4 : 0 ≤ ps := by omega
      have HP : Hid (ps = n + 1 + k) := hp
      clear hp
      go_wp2_with (go_at_call 79; refine (kM _ (by repeat (first | with_reducible exact Adds.refl _ | with_reducible refine Adds.alloc ?_ _ | with_reducible refine Adds.more ?_ _ _ | with_reducible refine Adds.drew ?_ | with_reducible refine Adds.drewN ?_ _))).mono ?_; rintro e w2 ⟨rfl, os2, n2, rfl⟩)
      go_roundw
      case rel => exact ⟨k + 1, by omega, by go_num, by rw [HP.out]; simp; omega, HA.out.trans (by repeat (first | with_reducible exact Adds.refl _ | with_reducible refine Adds.alloc ?_ _ | with_reducible refine Adds.more ?_ _ _ | with_reducible refine Adds.drew ?_ | with_reducible refine Adds.drewN ?_ _))⟩
      case measure => simp [intOf]; omega
    · have hk' : k = cs.length := by omega
      subst hk'
      have hltI : ¬ (cs.length : Int) < (cs.length : Int) := by omega
      clear hlo
      go_wp2
      go_ret
      exact ⟨rfl, HA.out.trans (by repeat (first | with_reducible exact Adds.refl _ | with_reducible refine Adds.alloc ?_ _ | with_reducible refine Adds.more ?_ _ _ | with_reducible refine Adds.drew ?_ | with_reducible refine Adds.drewN ?_ _))⟩

attribute [local go_sem] cell?_addTo

theorem build_told (s : ByteArray) (dv : Value) (ds : List Dn) (w : World) (hs : s.size ≤ 2000) (h : LstD w dv ds) (hl6 : ds.length ≤ 200) (xs : List E) (hx : parseA s.toList = .ok xs) (hM : MayD ds) :
    Calls Tryz.prog 57 #[.string s, dv] w fun e w' => (∃ ko kn kc, e = .returned (.tuple #[.slice ko kn kc, .int .i64 0]) ∧ Hid (Sh.Lst w' (.slice ko kn kc) (Sh.sortE (ents xs ds)))) ∧ Adds w w' :=
  (build_ok s dv ds w hs h hl6 xs hx hM).mono (by
    rintro e w' ⟨⟨v, rfl, hv⟩, hA⟩
    obtain ⟨ko, kc, rfl, _, _⟩ := id hv
    exact ⟨⟨ko, _, kc, rfl, hv⟩, hA⟩)

set_option maxRecDepth 20000 in
set_option maxHeartbeats 2000000 in
theorem load_old (s : Shl) (v : Value) (g : Nat) (o : Ov) (ds : List Dn) (xs : List E) (w : World) (hb : ShlBox w g s v) (ho : o.Sl) (hs : s.df.size ≤ 2000) (hp : parseA s.df.toList = .ok xs) (hd : LstD w o.sv ds) (hl : ds.length ≤ 200) (hM : MayD ds) (hc : countB o.n = true) (hlt : o.n < s.mark) :
    Calls Tryz.prog 43 #[ptrS g, o.val] w fun e w' => e = .returned (.int .i64 8) ∧ Adds w w' := by
  have kC := fun W => shCount_any o.n W
  rw [hc] at kC
  have kB := fun W (hA : Adds w W) => build_told s.df o.sv ds W hs (hd.adds hA) hl xs hp hM
  obtain ⟨hg, c0, c1, c2, c3, fz⟩ := hb.cells
  obtain ⟨df, rdy, mk, es⟩ := s
  obtain ⟨kind, key, to, dv, wv, has, n, most, lv, sv, nv⟩ := o
  simp only [Ov.val, Ov.Sl, Slc] at *
  obtain ⟨⟨_, _, _, rfl⟩, ⟨_, _, _, rfl⟩, ⟨_, _, _, rfl⟩, ⟨_, _, _, rfl⟩, ⟨_, _, _, rfl⟩⟩ := ho
  clear fz hb hp hM hc hd
  go_enter Tryz.func43, Tryz.ntmps43
  go_wp2_with (go_at_call 30; refine (kC _).mono ?_; rintro e w1 ⟨rfl, os1, n1, rfl⟩)
  go_region_with (go_at_call 57; refine (kB _ (by repeat (first | with_reducible exact Adds.refl _ | with_reducible refine Adds.alloc ?_ _ | with_reducible refine Adds.more ?_ _ _ | with_reducible refine Adds.drew ?_ | with_reducible refine Adds.drewN ?_ _))).mono ?_; rintro e w2 ⟨⟨ko, kn, kc, rfl, H2⟩, os2, n2, rfl⟩)
  all_goals
    go_wp2
    go_quiet (fail)
    go_wp2
    go_ret
    exact ⟨rfl, (by repeat (first | with_reducible exact Adds.refl _ | with_reducible refine Adds.alloc ?_ _ | with_reducible refine Adds.more ?_ _ _ | with_reducible refine Adds.drew ?_ | with_reducible refine Adds.drewN ?_ _))⟩

set_option maxRecDepth 20000 in
set_option maxHeartbeats 2000000 in
theorem load_new (s : Shl) (v : Value) (g : Nat) (o : Ov) (ds : List Dn) (xs : List E) (w : World) (hb : ShlBox w g s v) (ho : o.Sl) (hs : s.df.size ≤ 2000) (hp : parseA s.df.toList = .ok xs) (hd : LstD w o.sv ds) (hl : ds.length ≤ 200) (hM : MayD ds) (hc : countB o.n = true) (hu : Slc v) (hlt : ¬ o.n < s.mark) :
    Calls Tryz.prog 43 #[ptrS g, o.val] w fun e w' => e = .returned (.int .i64 0) ∧ w.grownBy w' (some g) ∧ ∃ v', ShlBox w' g ⟨s.df, s.rdy, o.n, Sh.sortE (ents xs ds)⟩ v' ∧ Sh.Lst w' v' (Sh.sortE (ents xs ds)) := by
  have kC := fun W => shCount_any o.n W
  rw [hc] at kC
  have kB := fun W (hA : Adds w W) => build_told s.df o.sv ds W hs (hd.adds hA) hl xs hp hM
  obtain ⟨hg, c0, c1, c2, c3, fz⟩ := hb.cells
  have f2 := fz 2 (by omega)
  have f3 := fz 3 (by omega)
  have HEND : Hid (∀ (X W' : World) (ko : Option Addr) (kn kc : Nat), Adds w X → Sh.Lst X (.slice ko kn kc) (Sh.sortE (ents xs ds)) → Oth g X W' → Adds ((w.setCell ⟨g, 3, none⟩ (.slice ko kn kc)).setCell ⟨g, 2, none⟩ (.int .i64 o.n)) W' → w.grownBy W' (some g) ∧ ∃ v', ShlBox W' g ⟨s.df, s.rdy, o.n, Sh.sortE (ents xs ds)⟩ v' ∧ Sh.Lst W' v' (Sh.sortE (ents xs ds))) := fun X W' ko kn kc hA hL ho hA' =>
    ⟨grown_of hA', _, (box_set hb _ _ _).adds hA', box_apart hu (hb.adds hA) hL ho⟩
  obtain ⟨df, rdy, mk, es⟩ := s
  obtain ⟨kind, key, to, dv, wv, has, n, most, lv, sv, nv⟩ := o
  simp only [Ov.val, Ov.Sl, Slc] at *
  obtain ⟨⟨_, _, _, rfl⟩, ⟨_, _, _, rfl⟩, ⟨_, _, _, rfl⟩, ⟨_, _, _, rfl⟩, ⟨_, _, _, rfl⟩⟩ := ho
  clear fz hb hp hM hc hd
  generalize Sh.sortE (ents xs ds) = R at *
  go_enter Tryz.func43, Tryz.ntmps43
  go_wp2_with (go_at_call 30; refine (kC _).mono ?_; rintro e w1 ⟨rfl, os1, n1, rfl⟩)
  go_region_with (go_at_call 57; refine (kB _ (by repeat (first | with_reducible exact Adds.refl _ | with_reducible refine Adds.alloc ?_ _ | with_reducible refine Adds.more ?_ _ _ | with_reducible refine Adds.drew ?_ | with_reducible refine Adds.drewN ?_ _))).mono ?_; rintro e w2 ⟨⟨ko, kn, kc, rfl, H2⟩, os2, n2, rfl⟩)
  all_goals
    go_wp2
    go_quiet (fail)
    go_wp2
    go_region
  all_goals
    go_wp2
    go_ret
    refine ⟨rfl, HEND.out _ _ ko kn kc ?_ H2.out ?_ (by repeat (first | with_reducible exact Adds.refl _ | with_reducible refine Adds.alloc ?_ _ | with_reducible refine Adds.more ?_ _ _ | with_reducible refine Adds.drew ?_ | with_reducible refine Adds.drewN ?_ _))⟩
    · repeat (first | with_reducible exact Adds.refl _ | with_reducible refine Adds.alloc ?_ _ | with_reducible refine Adds.more ?_ _ _ | with_reducible refine Adds.drew ?_ | with_reducible refine Adds.drewN ?_ _)
    · exact ((((Oth.refl g w).set.set).alloc _).mores _ _ _).mores _ _ _

attribute [local go_sem] cell?_addTo

/-- Documents behind the first k changes. -/
def foldN (ds : List Dn) : List Ch → List Dn
  | [] => ds
  | c :: r => foldN (foldD ds c.key c.has c.doc) r

theorem foldN_snoc (ds : List Dn) : ∀ (l : List Ch) (c : Ch), foldN ds (l ++ [c]) = foldD (foldN ds l) c.key c.has c.doc := by
  intro l
  induction l generalizing ds with
  | nil => intro c; rfl
  | cons a l ih => intro c; exact ih _ c

theorem foldN_take {ds : List Dn} {l : List Ch} {k : Nat} (h : k < l.length) : foldN ds (l.take (k + 1)) = foldD (foldN ds (l.take k)) l[k].key l[k].has l[k].doc := by
  rw [List.take_succ_eq_append_getElem h, foldN_snoc]

theorem foldN_may {ds : List Dn} (h : MayD ds) : ∀ {l : List Ch}, (∀ c ∈ l, MayC c.key c.has c.doc) → MayD (foldN ds l) := by
  intro l
  induction l generalizing ds with
  | nil => intro _; exact h
  | cons a l ih => intro hl; exact ih (foldD_may h (hl a (by simp))) (fun c hc => hl c (by simp [hc]))

theorem foldN_length (ds : List Dn) : ∀ (l : List Ch), (foldN ds l).length ≤ ds.length + l.length := by
  intro l
  induction l generalizing ds with
  | nil => simp [foldN]
  | cons a l ih =>
    have h1 := ih (foldD ds a.key a.has a.doc)
    have h2 := foldD_length ds a.key a.has a.doc
    simp only [foldN, List.length_cons]
    omega

theorem ents_len (xs : List E) (ds : List Dn) : (Sh.sortE (ents xs ds)).length ≤ ds.length := by
  have h1 : (Sh.sortE (ents xs ds)).length = (ents xs ds).length := by
    unfold Sh.sortE
    simp
  rw [h1]
  exact List.length_filterMap_le _ _

/-- Update of an index that is as built, by a change that may be. -/
theorem update_told (s : ByteArray) (ev : Value) (xs : List E) (ds : List Dn) (pos : Int) (key : ByteArray) (has : Bool) (dv : Value) (doc : List F) (w : World) (hs : s.size ≤ 2000) (hp : parseA s.toList = .ok xs) (h : Sh.Lst w ev (Sh.sortE (ents xs ds))) (hle : ds.length ≤ 900) (hM : MayD ds) (hc : MayC key has doc) (hd : Lst w dv doc) :
    Calls Tryz.prog 59 #[.string s, ev, .agg #[.int .i64 pos, .string key, .bool has, dv]] w fun e w' => (∃ ko kn kc, e = .returned (.tuple #[.slice ko kn kc, .int .i64 0]) ∧ Hid (Sh.Lst w' (.slice ko kn kc) (Sh.sortE (ents xs (foldD ds key has doc))))) ∧ Adds w w' :=
  (update_any s ev (Sh.sortE (ents xs ds)) pos key has dv doc w hs h (Nat.le_trans (ents_len xs ds) hle) hd).mono (by
    rintro e w' ⟨hg, hA⟩
    have e1 : updA s.toList (Sh.sortE (ents xs ds)) key has doc = .ok (Sh.sortE (ents xs (foldD ds key has doc))) := by
      unfold updA
      rw [hp]
      simp only [if_pos (⟨build_may hM, hc⟩ : Sh.May (Sh.sortE (ents xs ds)) ∧ MayC key has doc)]
      rw [follows_one hM hc]
    rw [e1] at hg
    obtain ⟨v, rfl, hv⟩ := hg
    obtain ⟨ko, kc, rfl, _, _⟩ := id hv
    exact ⟨⟨ko, _, kc, rfl, hv⟩, hA⟩)

/-- What lies in a row of pairs, changes or fields is not a shelf's box. -/
theorem box_cell {w : World} {g : Nat} {s : Shl} {u : Value} (hu : Slc u) (hb : ShlBox w g s u) {j : Nat} {x : Value} (h : w.cell? ⟨g, j, none⟩ = some x) : (j = 0 ∧ x = .string s.df) ∨ (j = 1 ∧ x = .bool s.rdy) ∨ (j = 2 ∧ x = .int .i64 s.mark) ∨ (j = 3 ∧ ∃ a n c, x = .slice a n c) := by
  obtain ⟨_, d0, d1, d2, d3, _⟩ := hb.cells
  obtain ⟨ua, un, uc, rfl⟩ := hu
  unfold ShlBox at hb
  have hs : 4 ≤ j → w.cell? ⟨g, j, none⟩ = none := fun hj => by
    simp only [World.cell?, hb]
    exact Array.getElem?_eq_none (by simpa using hj)
  have hj : j = 0 ∨ j = 1 ∨ j = 2 ∨ j = 3 ∨ 4 ≤ j := by omega
  rcases hj with rfl | rfl | rfl | rfl | e
  · rw [d0] at h; cases h; exact .inl ⟨rfl, rfl⟩
  · rw [d1] at h; cases h; exact .inr (.inl ⟨rfl, rfl⟩)
  · rw [d2] at h; cases h; exact .inr (.inr (.inl ⟨rfl, rfl⟩))
  · rw [d3] at h; cases h; exact .inr (.inr (.inr ⟨rfl, _, _, _, rfl⟩))
  · rw [hs e] at h; cases h

theorem grown_cell {w w' : World} {g b j : Nat} (h : w.grownBy w' (some g)) (hb : b < w.heap.size) (hne : b ≠ g) : w'.cell? ⟨b, j, none⟩ = w.cell? ⟨b, j, none⟩ := by
  have := h.block b hb (by intro e; exact hne (Option.some.inj e))
  simp only [World.cell?, this]

theorem doc_grown {w w' : World} {g : Nat} {s : Shl} {v u : Value} {l : List F} (hu : Slc u) (hb : ShlBox w g s u) (h : Lst w v l) (hg : w.grownBy w' (some g)) : Lst w' v l := by
  obtain ⟨ao, cap, rfl, hc, h0 | ⟨b, off, rfl, hlt, hl⟩⟩ := h
  · exact ⟨ao, cap, rfl, hc, .inl h0⟩
  by_cases hn : l = []
  · exact ⟨_, cap, rfl, hc, .inl hn⟩
  have hlen : 0 < l.length := List.length_pos_iff.2 hn
  have hbg : b ≠ g := by
    rintro rfl
    obtain ⟨c0, c1, _⟩ := hl 0 hlen
    rcases box_cell hu hb c0 with ⟨e, _⟩ | ⟨_, e⟩ | ⟨_, e⟩ | ⟨_, _, _, _, e⟩
    · rcases box_cell hu hb c1 with ⟨e', _⟩ | ⟨_, e'⟩ | ⟨e', _⟩ | ⟨_, _, _, _, e'⟩
      · omega
      · cases e'
      · omega
      · cases e'
    · cases e
    · cases e
    · cases e
  refine ⟨_, cap, rfl, hc, .inr ⟨b, off, rfl, Nat.lt_of_lt_of_le hlt hg.size, fun j hj => ?_⟩⟩
  obtain ⟨c0, c1, c2, c3, c4, c5⟩ := hl j hj
  exact ⟨(grown_cell hg hlt hbg).trans c0, (grown_cell hg hlt hbg).trans c1, (grown_cell hg hlt hbg).trans c2, (grown_cell hg hlt hbg).trans c3, (grown_cell hg hlt hbg).trans c4, (grown_cell hg hlt hbg).trans c5⟩

theorem news_grown {w w' : World} {g : Nat} {s : Shl} {v u : Value} {l : List Ch} (hu : Slc u) (hb : ShlBox w g s u) (h : LstH w v l) (hg : w.grownBy w' (some g)) : LstH w' v l := by
  obtain ⟨ao, cap, rfl, hc, h0 | ⟨b, off, rfl, hlt, hl⟩⟩ := h
  · exact ⟨ao, cap, rfl, hc, .inl h0⟩
  by_cases hn : l = []
  · exact ⟨_, cap, rfl, hc, .inl hn⟩
  have hlen : 0 < l.length := List.length_pos_iff.2 hn
  have hbg : b ≠ g := by
    rintro rfl
    obtain ⟨_, c0, c1, _⟩ := hl 0 hlen
    rcases box_cell hu hb c1 with ⟨e, _⟩ | ⟨_, e⟩ | ⟨_, e⟩ | ⟨_, _, _, _, e⟩
    · omega
    · cases e
    · cases e
    · cases e
  refine ⟨_, cap, rfl, hc, .inr ⟨b, off, rfl, Nat.lt_of_lt_of_le hlt hg.size, fun j hj => ?_⟩⟩
  obtain ⟨d, c0, c1, c2, c3, hd⟩ := hl j hj
  exact ⟨d, (grown_cell hg hlt hbg).trans c0, (grown_cell hg hlt hbg).trans c1, (grown_cell hg hlt hbg).trans c2, (grown_cell hg hlt hbg).trans c3, doc_grown hu hb hd hg⟩

attribute [local go_sem] cell?_addTo

set_option maxRecDepth 20000 in
set_option maxHeartbeats 2000000 in
theorem feed_old (s : Shl) (v : Value) (g : Nat) (o : Ov) (cs : List Ch) (w : World) (hb : ShlBox w g s v) (ho : o.Sl) (hc : LstH w o.nv cs) (hn : Fed o.n cs) (h16 : cs.length ≤ 16) (h0 : 0 ≤ o.n) (h1 : o.n ≤ 100000) (hlt : o.n ≠ s.mark) :
    Calls Tryz.prog 44 #[ptrS g, o.val] w fun e w' => e = .returned (.int .i64 8) ∧ Adds w w' := by
  have kN := fun W (hA : Adds w W) => news_ok o.nv cs o.n W (hc.adds hA) hn h16 h0 h1
  obtain ⟨hg, c0, c1, c2, c3, fz⟩ := hb.cells
  have hne : (o.n != s.mark) = true := by simpa using hlt
  have hne' : (o.n == s.mark) = false := by simpa using hlt
  obtain ⟨df, rdy, mk, es⟩ := s
  obtain ⟨kind, key, to, dv, wv, has, n, most, lv, sv, nv⟩ := o
  simp only [Ov.val, Ov.Sl, Slc] at *
  obtain ⟨⟨_, _, _, rfl⟩, ⟨_, _, _, rfl⟩, ⟨_, _, _, rfl⟩, ⟨_, _, _, rfl⟩, ⟨_, _, _, rfl⟩⟩ := ho
  clear fz hb hc hn h0 h1 hlt h16
  go_enter Tryz.func44, Tryz.ntmps44
  go_wp2_with (go_at_call 58; refine (kN _ (by repeat (first | with_reducible exact Adds.refl _ | with_reducible refine Adds.alloc ?_ _ | with_reducible refine Adds.more ?_ _ _ | with_reducible refine Adds.drew ?_ | with_reducible refine Adds.drewN ?_ _))).mono ?_; rintro e w1 ⟨rfl, os1, n1, rfl⟩)
  go_quiet (fail)
  go_wp2
  go_ret
  exact ⟨rfl, (by repeat (first | with_reducible exact Adds.refl _ | with_reducible refine Adds.alloc ?_ _ | with_reducible refine Adds.more ?_ _ _ | with_reducible refine Adds.drew ?_ | with_reducible refine Adds.drewN ?_ _))⟩

theorem feed_end {w wr X W' : World} {g : Nat} {s : Shl} {vr : Value} {ps : Int} {R : List Sh.F} {ko : Option Addr} {kn kc : Nat} (hb : ShlBox wr g s vr) (hu : Slc vr) (hG : w.grownBy wr (some g)) (hA : Adds wr X) (hL : Sh.Lst X (.slice ko kn kc) R) (ho : Oth g X W') (hA' : Adds ((wr.setCell ⟨g, 3, none⟩ (.slice ko kn kc)).setCell ⟨g, 2, none⟩ (.int .i64 ps)) W') :
    w.grownBy W' (some g) ∧ ∃ v', Slc v' ∧ ShlBox W' g ⟨s.df, s.rdy, ps, R⟩ v' ∧ Sh.Lst W' v' R :=
  ⟨grown_trans hG (grown_of hA'), _, ⟨_, _, _, rfl⟩, (box_set hb _ _ _).adds hA', box_apart hu (hb.adds hA) hL ho⟩

set_option maxRecDepth 20000 in
set_option maxHeartbeats 4000000 in
theorem feed_new (s : Shl) (v : Value) (g : Nat) (o : Ov) (cs : List Ch) (xs : List E) (ds : List Dn) (w : World) (hb : ShlBox w g s v) (ho : o.Sl) (hs : s.df.size ≤ 2000) (hp : parseA s.df.toList = .ok xs) (hes : s.es = Sh.sortE (ents xs ds)) (hv : Sh.Lst w v s.es) (hM : MayD ds) (hdl : ds.length ≤ 100) (hc : LstH w o.nv cs) (hn : Fed o.n cs) (h16 : cs.length ≤ 16) (h0 : 0 ≤ o.n) (h1 : o.n ≤ 100000) (heq : o.n = s.mark) :
    Calls Tryz.prog 44 #[ptrS g, o.val] w fun e w' => e = .returned (.int .i64 0) ∧ w.grownBy w' (some g) ∧ ∃ v', Slc v' ∧ ShlBox w' g ⟨s.df, s.rdy, o.n + cs.length, Sh.sortE (ents xs (foldN ds cs))⟩ v' ∧ Sh.Lst w' v' (Sh.sortE (ents xs (foldN ds cs))) := by
  have kN := fun W (hA : Adds w W) => news_ok o.nv cs o.n W (hc.adds hA) hn h16 h0 h1
  have hu : Slc v := by
    obtain ⟨a, c, rfl, _⟩ := hv
    exact ⟨_, _, _, rfl⟩
  obtain ⟨hg, c0, c1, c2, c3, fz⟩ := hb.cells
  obtain ⟨df, rdy, mk, es⟩ := s
  obtain ⟨kind, key, to, dv, wv, has, n, most, lv, sv, nv⟩ := o
  simp only [Ov.val, Ov.Sl, Slc] at *
  subst heq hes
  have HB : Hid (ShlBox w g ⟨df, rdy, n, Sh.sortE (ents xs ds)⟩ v) := hb
  have HV : Hid (Sh.Lst w v (Sh.sortE (ents xs ds))) := hv
  have HC : Hid (LstH w nv cs) := hc
  have HN : Hid (Fed n cs) := hn
  have HM : Hid (MayD ds) := hM
  have HP : Hid (parseA df.toList = .ok xs) := hp
  have HU : Hid (Slc v) := hu
  have hle : ¬ (2147483647 - n < (cs.length : Int)) := by omega
  obtain ⟨⟨_, _, _, rfl⟩, ⟨_, _, _, rfl⟩, ⟨_, _, _, rfl⟩, ⟨_, _, _, rfl⟩, _⟩ := ho
  obtain ⟨ao, cap, rfl, hcap, hlo⟩ := hc
  clear fz hb hn hM hp hv hu hlo
  go_enter Tryz.func44, Tryz.ntmps44
  go_wp2_with (go_at_call 58; refine (kN _ (by repeat (first | with_reducible exact Adds.refl _ | with_reducible refine Adds.alloc ?_ _ | with_reducible refine Adds.more ?_ _ _ | with_reducible refine Adds.drew ?_ | with_reducible refine Adds.drewN ?_ _))).mono ?_; rintro e w1 ⟨rfl, os1, n1, rfl⟩)
  go_quiet (fail)
  go_wp2
  go_quiet (fail)
  go_wp2
  go_loopw [35] (fun i wr => ∃ k : Nat, k ≤ cs.length ∧ i = .int .i64 k ∧ Hid (w.grownBy wr (some g)) ∧ Hid (∃ vr, Slc vr ∧ ShlBox wr g ⟨df, rdy, n + k, Sh.sortE (ents xs (foldN ds (cs.take k)))⟩ vr ∧ Sh.Lst wr vr (Sh.sortE (ents xs (foldN ds (cs.take k)))))) (fun i _ => cs.length - (intOf i).toNat)
  case atStart =>
    refine ⟨0, Nat.zero_le _, rfl, grown_by (by repeat (first | with_reducible exact Adds.refl _ | with_reducible refine Adds.alloc ?_ _ | with_reducible refine Adds.more ?_ _ _ | with_reducible refine Adds.drew ?_ | with_reducible refine Adds.drewN ?_ _)) _, v, HU.out, ?_, ?_⟩
    · have h : ShlBox w g ⟨df, rdy, n + ((0 : Nat) : Int), Sh.sortE (ents xs (foldN ds (cs.take 0)))⟩ v := by simpa [foldN] using HB.out
      exact h.adds (by repeat (first | with_reducible exact Adds.refl _ | with_reducible refine Adds.alloc ?_ _ | with_reducible refine Adds.more ?_ _ _ | with_reducible refine Adds.drew ?_ | with_reducible refine Adds.drewN ?_ _))
    · have h : Sh.Lst w v (Sh.sortE (ents xs (foldN ds (cs.take 0)))) := by simpa [foldN] using HV.out
      exact h.adds (by repeat (first | with_reducible exact Adds.refl _ | with_reducible refine Adds.alloc ?_ _ | with_reducible refine Adds.more ?_ _ _ | with_reducible refine Adds.drew ?_ | with_reducible refine Adds.drewN ?_ _))
  case round =>
    obtain ⟨k, hk, rfl, hG, hI⟩ := hrel
    obtain ⟨vr, hur, hbr, hvr⟩ := hI.out
    by_cases hlt : k < cs.length
    · obtain ⟨hgr, c0, c1, c2, c3, fz⟩ := hbr.cells
      have f2 := fz 2 (by omega)
      have f3 := fz 3 (by omega)
      obtain ⟨ra, rc, er, _, hll⟩ := news_grown HU.out HB.out HC.out hG.out
      simp only [Value.slice.injEq] at er
      obtain ⟨rfl, _, rfl⟩ := er
      rcases hll with rfl | ⟨b, off, rfl, hbb, hll⟩
      · simp at hlt
      obtain ⟨d, d0, d1, d2, d3, hdoc⟩ := hll k hlt
      obtain ⟨hps, hmc⟩ := HN.out k hlt
      have hMk : MayD (foldN ds (cs.take k)) := foldN_may HM.out (fun c hc => by
        obtain ⟨j, hj, rfl⟩ := List.mem_iff_getElem.1 hc
        simp only [List.length_take] at hj
        rw [List.getElem_take]
        exact (HN.out j (by omega)).2)
      have hlk : (foldN ds (cs.take k)).length ≤ 900 := by
        have := foldN_length ds (cs.take k)
        simp only [List.length_take] at this
        omega
      have hft := foldN_take (ds := ds) hlt
      have kU := fun W (hA : Adds wr W) => update_told df vr xs (foldN ds (cs.take k)) cs[k].pos cs[k].key cs[k].has d cs[k].doc W hs HP.out (hvr.adds hA) hlk hMk hmc (hdoc.adds hA)
      rw [← hft] at kU
      have HFIN : Hid (∀ (X W' : World) (ko : Option Addr) (kn kc : Nat), Adds wr X → Sh.Lst X (.slice ko kn kc) (Sh.sortE (ents xs (foldN ds (cs.take (k + 1))))) → Oth g X W' → Adds ((wr.setCell ⟨g, 3, none⟩ (.slice ko kn kc)).setCell ⟨g, 2, none⟩ (.int .i64 cs[k].pos)) W' → Hid (w.grownBy W' (some g)) ∧ Hid (∃ vr, Slc vr ∧ ShlBox W' g ⟨df, rdy, n + ((k + 1 : Nat) : Int), Sh.sortE (ents xs (foldN ds (cs.take (k + 1))))⟩ vr ∧ Sh.Lst W' vr (Sh.sortE (ents xs (foldN ds (cs.take (k + 1))))))) := fun X W' ko kn kc hA hL ho hA' => by
        rw [show n + ((k + 1 : Nat) : Int) = cs[k].pos by rw [hps]; omega]
        obtain ⟨g1, v', u', b', l'⟩ := feed_end (w := w) hbr hur hG.out hA hL ho hA'
        exact ⟨g1, v', u', b', l'⟩
      have hltI : (k : Int) < (cs.length : Int) := by omega
      obtain ⟨vo, vc, rfl, _, _⟩ := hdoc
      obtain ⟨ra, rn, rc, rfl⟩ := hur
      clear hft hMk hlk hmc hps hll fz hbr hvr hI
      generalize cs[k].pos = ps at *
      generalize cs[k].key = ky at *
      generalize cs[k].has = hh at *
      generalize cs[k].doc = dc at *
      go_wp2
      go_region_with (go_at_call 59; refine (kU _ (by repeat (first | with_reducible exact Adds.refl _ | with_reducible refine Adds.alloc ?_ _ | with_reducible refine Adds.more ?_ _ _ | with_reducible refine Adds.drew ?_ | with_reducible refine Adds.drewN ?_ _))).mono ?_; rintro e w2 ⟨⟨ko, kn, kc, rfl, H2⟩, os2, n2, rfl⟩)
      all_goals
        go_wp2
        go_roundw
        case rel => exact ⟨k + 1, by omega, by go_num, HFIN.out _ _ ko kn kc (by repeat (first | with_reducible exact Adds.refl _ | with_reducible refine Adds.alloc ?_ _ | with_reducible refine Adds.more ?_ _ _ | with_reducible refine Adds.drew ?_ | with_reducible refine Adds.drewN ?_ _)) H2.out (by repeat (first | exact Oth.refl _ _ | refine Oth.mores ?_ _ _ _ | refine Oth.alloc ?_ _ | refine Oth.set ?_ | refine Oth.drew ?_)) (by repeat (first | with_reducible exact Adds.refl _ | with_reducible refine Adds.alloc ?_ _ | with_reducible refine Adds.more ?_ _ _ | with_reducible refine Adds.drew ?_ | with_reducible refine Adds.drewN ?_ _))⟩
        case measure => simp [intOf]; omega
    · have hk' : k = cs.length := by omega
      subst hk'
      have hltI : ¬ (cs.length : Int) < (cs.length : Int) := by omega
      rw [List.take_length] at hI
      clear hbr hvr hur
      go_wp2
      go_ret
      obtain ⟨v', h1, h2, h3⟩ := hI.out
      exact ⟨rfl, hG.out, v', h1, h2, h3⟩

end Go.Proofs.YtiacnmcdfpmcfaaGreatDoor
